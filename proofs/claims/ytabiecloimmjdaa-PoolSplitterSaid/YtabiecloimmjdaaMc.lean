import Derived.Test.YtabiecloimmjdaaMb
set_option linter.all false
/-! The evaluator for all inputs, 1: code with what the types tell worked out ('low..'), and what it asks ('w..'). -/
namespace Go.Ax
open Go Go.RowKit
noncomputable section

abbrev Rg := List (Nat × Value)
def lk : Rg → Nat → Option Value
 | [], _ => none
 | (i, v) :: r, j => bif Nat.beq i j then some v else lk r j
def evS (S : Rg) : Operand → Option Value
 | .tmp t => lk S t
 | .const v => bif flat v then some v else none
 | .func f => some (.func (.func f) #[] #[])
 | .global _ => none
def evsS (S : Rg) : List Operand → Option (List Value)
 | [] => some []
 | x :: r => match evS S x with | none => none | some v => match evsS S r with | none => none | some vs => some (v :: vs)
def trS : Rg → Tr Value
 | [] => .nil
 | (i, v) :: r => (trS r).set i v
def frS (n : Nat) (S : Rg) : Fr := { fn := 0, n := n, T := trS S, defers := [], round := none }

inductive RI where
 | mov (x : Operand)
 | nilc (x : Operand)
 | addo (x : Operand) (off : Nat)
 | idx (x i : Operand) (size : Nat)
 | idxa (x i : Operand) (len size : Nat)
 | ld (x : Operand) (n : Nat)
 | lda (x : Operand) (n : Nat)
 | st (x y : Operand)
 | sta (x y : Operand) (n : Nat)
 | ari (op : BinOp) (x y : Operand)
 | cmp (op : BinOp) (x y : Operand)
 | cmpb (op : BinOp) (x y : Operand)
 | len (x : Operand)
 | mm (small : Bool) (x y : Operand)
 | call (c : Call) (ord : Bool)
 | box (e : TypeId) (x : Operand)
 | alc (e : TypeId) (z : List Value)
 | pur (o : Oper)
 | mem (o : Oper)
 | mst (o : Oper)
 | dead
 | rng (x : Operand)
 | nxt (x : Operand)
 | ent (x : Operand)
structure RO where
 dst : Option Nat
 guard : Option (Nat × Bool)
 ri : RI
inductive RC where
 | skip
 | exit (id : Nat)
 | ret
 | seq (x y : RC)
 | cond (o : Operand) (x y : RC)
 | block (id : Nat) (b : RC)
 | scp (b : RC)
 | reg (ops : List RO)
 | dreg (ops : List RO) (masks : List Nat)
 | other (c : Code)

def isI64 (P : Program) (t : TypeId) : Bool := match P.underlying t with | some (.int .i64) => true | _ => false
def arith : BinOp → Bool
 | .add | .sub | .mul | .quo | .rem => true
 | _ => false
def compares : BinOp → Bool
 | .eql | .neq | .lss | .leq | .gtr | .geq => true
 | _ => false

def clean (o : Oper) : Oper := { o with pos := "", after := #[], guard := none }
def hasGuard (ops : List Oper) : Bool := ops.any fun o => o.guard.isSome
def lowRI (P : Program) (ops : List Oper) (ord : Bool) (o : Oper) : Option RI :=
 match o.op with
 | .move x | .assign x => some (.mov x)
 | .nilCheck x => some (.nilc x)
 | .fieldAddr s x f => match P.underlying s with
  | some (.struct fs) => match fs[f]? with
   | some fd => match P.info? fd.type with
    | some i => bif Nat.beq i.size 0 then none else some (.addo x fd.offset)
    | none => none
   | none => none
  | _ => none
 | .indexAddr t x i => match P.underlying t with
  | some (.slice e) => match P.info? e with | some inf => some (.idx x i inf.size) | none => none
  | some (.array len e) => match P.info? e with | some inf => some (.idxa x i len inf.size) | none => none
  | _ => none
 | .load t x => match P.info? t, isAggB P t with
  | some i, some true => some (.lda x i.size)
  | some _, some false => some (.ld x 1)
  | _, _ => none
 | .store t x y => match P.info? t with
  | some i => bif Nat.beq i.size 1 then (match isAggB P t with | some false => some (.st x y) | _ => some (.sta x y i.size)) else some (.sta x y i.size)
  | none => none
 | .binOp op t x y _ => bif isI64 P t then (bif arith op then some (.ari op x y) else bif compares op then (bif hasGuard ops then some (.cmpb op x y) else some (.cmp op x y)) else some (.pur (clean o))) else some (.pur (clean o))
 | .box e x => some (.box e x)
 | .alloc e => match zeroOf P e with | some z => some (.alc e z.cells.toList) | none => none
 | .call c => match c.callee with
  | .builtin .len => match c.argTypes[0]? with
   | some t => match P.underlying t, c.args.toList with
    | some (.slice _), [x] => some (.len x)
    | _, _ => some (.pur (clean o))
   | none => none
  | .builtin .min => match c.args.toList with | [x, y] => bif isI64 P o.type then some (.mm true x y) else some (.pur (clean o)) | _ => some (.pur (clean o))
  | .builtin .max => match c.args.toList with | [x, y] => bif isI64 P o.type then some (.mm false x y) else some (.pur (clean o)) | _ => some (.pur (clean o))
  | .builtin _ => some (.mem (clean o))
  | _ => some (.call c ord)
 | .buildSlice .. | .makeSlice .. => some (.mem (clean o))
 | .panic _ => some .dead
 | .slice t .. => match P.underlying t with | some .string => some (.pur (clean o)) | _ => some (.mem (clean o))
 | .pick .. | .build .. | .unOp .. | .convert .. | .makeInterface .. | .makeFunc .. | .field .. | .index .. | .extract .. | .typeAssert .. => some (.pur (clean o))
 | .range t x => match P.underlying t with | some (.map _ _) => some (.rng x) | _ => none
 | .next x false => some (.nxt x)
 | .entry x => some (.ent x)
 | .makeMap .. | .lookup .. | .mapEntry .. => some (.mem (clean o))
 | .mapUpdate .. | .insert .. | .entryStore .. => some (.mst (clean o))
 | _ => none

def lowRO (P : Program) (n : Nat) (ops : List Oper) (ord : Bool) (o : Oper) : Option RO :=
 match lowRI P ops ord o with
 | none => none
 | some ri =>
  bif (match o.dst with | none => true | some d => Nat.ble (d + 1) n) then
   match o.guard with
   | none => some { dst := o.dst, guard := none, ri }
   | some (j, w) => match ops[j]? with
    | some g => match g.dst with
     | some d => some { dst := o.dst, guard := some (d, w), ri }
     | none => none
    | none => none
  else none
def lowROs (P : Program) (n : Nat) (ops : List Oper) (ord : Nat → Bool) : List Oper → Nat → Option (List RO)
 | [], _ => some []
 | o :: r, i => match lowRO P n ops (ord i) o with
  | none => none
  | some x => match lowROs P n ops ord r (i + 1) with
   | none => none
   | some l => some (x :: l)
def low (P : Program) (n : Nat) : Code → Option RC
 | .skip | .label _ => some .skip
 | .exit id => some (.exit id)
 | .ret => some .ret
 | .seq x y => match low P n x with | none => none | some a => match low P n y with | none => none | some b => some (.seq a b)
 | .cond o x y => match low P n x with | none => none | some a => match low P n y with | none => none | some b => some (.cond o a b)
 | .block id b => match low P n b with | none => none | some a => some (.block id a)
 | .region _ ops draw =>
  bif draw then
   bif regOk ops then
    let anc := ancL ops.toList
    match lowROs P n ops.toList (fun i => ordered ops.toList anc i) ops.toList 0 with
    | none => none
    | some l => some (.dreg l (ancR ops.toList 0 []))
   else none
  else match lowROs P n ops.toList (fun _ => true) ops.toList 0 with | none => none | some l => some (.reg l)
 | .scope b => match low P n b with | none => none | some a => some (.scp a)
 | .loop b => some (.other (.loop b))
 | .rangeFunc f ps a b => some (.other (.rangeFunc f ps a b))
 | _ => none

def subAt : Code → List Nat → Code
 | .seq a _, 0 :: r => subAt a r
 | .seq _ b, _ :: r => subAt b r
 | .cond _ a _, 0 :: r => subAt a r
 | .cond _ _ b, _ :: r => subAt b r
 | .block _ b, _ :: r => subAt b r
 | .scope b, _ :: r => subAt b r
 | .loop b, _ :: r => subAt b r
 | .rangeFunc _ _ a _, 0 :: r => subAt a r
 | .rangeFunc _ _ _ b, _ :: r => subAt b r
 | c, _ => c
def at_ (f : Func) (p : List Nat) : Code := subAt (f.body.getD .skip) p

def Hp.up (H : Hp) (b : Nat) (o : Ob) : Hp := { H with t := H.t.set b o }
def InR (x : Int) : Prop := -9223372036854775808 ≤ x ∧ x < 9223372036854775808

def CallsX (P : Program) (kn : Kn) (lo : Nat) (t : Target) (args : List Value) (H : Hp) (v : Value) (H' : Hp) : Prop :=
 ∃ N, ∀ m k, N ≤ m → N ≤ k → callF P kn m k lo t args H = some (.ret v, H')

def Knows (S : Rg) (T : Tr Value) : Prop := ∀ j v, lk S j = some v → T.get j = some v

def Tri (P : Program) (kn : Kn) (lo n : Nat) (rd : Bool) (c : Code) (S : Rg) (H : Hp) (K : Exit → Rg → Hp → Prop) : Prop :=
 ∀ A : Fr, A.n = n → A.round.isSome = rd → Knows S A.T →
  ∃ e S' H' T', K e S' H' ∧ Knows S' T' ∧ ∃ N, ∀ f m k, N ≤ f → N ≤ m → N ≤ k → runCode P lo (callF P kn m k) f c A H none = some (e, { A with T := T' }, H', none)

def targetS (S : Rg) (c : Call) : Option (Target × List Value) :=
 match evsS S c.args.toList with
 | none => none
 | some vs =>
  match c.callee with
  | .builtin _ => none
  | .invoke r name => match evS S r with | some v => some (.fn (.method name) #[], v :: vs) | none => none
  | .value f => match evS S f with
   | some (.func fn first cap) => some (.fn fn cap, first.toList ++ vs)
   | _ => none

def defd (S : Rg) : List Operand → Bool
 | [] => true
 | x :: r => (match evS S x with | some _ => true | none => false) && defd S r

section
variable (P : Program) (kn : Kn) (lo n : Nat) (rd : Bool)
def wRI (S : Rg) (H : Hp) (K : Value → Hp → Kd → Prop) : RI → Prop
 | .mov x => match evS S x with | some v => K v H .pure | none => False
 | .nilc x => match evS S x with
  | some (.pointer (some a)) => K (.pointer (some a)) H .pure
  | some (.iface t v) => K (.iface t v) H .pure
  | some (.func (.func f) a b) => K (.func (.func f) a b) H .pure
  | some (.func (.yield f) a b) => K (.func (.yield f) a b) H .pure
  | _ => False
 | .addo x off => match evS S x with
  | some (.pointer (some ⟨b, o, none⟩)) => K (.pointer (some ⟨b, o + off, none⟩)) H .pure
  | _ => False
 | .idx x i size => match evS S x, evS S i with
  | some (.slice (some ⟨b, o, none⟩) len _), some (.int _ j) => ∃ k : Nat, j = (k : Int) ∧ k < len ∧ K (.pointer (some ⟨b, o + k * size, none⟩)) H .pure
  | _, _ => False
 | .idxa x i len size => match evS S x, evS S i with
  | some (.pointer (some ⟨b, o, none⟩)), some (.int _ j) => ∃ k : Nat, j = (k : Int) ∧ k < len ∧ K (.pointer (some ⟨b, o + k * size, none⟩)) H .pure
  | _, _ => False
 | .ld x _ => match evS S x with
  | some (.pointer (some ⟨b, o, none⟩)) => ∃ cs v, cellsOf H b = some cs ∧ cs[o]? = some v ∧ K v H (.read b)
  | _ => False
 | .lda x m => match evS S x with
  | some (.pointer (some ⟨b, o, none⟩)) => ∃ cs r, cellsOf H b = some cs ∧ row m cs o = some r ∧ K (.agg r.toArray) H (.read b)
  | _ => False
 | .st x y => match evS S x, evS S y with
  | some (.pointer (some ⟨b, o, none⟩)), some v => ∃ cs e l, H.t.get b = some (.cells cs e l) ∧ lo ≤ b ∧ v.cells.toList = [v] ∧ one v = true ∧ o < cs.length ∧ ∀ H1, H.up b (.cells (cs.set o v) e l) = H1 → K undef H1 (.store b)
  | _, _ => False
 | .sta x y m => match evS S x, evS S y with
  | some (.pointer (some ⟨b, o, none⟩)), some v => ∃ cs e l, H.t.get b = some (.cells cs e l) ∧ lo ≤ b ∧ v.cells.toList.length = m ∧ v.cells.toList.all one = true ∧ o + m ≤ cs.length ∧ ∀ H1, H.up b (.cells (putRow cs o v.cells.toList) e l) = H1 → K undef H1 (.store b)
  | _, _ => False
 | .ari op x y => match op, evS S x, evS S y with
  | .add, some (.int .i64 a), some (.int .i64 b) => InR (a + b) ∧ K (.int .i64 (a + b)) H .pure
  | .sub, some (.int .i64 a), some (.int .i64 b) => InR (a - b) ∧ K (.int .i64 (a - b)) H .pure
  | .mul, some (.int .i64 a), some (.int .i64 b) => InR (a * b) ∧ K (.int .i64 (a * b)) H .pure
  | .quo, some (.int .i64 a), some (.int .i64 b) => 0 ≤ a ∧ 0 < b ∧ InR a ∧ K (.int .i64 (a / b)) H .pure
  | .rem, some (.int .i64 a), some (.int .i64 b) => 0 ≤ a ∧ 0 < b ∧ InR a ∧ InR b ∧ K (.int .i64 (a % b)) H .pure
  | _, _, _ => False
 | .cmp op x y => match op, evS S x, evS S y with
  | .eql, some (.int .i64 a), some (.int .i64 b) => K (.bool (a == b)) H .pure
  | .neq, some (.int .i64 a), some (.int .i64 b) => K (.bool (a != b)) H .pure
  | .lss, some (.int .i64 a), some (.int .i64 b) => K (.bool (decide (a < b))) H .pure
  | .leq, some (.int .i64 a), some (.int .i64 b) => K (.bool (decide (a ≤ b))) H .pure
  | .gtr, some (.int .i64 a), some (.int .i64 b) => K (.bool (decide (a > b))) H .pure
  | .geq, some (.int .i64 a), some (.int .i64 b) => K (.bool (decide (a ≥ b))) H .pure
  | _, _, _ => False
 | .cmpb op x y => match op, evS S x, evS S y with
  | .eql, some (.int .i64 a), some (.int .i64 b) => ∀ t, (a == b) = t → K (.bool t) H .pure
  | .neq, some (.int .i64 a), some (.int .i64 b) => ∀ t, (a != b) = t → K (.bool t) H .pure
  | .lss, some (.int .i64 a), some (.int .i64 b) => ∀ t, decide (a < b) = t → K (.bool t) H .pure
  | .leq, some (.int .i64 a), some (.int .i64 b) => ∀ t, decide (a ≤ b) = t → K (.bool t) H .pure
  | .gtr, some (.int .i64 a), some (.int .i64 b) => ∀ t, decide (a > b) = t → K (.bool t) H .pure
  | .geq, some (.int .i64 a), some (.int .i64 b) => ∀ t, decide (a ≥ b) = t → K (.bool t) H .pure
  | _, _, _ => False
 | .len x => match evS S x with
  | some (.slice _ m _) => K (.int .i64 m) H .pure
  | _ => False
 | .mm small x y => match evS S x, evS S y with
  | some (.int .i64 a), some (.int .i64 b) => K (.int .i64 (bif small then min a b else max a b)) H .pure
  | _, _ => False
 | .call c ord => match targetS S c with
  | some (t, vs) => bif !ord && marked t then ∃ v H' b, CallsX P kn lo t vs H v H' ∧ lo ≤ b ∧ markedB t = some b ∧ b < H.next ∧ oneOnly H H' b ∧ K v H' (.store b)
   else ∃ v H', CallsX P kn (bif ord then lo else H.next) t vs H v H' ∧ K v H' (bif ord then .full else .heavy)
  | none => False
 | .box e x => match evS S x with
  | some v => ∀ H1, H.new (.cells v.cells.toList e false) = H1 → K (ptr H.next) H1 .heavy
  | none => False
 | .alc e z => ∀ H1, H.new (.cells z e false) = H1 → K (ptr H.next) H1 .heavy
 | .dead => False
 | .rng _ => False
 | .nxt _ => False
 | .ent _ => False
 | .mst o => defd S o.op.operands.toList = true ∧ pureOp P (frS n S) o = none ∧ ∃ H' k, heapOp P lo (frS n S) H o = some (.skip H', k) ∧ K undef H' k
 | .pur o => defd S o.op.operands.toList = true ∧ ∃ v, pureOp P (frS n S) o = some v ∧ K v H .pure
 | .mem o => defd S o.op.operands.toList = true ∧ ((∃ v, pureOp P (frS n S) o = some v ∧ K v H .pure) ∨
   (pureOp P (frS n S) o = none ∧ ∃ v H' k, heapOp P lo (frS n S) H o = some (.val v H', k) ∧ (∀ b, k = .read b → b < H.next) ∧ K v H' k))

def putS (S : Rg) (d : Option Nat) (v : Value) : Rg := match d with | none => S | some d => (d, v) :: S

def wRO (S : Rg) (H : Hp) (o : RO) (K : Rg → Hp → Kd → Prop) : Prop :=
 match o.guard with
 | none => wRI P kn lo n S H (fun v H' k => K (putS S o.dst v) H' k) o.ri
 | some (g, want) => match lk S g with
  | some (.bool true) => bif want then wRI P kn lo n S H (fun v H' k => K (putS S o.dst v) H' k) o.ri else K (putS S o.dst undef) H .pure
  | some (.bool false) => bif want then K (putS S o.dst undef) H .pure else wRI P kn lo n S H (fun v H' k => K (putS S o.dst v) H' k) o.ri
  | some (.tuple _) => K (putS S o.dst undef) H .pure
  | _ => False
def wOps : List RO → Rg → Hp → (Rg → Hp → Prop) → Prop
 | [], S, H, K => K S H
 | o :: r, S, H, K => wRO P kn lo n S H o fun S' H' _ => wOps r S' H' K

def clashP : Kd → Kd → Prop
 | .pure, _ | _, .pure => False
 | .full, _ | _, .full => True
 | .store b, .read c | .read c, .store b => b = c
 | .store _, _ | _, .store _ => True
 | _, _ => False
def belowP (k : Kd) : Nat → List Kd → Prop
 | _, [] => True
 | m, c :: cs => (bif Nat.beq (Nat.mod m 2) 1 then True else ¬ clashP k c) ∧ belowP k (Nat.div m 2) cs
def pairsP : List Kd → List Nat → Prop
 | k :: ks, m :: ms => belowP k m ks.reverse ∧ pairsP ks ms
 | _, _ => True
def wDraw (masks : List Nat) : List RO → List Kd → Rg → Hp → (Rg → Hp → Prop) → Prop
 | [], ks, S, H, K => (bif ks.all calm then True else pairsP ks masks) ∧ K S H
 | o :: r, ks, S, H, K => wRO P kn lo n S H o fun S' H' k => match k with | .read b => b < H.next ∧ wDraw masks r (.read b :: ks) S' H' K | k => wDraw masks r (k :: ks) S' H' K

def kdW (o : RO) (H : Hp) : Kd → Kd
 | .heavy => match o.ri with | .alc _ _ => .mk H.next | .box _ _ => .mk H.next | _ => .heavy
 | k => k
def clashPR : Kd → Kd → Prop
 | .store b, .mk c | .mk c, .store b => b = c
 | k, c => clashP k c
def belowPR (k : Kd) : Nat → List Kd → Prop
 | _, [] => True
 | m, c :: cs => (bif Nat.beq (Nat.mod m 2) 1 then True else ¬ clashPR k c) ∧ belowPR k (Nat.div m 2) cs
def pairsPR : List Kd → List Nat → Prop
 | k :: ks, m :: ms => belowPR k m ks.reverse ∧ pairsPR ks ms
 | _, _ => True
def wDrawR (masks : List Nat) : List RO → List Kd → Rg → Hp → (Rg → Hp → Prop) → Prop
 | [], ks, S, H, K => pairsPR ks masks ∧ K S H
 | o :: r, ks, S, H, K => wRO P kn lo n S H o fun S' H' k => match kdW o H k with | .read b => b < H.next ∧ wDrawR masks r (.read b :: ks) S' H' K | k => wDrawR masks r (k :: ks) S' H' K

def wC : RC → Rg → Hp → (Exit → Rg → Hp → Prop) → Prop
 | .skip, S, H, K => K .normal S H
 | .exit id, S, H, K => K (.exit id) S H
 | .ret, S, H, K => K .ret S H
 | .seq x y, S, H, K => wC x S H fun e S' H' => match e with | .normal => wC y S' H' K | e => K e S' H'
 | .cond o x y, S, H, K => match evS S o with
  | some (.bool b) => (b = true → wC x S H K) ∧ (b = false → wC y S H K)
  | _ => False
 | .block id b, S, H, K => wC b S H fun e S' H' => match e with | .exit j => (bif Nat.beq j id then K .normal S' H' else K (.exit j) S' H') | e => K e S' H'
 | .scp b, S, H, K => wC b S H K
 | .reg ops, S, H, K => wOps P kn lo n ops S H fun S' H' => K .normal S' H'
 | .dreg ops masks, S, H, K => wDraw P kn lo n masks ops [] S H (fun S' H' => K .normal S' H') ∨ RoLow lo H ∧ wDrawR P kn lo n masks ops [] S H fun S' H' => K .normal S' H'
 | .other c, S, H, K => Tri P kn lo n rd c S H K
end
end
end Go.Ax

/-! The evaluator for all inputs, 2: what is asked is enough for one operation. -/
namespace Go.Ax
open Go Go.RowKit

theorem trS_get : ∀ (S : Rg) (j : Nat), (trS S).get j = lk S j
 | [], j => by simp [trS, Tr.get_nil, lk]
 | (i, v) :: r, j => by
  simp only [trS, lk, Tr.get_set, trS_get r j, beq_eq]
  by_cases h : j = i
  ·subst h; simp
  ·rw [if_neg h, decide_eq_false (fun e => h e.symm)]; rfl
theorem ev_frS (n : Nat) (S : Rg) (x : Operand) : ev (frS n S) x = evS S x := by
 cases x <;> simp [ev, evS, frS, trS_get]
section
variable {S : Rg} {A : Fr}
theorem ev_of (hA : Knows S A.T) {x : Operand} {v : Value} (h : evS S x = some v) : ev A x = some v := by
 cases x with
 | tmp t => exact hA t v h
 | const c => exact h
 | func f => exact h
 | global g => exact h
theorem evs_of (hA : Knows S A.T) : ∀ {xs : List Operand} {vs : List Value}, evsS S xs = some vs → evs A xs = some vs
 | [], vs, h => h
 | x :: xs, vs, h => by
  simp only [evsS] at h
  cases h1 : evS S x with
  | none => simp [h1] at h
  | some v =>
   cases h2 : evsS S xs with
   | none => simp [h1, h2] at h
   | some vs' =>
    simp [h1, h2] at h; subst h
    simp only [evs, ev_of hA h1, evs_of hA h2]
theorem target_of (hA : Knows S A.T) {c : Call} {p : Target × List Value} (h : targetS S c = some p) : targetOf A c = some p := by
 unfold targetS at h
 unfold targetOf
 cases h1 : evsS S c.args.toList with
 | none => simp [h1] at h
 | some vs =>
  simp only [h1] at h
  simp only [evs_of hA h1]
  cases hc : c.callee with
  | builtin b => simp [hc] at h
  | invoke r name =>
   simp only [hc] at h ⊢
   cases h2 : evS S r with
   | none => simp [h2] at h
   | some v => simp only [h2] at h; simp only [ev_of hA h2]; exact h
  | value f =>
   simp only [hc] at h ⊢
   cases h2 : evS S f with
   | none => simp [h2] at h
   | some v => simp only [h2] at h; simp only [ev_of hA h2]; exact h
theorem defd_mem : ∀ {l : List Operand}, defd S l = true → ∀ x ∈ l, ∃ v, evS S x = some v
 | [], _, x, hx => by cases hx
 | y :: l, h, x, hx => by
  simp only [defd, Bool.and_eq_true] at h
  cases hx with
  | head =>
   cases h1 : evS S y with
   | none => simp [h1] at h
   | some v => exact ⟨v, rfl⟩
  | tail _ hx => exact defd_mem h.2 x hx
theorem defd_congr (hA : Knows S A.T) {n : Nat} {o : Oper} (h : defd S o.op.operands.toList = true) : ∀ x ∈ o.op.operands, ev A x = ev (frS n S) x := by
 intro x hx
 obtain ⟨v, hv⟩ := defd_mem h x (by simpa using hx)
 rw [ev_frS, hv, ev_of hA hv]
end

theorem wrap_i64 {x : Int} (h : InR x) : IntKind.i64.wrap x = x := by
 obtain ⟨h1, h2⟩ := h
 unfold IntKind.wrap IntKind.bits IntKind.signed
 simp
 omega
theorem add_none (b o k : Nat) : Addr.add ⟨b, o, none⟩ k = ⟨b, o + k, none⟩ := by
 unfold Addr.add
 by_cases h : k = 0
 ·subst h; rfl
 ·rw [if_neg h]

def DoneO (P : Program) (kn : Kn) (lo : Nat) (ord : Bool) (A : Fr) (H : Hp) (K : Value → Hp → Kd → Prop) (o : Oper) : Prop :=
 (∃ v H' k, aOp P lo A H o = some (.val v H', k) ∧ ((∀ b, k = .read b → b < H.next) → kdOk k H = true) ∧ K v H' k) ∨ (∃ H' k, aOp P lo A H o = some (.skip H', k) ∧ K undef H' k) ∨
 (∃ t vs v H', aOp P lo A H o = some (.call t vs, .full) ∧ (!ord && marked t) = false ∧ CallsX P kn (bif ord then lo else H.next) t vs H v H' ∧ K v H' (bif ord then .full else .heavy)) ∨
 (∃ t vs v H' b, aOp P lo A H o = some (.call t vs, .full) ∧ ord = false ∧ marked t = true ∧ CallsX P kn lo t vs H v H' ∧ oneBlock lo t H H' = some b ∧ K v H' (.store b))

theorem kd_of {k : Kd} {H : Hp} : (∀ b, k = .read b → b < H.next) → kdOk k H = true := by
 intro h
 cases k with
 | read b => exact Nat.ble_eq_true_of_le (h b rfl)
 | _ => rfl

section
variable {P : Program} {kn : Kn} {lo n : Nat} {ops : List Oper} {ord : Bool} {A : Fr} {S : Rg} {H : Hp} {K : Value → Hp → Kd → Prop} {o : Oper}
theorem done_pure {v : Value} (h : pureOp P A o = some v) (hk : K v H .pure) : DoneO P kn lo ord A H K o :=
 .inl ⟨v, H, .pure, by unfold aOp; rw [h], kd_of, hk⟩
theorem done_mem {v : Value} {H' : Hp} {k : Kd} (h1 : pureOp P A o = none) (h2 : heapOp P lo A H o = some (.val v H', k)) (hk : K v H' k) : DoneO P kn lo ord A H K o :=
 .inl ⟨v, H', k, by unfold aOp; rw [h1]; exact h2, kd_of, hk⟩
theorem done_skip {H' : Hp} {k : Kd} (h1 : pureOp P A o = none) (h2 : heapOp P lo A H o = some (.skip H', k)) (hk : K undef H' k) : DoneO P kn lo ord A H K o :=
 .inr (.inl ⟨H', k, by unfold aOp; rw [h1]; exact h2, hk⟩)


theorem clean_pure (B : Fr) (o : Oper) : pureOp P B (clean o) = pureOp P B o := rfl
theorem clean_heap (B : Fr) (o : Oper) : heapOp P lo B H (clean o) = heapOp P lo B H o := rfl
theorem pur_sound (hA : Knows S A.T) (h : wRI P kn lo n S H K (.pur (clean o))) : DoneO P kn lo ord A H K o := by
 obtain ⟨hd, v, hv, hk⟩ := h
 rw [clean_pure] at hv
 have hd : defd S o.op.operands.toList = true := hd
 exact done_pure ((pureOp_congr (defd_congr hA hd)).trans hv) hk
theorem mem_sound (hA : Knows S A.T) (h : wRI P kn lo n S H K (.mem (clean o))) : DoneO P kn lo ord A H K o := by
 obtain ⟨hd, ⟨v, hv, hk⟩ | ⟨h1, v, H', k, h2, _, hk⟩⟩ := h
 all_goals have hd : defd S o.op.operands.toList = true := hd
 ·rw [clean_pure] at hv
  exact done_pure ((pureOp_congr (defd_congr hA hd)).trans hv) hk
 ·rw [clean_pure] at h1
  rw [clean_heap] at h2
  exact done_mem ((pureOp_congr (defd_congr hA hd)).trans h1) ((heapOp_congr (defd_congr hA hd)).trans h2) hk
theorem mst_sound (hA : Knows S A.T) (h : wRI P kn lo n S H K (.mst (clean o))) : DoneO P kn lo ord A H K o := by
 obtain ⟨hd, h1, H', k, h2, hk⟩ := h
 have hd : defd S o.op.operands.toList = true := hd
 rw [clean_pure] at h1
 rw [clean_heap] at h2
 exact done_skip ((pureOp_congr (defd_congr hA hd)).trans h1) ((heapOp_congr (defd_congr hA hd)).trans h2) hk
theorem call_sound {c : Call} (hb : ∀ b, c.callee ≠ .builtin b) (hop : o.op = .call c) (hA : Knows S A.T) (h : wRI P kn lo n S H K (.call c ord)) : DoneO P kn lo ord A H K o := by
 simp only [wRI] at h
 split at h <;> first | exact h.elim | skip
 rename_i t vs ht
 have e1 : aOp P lo A H o = some (.call t vs, .full) := by
  have e : pureOp P A o = none := by
   unfold pureOp; rw [hop]
   cases hcal : c.callee with
   | builtin b => exact absurd hcal (hb b)
   | _ => simp only [hcal]
  unfold aOp
  rw [e]
  unfold heapOp
  rw [hop]
  cases hcal : c.callee with
  | builtin b => exact absurd hcal (hb b)
  | _ => simp only [hcal, target_of hA ht]
 cases hm : (!ord && marked t) with
 | false =>
  rw [hm] at h
  simp only [cond_false] at h
  obtain ⟨v, H', hc, hk⟩ := h
  exact .inr (.inr (.inl ⟨t, vs, v, H', e1, hm, hc, hk⟩))
 | true =>
  rw [hm] at h
  simp only [cond_true] at h
  obtain ⟨v, H', b, hc, h1, h2, h3, h4, hk⟩ := h
  simp only [Bool.and_eq_true, Bool.not_eq_true'] at hm
  refine .inr (.inr (.inr ⟨t, vs, v, H', b, e1, hm.1, hm.2, hc, ?_, hk⟩))
  unfold oneBlock
  rw [h2]
  simp only
  rw [if_pos ⟨h1, h4⟩]

theorem tdiv_pos {a b : Int} (ha : 0 ≤ a) (_hb : 0 < b) : a.tdiv b = a / b := Int.tdiv_eq_ediv_of_nonneg ha
theorem tmod_pos {a b : Int} (ha : 0 ≤ a) : a.tmod b = a % b := Int.tmod_eq_emod_of_nonneg ha
theorem ari_sound {op : BinOp} {t ty : TypeId} {x y : Operand} (hop : o.op = .binOp op t x y ty) (hA : Knows S A.T) (h : wRI P kn lo n S H K (.ari op x y)) : DoneO P kn lo ord A H K o := by
 simp only [wRI] at h
 split at h <;> first | exact h.elim | skip
 ·rename_i a b h1 h2
  obtain ⟨hr, h⟩ := h
  refine done_pure ?_ h
  have : pureOp P A o = some (.int .i64 (IntKind.i64.wrap (a + b))) := by unfold pureOp; rw [hop]; simp only [ev_of hA h1, ev_of hA h2]; rfl
  rw [this, wrap_i64 hr]
 ·rename_i a b h1 h2
  obtain ⟨hr, h⟩ := h
  refine done_pure ?_ h
  have : pureOp P A o = some (.int .i64 (IntKind.i64.wrap (a - b))) := by unfold pureOp; rw [hop]; simp only [ev_of hA h1, ev_of hA h2]; rfl
  rw [this, wrap_i64 hr]
 ·rename_i a b h1 h2
  obtain ⟨hr, h⟩ := h
  refine done_pure ?_ h
  have : pureOp P A o = some (.int .i64 (IntKind.i64.wrap (a * b))) := by unfold pureOp; rw [hop]; simp only [ev_of hA h1, ev_of hA h2]; rfl
  rw [this, wrap_i64 hr]
 ·rename_i a b h1 h2
  obtain ⟨ha, hb, hr, h⟩ := h
  refine done_pure ?_ h
  have : pureOp P A o = match prun P (Op.intDiv .quo .i64 a b) with | some v => bif flat v then some v else none | none => none := by unfold pureOp; rw [hop]; simp only [ev_of hA h1, ev_of hA h2]; rfl
  rw [this]
  unfold Op.intDiv
  rw [if_neg (by omega)]
  simp only [tdiv_pos ha hb]
  show some (Value.int .i64 (IntKind.i64.wrap (a / b))) = _
  rw [wrap_i64 ⟨by have := Int.ediv_nonneg ha (Int.le_of_lt hb); omega, by have := Int.ediv_le_self b ha; have := hr.2; omega⟩]
 ·rename_i a b h1 h2
  obtain ⟨ha, hb, hr, hr2, h⟩ := h
  refine done_pure ?_ h
  have : pureOp P A o = match prun P (Op.intDiv .rem .i64 a b) with | some v => bif flat v then some v else none | none => none := by unfold pureOp; rw [hop]; simp only [ev_of hA h1, ev_of hA h2]; rfl
  rw [this]
  unfold Op.intDiv
  rw [if_neg (by omega)]
  simp only [tmod_pos ha]
  rfl
theorem cmp_sound {op : BinOp} {t ty : TypeId} {x y : Operand} (hop : o.op = .binOp op t x y ty) (hA : Knows S A.T) (h : wRI P kn lo n S H K (.cmp op x y)) : DoneO P kn lo ord A H K o := by
 simp only [wRI] at h
 split at h <;> first | exact h.elim | skip
 all_goals
  rename_i a b h1 h2
  refine done_pure ?_ h
  unfold pureOp; rw [hop]; simp only [ev_of hA h1, ev_of hA h2]; rfl
theorem cmpb_sound {op : BinOp} {t ty : TypeId} {x y : Operand} (hop : o.op = .binOp op t x y ty) (hA : Knows S A.T) (h : wRI P kn lo n S H K (.cmpb op x y)) : DoneO P kn lo ord A H K o := by
 simp only [wRI] at h
 split at h <;> first | exact h.elim | skip
 all_goals
  rename_i a b h1 h2
  refine done_pure ?_ (h _ rfl)
  unfold pureOp; rw [hop]; simp only [ev_of hA h1, ev_of hA h2]; rfl
theorem mm_int (a b : Int) : (if b < a then b else a) = min a b := by
 rw [Int.min_def]
 split <;> split <;> omega
theorem mx_int (a b : Int) : (if b > a then b else a) = max a b := by
 rw [Int.max_def]
 split <;> split <;> omega

theorem wRI_sound {ri : RI} (hl : lowRI P ops ord o = some ri) (hA : Knows S A.T) (h : wRI P kn lo n S H K ri) : DoneO P kn lo ord A H K o := by
 unfold lowRI at hl
 split at hl <;> (rename_i hop; first | (cases hl; done) | skip)
 case h_1 x =>
  cases hl
  simp only [wRI] at h
  split at h <;> first | exact h.elim | skip
  rename_i v hv
  exact done_pure (by unfold pureOp; rw [hop]; exact ev_of hA hv) h
 case h_2 x =>
  cases hl
  simp only [wRI] at h
  split at h <;> first | exact h.elim | skip
  rename_i v hv
  exact done_pure (by unfold pureOp; rw [hop]; exact ev_of hA hv) h
 case h_3 x =>
  cases hl
  simp only [wRI] at h
  split at h <;> first | exact h.elim | skip
  all_goals
   rename_i hv
   exact done_pure (by unfold pureOp; rw [hop]; simp only [ev_of hA hv]) h
 case h_4 s x f =>
  split at hl <;> first | (cases hl; done) | skip
  rename_i fs hs
  split at hl <;> first | (cases hl; done) | skip
  rename_i fd hf
  split at hl <;> first | (cases hl; done) | skip
  rename_i i hi
  cases hz : Nat.beq i.size 0 with
  | true => rw [hz] at hl; cases hl
  | false =>
   rw [hz] at hl; cases hl
   simp only [wRI] at h
   split at h <;> first | exact h.elim | skip
   rename_i b o' hv
   exact done_pure (by unfold pureOp; rw [hop]; simp only [ev_of hA hv, hs, hf, hi, hz, cond_false, add_none]) h
 case h_5 t x i =>
  split at hl <;> first | (cases hl; done) | skip
  ·rename_i e ht
   split at hl <;> first | (cases hl; done) | skip
   rename_i inf hi
   cases hl
   simp only [wRI] at h
   split at h <;> first | exact h.elim | skip
   rename_i b o' len cp kd j h1 h2
   obtain ⟨k, rfl, hk, h⟩ := h
   exact done_pure (by unfold pureOp; rw [hop]; simp only [ev_of hA h1, ev_of hA h2, ht, hi, show ((k : Nat) : Int) = Int.ofNat k from rfl, Nat.ble_eq_true_of_le (show k + 1 ≤ len from hk), cond_true, add_none]) h
  ·rename_i len e ht
   split at hl <;> first | (cases hl; done) | skip
   rename_i inf hi
   cases hl
   simp only [wRI] at h
   split at h <;> first | exact h.elim | skip
   rename_i b o' kd j h1 h2
   obtain ⟨k, rfl, hk, h⟩ := h
   exact done_pure (by unfold pureOp; rw [hop]; simp only [ev_of hA h1, ev_of hA h2, ht, hi, show ((k : Nat) : Int) = Int.ofNat k from rfl, Nat.ble_eq_true_of_le (show k + 1 ≤ len from hk), cond_true, add_none]) h
 case h_6 t x =>
  split at hl <;> first | (cases hl; done) | skip
  ·rename_i i hi ha
   cases hl
   simp only [wRI] at h
   split at h <;> first | exact h.elim | skip
   rename_i b o' hv
   obtain ⟨cs, r, hc, hr, h⟩ := h
   exact done_mem (by unfold pureOp; rw [hop]) (by unfold heapOp; rw [hop]; simp only [ev_of hA hv, loadV, hc, ha, hi, hr]) h
  ·rename_i i hi ha
   cases hl
   simp only [wRI] at h
   split at h <;> first | exact h.elim | skip
   rename_i b o' hv
   obtain ⟨cs, v, hc, hr, h⟩ := h
   exact done_mem (by unfold pureOp; rw [hop]) (by unfold heapOp; rw [hop]; simp only [ev_of hA hv, loadV, hc, ha, hr]) h
 case h_7 t x y =>
  split at hl <;> first | (cases hl; done) | skip
  rename_i i hi
  have key : ∀ m, i.size = m → wRI P kn lo n S H K (.sta x y m) → DoneO P kn lo ord A H K o := by
   intro m hm h
   simp only [wRI] at h
   split at h <;> first | exact h.elim | skip
   rename_i b o' v h1 h2
   obtain ⟨cs, e, l, hc, hlo, hv1, hv2, ho, h⟩ := h
   refine done_skip (by unfold pureOp; rw [hop]) (k := .store b) (H' := H.up b (.cells (putRow cs o' v.cells.toList) e l)) ?_ (h _ rfl)
   unfold heapOp
   rw [hop]
   simp only [ev_of hA h1, ev_of hA h2, storeV, hc, hi, hm, Nat.ble_eq_true_of_le hlo, Nat.ble_eq_true_of_le ho, hv1, hv2, Nat.beq_refl, Bool.and_true, cond_true]
   rfl
  cases hz : Nat.beq i.size 1 with
  | false => rw [hz] at hl; cases hl; exact key _ rfl h
  | true =>
   rw [hz] at hl
   simp only [cond_true] at hl
   split at hl
   ·cases hl
    refine key 1 (Nat.eq_of_beq_eq_true hz) ?_
    simp only [wRI] at h ⊢
    split at h <;> first | exact h.elim | skip
    rename_i b o' v h1 h2
    obtain ⟨cs, e, l, hc, hlo, hv1, hv2, ho, h⟩ := h
    refine ⟨cs, e, l, hc, hlo, by rw [hv1]; rfl, by rw [hv1]; simp [hv2], ho, ?_⟩
    rw [hv1]
    exact h
   ·cases hl; exact key _ rfl h
 case h_8 op t x y ty =>
  cases hi : isI64 P t with
  | false => rw [hi] at hl; cases hl; exact pur_sound hA h
  | true =>
   rw [hi] at hl
   simp only [cond_true] at hl
   cases ha : arith op with
   | true => rw [ha] at hl; cases hl; exact ari_sound hop hA h
   | false =>
    rw [ha] at hl
    simp only [cond_false] at hl
    cases hc : compares op with
    | true =>
     rw [hc] at hl
     simp only [cond_true] at hl
     cases hg : hasGuard ops with
     | true => rw [hg] at hl; cases hl; exact cmpb_sound hop hA h
     | false => rw [hg] at hl; cases hl; exact cmp_sound hop hA h
    | false => rw [hc] at hl; cases hl; exact pur_sound hA h
 case h_9 e x =>
  cases hl
  simp only [wRI] at h
  split at h <;> first | exact h.elim | skip
  rename_i v hv
  exact done_mem (by unfold pureOp; rw [hop]) (by unfold heapOp; rw [hop]; simp only [ev_of hA hv]) (h _ rfl)
 case h_10 e =>
  split at hl <;> first | (cases hl; done) | skip
  rename_i z hz
  cases hl
  simp only [wRI] at h
  exact done_mem (by unfold pureOp; rw [hop]) (by unfold heapOp; rw [hop]; simp only [hz]) (h _ rfl)
 case h_11 c =>
  split at hl
  ·rename_i hcal
   split at hl <;> first | (cases hl; done) | skip
   rename_i t ht
   split at hl
   ·rename_i e x hu hargs
    cases hl
    simp only [wRI] at h
    split at h <;> first | exact h.elim | skip
    rename_i a m cp hv
    refine done_pure ?_ h
    unfold pureOp
    rw [hop]
    simp only [hcal, hargs, evs, ev_of hA hv, pureCall, ht, hu]
   ·cases hl; exact pur_sound hA h
  ·rename_i hcal
   split at hl
   ·rename_i x y hargs
    cases hi : isI64 P o.type with
    | false => rw [hi] at hl; cases hl; exact pur_sound hA h
    | true =>
     rw [hi] at hl; cases hl
     simp only [wRI] at h
     split at h <;> first | exact h.elim | skip
     rename_i a b h1 h2
     refine done_pure ?_ h
     unfold pureOp
     rw [hop]
     simp only [hcal, hargs, evs, ev_of hA h1, ev_of hA h2, cond_true]
     show some (Value.int .i64 (if b < a then b else a)) = _
     rw [mm_int]
   ·cases hl; exact pur_sound hA h
  ·rename_i hcal
   split at hl
   ·rename_i x y hargs
    cases hi : isI64 P o.type with
    | false => rw [hi] at hl; cases hl; exact pur_sound hA h
    | true =>
     rw [hi] at hl; cases hl
     simp only [wRI] at h
     split at h <;> first | exact h.elim | skip
     rename_i a b h1 h2
     refine done_pure ?_ h
     unfold pureOp
     rw [hop]
     simp only [hcal, hargs, evs, ev_of hA h1, ev_of hA h2, cond_false]
     show some (Value.int .i64 (if b > a then b else a)) = _
     rw [mx_int]
   ·cases hl; exact pur_sound hA h
  ·cases hl; exact mem_sound hA h
  ·rename_i hcal
   cases hl; exact call_sound (fun b e => hcal b e) hop hA h
 case h_15 =>
  split at hl
  ·cases hl; exact pur_sound hA h
  ·cases hl; exact mem_sound hA h
 all_goals first
  | (cases hl; exact mem_sound hA h)
  | (cases hl; exact mst_sound hA h)
  | (cases hl; exact pur_sound hA h)
  | (cases hl; exact False.elim h)
  | (split at hl <;> first | (cases hl; done) | (cases hl; exact False.elim h))
end
end Go.Ax

/-! The evaluator for all inputs, 3: what is asked is enough for regions and code. -/
namespace Go.Ax
open Go Go.RowKit

noncomputable def putTr (T : Tr Value) (d : Option Nat) (v : Value) : Tr Value := match d with | none => T | some d => T.set d v
theorem knows_put {S : Rg} {T : Tr Value} (h : Knows S T) (d : Option Nat) (v : Value) : Knows (putS S d v) (putTr T d v) := by
 cases d with
 | none => exact h
 | some d =>
  intro j u hj
  simp only [putS, lk, beq_eq] at hj
  simp only [putTr, Tr.get_set]
  by_cases e : j = d
  ·subst e; simpa using hj
  ·rw [decide_eq_false (fun q => e q.symm)] at hj
   rw [if_neg e]
   exact h j u hj
theorem put_ok {A : Fr} {d : Option Nat} (h : (match d with | none => true | some d => Nat.ble (d + 1) A.n) = true) (v : Value) : A.put d v = some { A with T := putTr A.T d v } := by
 cases d with
 | none => rfl
 | some d => simp only [Fr.put]; simp only at h; rw [h]; rfl

section
variable {P : Program} {kn : Kn} {lo n : Nat}

theorem wRO_sound {ops : Array Oper} {ord : Bool} {A : Fr} {S : Rg} {H : Hp} {K : Rg → Hp → Kd → Prop} {o : Oper} {ro : RO} (hl : lowRO P n ops.toList ord o = some ro) (hA : Knows S A.T) (hn : A.n = n) (h : wRO P kn lo n S H ro K) :
  (∀ v, A.put o.dst v = some { A with T := putTr A.T o.dst v }) ∧
  ((wantedA ops A o = some false ∧ K (putS S o.dst undef) H .pure) ∨ (wantedA ops A o = some true ∧ DoneO P kn lo ord A H (fun v H' k => K (putS S o.dst v) H' k) o)) := by
 unfold lowRO at hl
 split at hl <;> first | (cases hl; done) | skip
 rename_i ri hri
 obtain ⟨hd, hl⟩ := bif_some hl
 refine ⟨put_ok (by rw [hn]; exact hd), ?_⟩
 split at hl
 ·rename_i hg
  cases hl
  simp only [wRO] at h
  exact .inr ⟨by unfold wantedA; rw [hg], wRI_sound hri hA h⟩
 ·rename_i j w hg
  split at hl <;> first | (cases hl; done) | skip
  rename_i g hj
  split at hl <;> first | (cases hl; done) | skip
  rename_i d hgd
  cases hl
  have hj' : ops[j]? = some g := by simpa using hj
  simp only [wRO] at h
  split at h <;> first | exact h.elim | skip
  ·rename_i hb
   have hw : wantedA ops A o = some (true == w) := by unfold wantedA; rw [hg]; simp only [hj', hgd, hA d _ hb]
   cases w with
   | true => exact .inr ⟨by rw [hw]; rfl, wRI_sound hri hA h⟩
   | false => exact .inl ⟨by rw [hw]; rfl, h⟩
  ·rename_i hb
   have hw : wantedA ops A o = some (false == w) := by unfold wantedA; rw [hg]; simp only [hj', hgd, hA d _ hb]
   cases w with
   | true => exact .inl ⟨by rw [hw]; rfl, h⟩
   | false => exact .inr ⟨by rw [hw]; rfl, wRI_sound hri hA h⟩
  ·rename_i vs hb
   exact .inl ⟨by unfold wantedA; rw [hg]; simp only [hj', hgd, hA d _ hb], h⟩

theorem wOps_sound {ops : Array Oper} : ∀ (rest pre : List Oper) {rl : List RO} {A : Fr} {S : Rg} {H : Hp} {K : Rg → Hp → Prop}, ops.toList = pre ++ rest → lowROs P n ops.toList (fun _ => true) rest pre.length = some rl → Knows S A.T → A.n = n → wOps P kn lo n rl S H K →
  ∃ S' H' T', K S' H' ∧ Knows S' T' ∧ ∃ N, ∀ m k, N ≤ m → N ≤ k → runOps P lo (callF P kn m k) ops (List.range' pre.length rest.length) A H none = some (.normal, { A with T := T' }, H', none)
 | [], pre, rl, A, S, H, K, he, hl, hA, hn, h => by
  simp only [lowROs] at hl; cases hl
  exact ⟨S, H, A.T, h, hA, 0, fun m k _ _ => rfl⟩
 | o :: rest, pre, rl, A, S, H, K, he, hl, hA, hn, h => by
  simp only [lowROs] at hl
  split at hl <;> first | (cases hl; done) | skip
  rename_i ro hro
  split at hl <;> first | (cases hl; done) | skip
  rename_i l hrest
  cases hl
  simp only [wOps] at h
  have ho : ops[pre.length]? = some o := by
   have : ops.toList[pre.length]? = some o := by rw [he]; simp
   simpa using this
  have he2 : ops.toList = (pre ++ [o]) ++ rest := by rw [he]; simp
  have ih := fun {A' : Fr} {S' : Rg} {H' : Hp} (hA' : Knows S' A'.T) (hn' : A'.n = n) (h' : wOps P kn lo n l S' H' K) => wOps_sound rest (pre ++ [o]) (rl := l) he2 (by simpa using hrest) hA' hn' h'
  simp only [List.length_append, List.length_singleton] at ih
  obtain ⟨hput, hcase⟩ := wRO_sound hro hA hn h
  have hr : List.range' pre.length (o :: rest).length = pre.length :: List.range' (pre.length + 1) rest.length := by simp [List.range']
  rw [hr]
  rcases hcase with ⟨hw, h⟩ | ⟨hw, hdone⟩
  ·obtain ⟨S', H', T', a, b, N, c⟩ := ih (A' := { A with T := putTr A.T o.dst undef }) (knows_put hA o.dst undef) hn h
   refine ⟨S', H', T', a, b, N, fun m k hm hk => ?_⟩
   rw [runOps]
   simp only [ho, hw, hput]
   exact c m k hm hk
  ·rcases hdone with ⟨v, H1, kd, e, _, h⟩ | ⟨H1, kd, e, h⟩ | ⟨t, vs, v, H1, e, _, ⟨N1, hc⟩, h⟩ | ⟨_, _, _, _, _, _, hf, _⟩
   rotate_right
   ·cases hf
   ·obtain ⟨S', H', T', a, b, N, c⟩ := ih (A' := { A with T := putTr A.T o.dst v }) (knows_put hA o.dst v) hn h
    refine ⟨S', H', T', a, b, N, fun m k hm hk => ?_⟩
    rw [runOps]
    simp only [ho, hw, e, hput]
    exact c m k hm hk
   ·obtain ⟨S', H', T', a, b, N, c⟩ := ih (A' := { A with T := putTr A.T o.dst undef }) (knows_put hA o.dst undef) hn h
    refine ⟨S', H', T', a, b, N, fun m k hm hk => ?_⟩
    rw [runOps]
    simp only [ho, hw, e, hput]
    exact c m k hm hk
   ·obtain ⟨S', H', T', a, b, N, c⟩ := ih (A' := { A with T := putTr A.T o.dst v }) (knows_put hA o.dst v) hn h
    refine ⟨S', H', T', a, b, N + N1, fun m k hm hk => ?_⟩
    rw [runOps]
    have := hc m k (by omega) (by omega)
    simp only [cond_true] at this
    simp only [ho, hw, e, this, hput]
    exact c m k (by omega) (by omega)

theorem kd_split {H : Hp} {k : Kd} {X : Kd → Prop} (h : match k with | .read b => b < H.next ∧ X (.read b) | k => X k) : (∀ b, k = .read b → b < H.next) ∧ X k := by
 cases k with
 | read b => exact ⟨fun c e => (by cases e; exact h.1), h.2⟩
 | _ => exact ⟨fun c e => (by cases e), h⟩
def flatK : Kd → Kd
 | .mk _ => .heavy
 | k => k
theorem flat_kdOf {A : Fr} {H H' : Hp} {o : Oper} {v : Value} {k : Kd} (h : aOp P lo A H o = some (.val v H', k)) : flatK (kdOf o H k) = k := by
 cases k with
 | heavy => unfold kdOf; cases mkOp o <;> rfl
 | mk b =>
  exfalso
  unfold aOp at h
  split at h
  ·cases h
  ·exact heapOp_nomk h
 | _ => rfl
theorem flat_skip {A : Fr} {H H' : Hp} {o : Oper} {k : Kd} (h : aOp P lo A H o = some (.skip H', k)) : flatK k = k := by
 cases k with
 | mk b =>
  exfalso
  unfold aOp at h
  split at h
  ·cases h
  ·exact heapOp_nomk h
 | _ => rfl
theorem flat_calm (ks : List Kd) : (ks.map flatK).all calm = ks.all calm := by
 rw [List.all_map]
 congr 1
 funext k
 cases k <;> rfl
theorem flat_clash (k c : Kd) : clash (flatK k) (flatK c) = clash k c := by cases k <;> cases c <;> rfl
theorem flat_below (k : Kd) (m : Nat) : ∀ (cs : List Kd) (n : Nat), pairsG.belowG clash (flatK k) m (cs.map flatK) n = pairsG.belowG clash k m cs n
 | [], _ => rfl
 | c :: cs, n => by simp only [List.map_cons, pairsG.belowG, flat_clash, flat_below k m cs]
theorem flat_pairs : ∀ (ks : List Kd) (ms : List Nat), pairsG clash (ks.map flatK) ms = pairsG clash ks ms
 | [], ms => by simp [pairsG]
 | k :: ks, [] => by simp [pairsG]
 | k :: ks, m :: ms => by
  have := flat_below k m ks ks.length
  simp only [List.map_cons, pairsG, List.length_map, flat_pairs ks ms, this]
theorem wDraw_sound {ops : Array Oper} {masks : List Nat} : ∀ (rest pre : List Oper) {rl : List RO} {A : Fr} {S : Rg} {H : Hp} {ks : List Kd} {K : Rg → Hp → Prop}, ops.toList = pre ++ rest → lowROs P n ops.toList (fun i => ordered ops.toList (ancL ops.toList) i) rest pre.length = some rl → Knows S A.T → A.n = n → wDraw P kn lo n masks rl (ks.map flatK) S H K →
  ∃ S' H' T' ks', K S' H' ∧ (bif (ks'.map flatK).all calm then True else pairsP (ks'.map flatK) masks) ∧ Knows S' T' ∧ ∃ N, ∀ m k, N ≤ m → N ≤ k → runDraw P lo (callF P kn m k) ops rest pre.length ks A H = some (ks', { A with T := T' }, H')
 | [], pre, rl, A, S, H, ks, K, he, hl, hA, hn, h => by
  simp only [lowROs] at hl; cases hl
  exact ⟨S, H, A.T, ks, h.2, h.1, hA, 0, fun m k _ _ => rfl⟩
 | o :: rest, pre, rl, A, S, H, ks, K, he, hl, hA, hn, h => by
  simp only [lowROs] at hl
  split at hl <;> first | (cases hl; done) | skip
  rename_i ro hro
  split at hl <;> first | (cases hl; done) | skip
  rename_i l hrest
  cases hl
  simp only [wDraw] at h
  have he2 : ops.toList = (pre ++ [o]) ++ rest := by rw [he]; simp
  have ih := fun {A' : Fr} {S' : Rg} {H' : Hp} {ks' : List Kd} (hA' : Knows S' A'.T) (hn' : A'.n = n) (h' : wDraw P kn lo n masks l (ks'.map flatK) S' H' K) => wDraw_sound rest (pre ++ [o]) (rl := l) he2 (by simpa using hrest) hA' hn' h'
  simp only [List.length_append, List.length_singleton] at ih
  obtain ⟨hput, hcase⟩ := wRO_sound hro hA hn h
  rcases hcase with ⟨hw, h⟩ | ⟨hw, hdone⟩
  ·obtain ⟨S', H', T', ks', a, a2, b, N, c⟩ := ih (ks' := .pure :: ks) (A' := { A with T := putTr A.T o.dst undef }) (knows_put hA o.dst undef) hn h
   refine ⟨S', H', T', ks', a, a2, b, N, fun m k hm hk => ?_⟩
   rw [runDraw]
   simp only [hw, hput]
   exact c m k hm hk
  ·rcases hdone with ⟨v, H1, kd, e, hkd, h⟩ | ⟨H1, kd, e, h⟩ | ⟨t, vs, v, H1, e, hmk, ⟨N1, hc⟩, h⟩ | ⟨t, vs, v, H1, bk, e, hord, hmk, ⟨N1, hc⟩, hob, h⟩
   ·obtain ⟨hb, h⟩ := kd_split (X := fun k => wDraw P kn lo n masks l (k :: ks.map flatK) (putS S o.dst v) H1 K) h
    rw [← flat_kdOf e, ← List.map_cons] at h
    obtain ⟨S', H', T', ks', a, a2, b, N, c⟩ := ih (A' := { A with T := putTr A.T o.dst v }) (knows_put hA o.dst v) hn h
    refine ⟨S', H', T', ks', a, a2, b, N, fun m k hm hk => ?_⟩
    rw [runDraw]
    have hkd : kdOk kd H = true := hkd hb
    simp only [hw, e, hkd, hput, cond_true]
    exact c m k hm hk
   ·obtain ⟨_, h⟩ := kd_split (X := fun k => wDraw P kn lo n masks l (k :: ks.map flatK) (putS S o.dst undef) H1 K) h
    rw [← flat_skip e, ← List.map_cons] at h
    obtain ⟨S', H', T', ks', a, a2, b, N, c⟩ := ih (A' := { A with T := putTr A.T o.dst undef }) (knows_put hA o.dst undef) hn h
    refine ⟨S', H', T', ks', a, a2, b, N, fun m k hm hk => ?_⟩
    rw [runDraw]
    simp only [hw, e, hput]
    exact c m k hm hk
   ·cases ho : ordered ops.toList (ancL ops.toList) pre.length with
    | true =>
     simp only [ho, cond_true] at hc h
     obtain ⟨S', H', T', ks', a, a2, b, N, c⟩ := ih (ks' := .full :: ks) (A' := { A with T := putTr A.T o.dst v }) (knows_put hA o.dst v) hn h
     refine ⟨S', H', T', ks', a, a2, b, N + N1, fun m k hm hk => ?_⟩
     rw [runDraw]
     simp only [hw, e, ho, cond_true, hc m k (by omega) (by omega), hput]
     exact c m k (by omega) (by omega)
    | false =>
     simp only [ho, cond_false] at hc h
     obtain ⟨S', H', T', ks', a, a2, b, N, c⟩ := ih (ks' := .heavy :: ks) (A' := { A with T := putTr A.T o.dst v }) (knows_put hA o.dst v) hn h
     refine ⟨S', H', T', ks', a, a2, b, N + N1, fun m k hm hk => ?_⟩
     rw [runDraw]
     have hmk : marked t = false := by simpa [ho] using hmk
     simp only [hw, e, ho, hmk, cond_false, hc m k (by omega) (by omega), hput]
     exact c m k (by omega) (by omega)
   ·obtain ⟨S', H', T', ks', a, a2, b, N, c⟩ := ih (ks' := .store bk :: ks) (A' := { A with T := putTr A.T o.dst v }) (knows_put hA o.dst v) hn h
    refine ⟨S', H', T', ks', a, a2, b, N + N1, fun m k hm hk => ?_⟩
    rw [runDraw]
    simp only [hw, e, hord, hmk, cond_false, cond_true, hc m k (by omega) (by omega), hob, hput]
    exact c m k (by omega) (by omega)

theorem clash_of {k c : Kd} (h : ¬ clashP k c) : clash k c = false := by
 cases k <;> cases c <;> simp_all [clashP, clash, beq_eq]
theorem belowP_snoc {k c : Kd} : ∀ (l : List Kd) (m : Nat), belowP k m (l ++ [c]) → belowP k m l ∧ (m.testBit l.length = true ∨ ¬ clashP k c)
 | [], m, h => by
  simp only [List.nil_append, belowP] at h
  refine ⟨trivial, ?_⟩
  cases hb : Nat.beq (Nat.mod m 2) 1 with
  | true =>
   left
   have := Nat.eq_of_beq_eq_true hb
   simp only [List.length_nil, Nat.testBit_zero]
   exact decide_eq_true this
  | false => rw [hb] at h; exact .inr h.1
 | d :: l, m, h => by
  simp only [List.cons_append, belowP] at h
  obtain ⟨h1, h2⟩ := belowP_snoc l _ h.2
  refine ⟨⟨h.1, h1⟩, h2.imp (fun q => ?_) id⟩
  simp only [List.length_cons]
  rw [Nat.testBit_succ]
  exact q
theorem below_of {k : Kd} {m : Nat} : ∀ (cs : List Kd), belowP k m cs.reverse → pairsG.belowG clash k m cs cs.length = true
 | [], _ => rfl
 | c :: cs, h => by
  rw [List.reverse_cons] at h
  obtain ⟨h1, h2⟩ := belowP_snoc _ _ h
  simp only [pairsG.belowG, Bool.and_eq_true, List.length_cons, Nat.add_sub_cancel]
  refine ⟨?_, below_of cs h1⟩
  rw [List.length_reverse] at h2
  rcases h2 with h2 | h2
  ·rw [h2]; simp
  ·simp [clash_of h2]
theorem pairs_of : ∀ (ks : List Kd) (ms : List Nat), pairsP ks ms → pairsG clash ks ms = true
 | [], ms, _ => by simp [pairsG]
 | k :: ks, [], _ => by simp [pairsG]
 | k :: ks, m :: ms, h => by
  simp only [pairsG, Bool.and_eq_true]
  exact ⟨below_of ks h.1, pairs_of ks ms h.2⟩

theorem roLow_of {lo : Nat} {H : Hp} (h : RoLow lo H) : roLow lo H = true := by
 unfold roLow
 refine List.all_eq_true.2 fun b hb => ?_
 have hb := List.mem_range.1 hb
 cases hg : H.t.get b with
 | none => simp
 | some ob =>
  cases ob with
  | ro cs =>
   have := h b cs hb hg
   simp only [Bool.or_false]
   exact Nat.ble_eq_true_of_le this
  | _ => simp
def KdLe (a w : Kd) : Prop := a = w ∨ (w = .heavy ∧ ∃ b, a = .mk b)
inductive KsLe : List Kd → List Kd → Prop
 | nil : KsLe [] []
 | cons {a w : Kd} {as ws : List Kd} : KdLe a w → KsLe as ws → KsLe (a :: as) (w :: ws)
theorem KsLe.length_eq : ∀ {as ws : List Kd}, KsLe as ws → as.length = ws.length
 | _, _, .nil => rfl
 | _, _, .cons _ h => congrArg (· + 1) h.length_eq
theorem kdLe_clash {a w c d : Kd} (h : KdLe a w) (k : KdLe c d) (hn : ¬ clashPR w d) : clashR a c = false := by
 rcases h with rfl | ⟨rfl, b, rfl⟩ <;> rcases k with rfl | ⟨rfl, e, rfl⟩
 ·cases a <;> cases c <;> simp_all [clashPR, clashR, clashP, clash, beq_eq]
 ·cases a <;> simp_all [clashPR, clashR, clashP, clash, beq_eq]
 ·cases c <;> simp_all [clashPR, clashR, clashP, clash, beq_eq]
 ·simp [clashR, clash]
theorem belowPR_snoc {k c : Kd} : ∀ (l : List Kd) (m : Nat), belowPR k m (l ++ [c]) → belowPR k m l ∧ (m.testBit l.length = true ∨ ¬ clashPR k c)
 | [], m, h => by
  simp only [List.nil_append, belowPR] at h
  refine ⟨trivial, ?_⟩
  cases hb : Nat.beq (Nat.mod m 2) 1 with
  | true =>
   left
   have := Nat.eq_of_beq_eq_true hb
   simp only [List.length_nil, Nat.testBit_zero]
   exact decide_eq_true this
  | false => rw [hb] at h; exact .inr h.1
 | d :: l, m, h => by
  simp only [List.cons_append, belowPR] at h
  obtain ⟨h1, h2⟩ := belowPR_snoc l _ h.2
  refine ⟨⟨h.1, h1⟩, h2.imp (fun q => ?_) id⟩
  simp only [List.length_cons]
  rw [Nat.testBit_succ]
  exact q
theorem belowR_of {a k : Kd} {m : Nat} (hk : KdLe a k) : ∀ (as cs : List Kd), KsLe as cs → belowPR k m cs.reverse → pairsG.belowG clashR a m as as.length = true
 | _, _, .nil, _ => rfl
 | x :: as, c :: cs, .cons hx hl, h => by
  rw [List.reverse_cons] at h
  obtain ⟨h1, h2⟩ := belowPR_snoc _ _ h
  simp only [pairsG.belowG, Bool.and_eq_true, List.length_cons, Nat.add_sub_cancel]
  refine ⟨?_, belowR_of hk as cs hl h1⟩
  rw [List.length_reverse, ← hl.length_eq] at h2
  rcases h2 with h2 | h2
  ·rw [h2]; simp
  ·simp [kdLe_clash hk hx h2]
theorem pairsR_of : ∀ (as ks : List Kd) (ms : List Nat), KsLe as ks → pairsPR ks ms → pairsG clashR as ms = true
 | _, _, ms, .nil, _ => by simp [pairsG]
 | a :: as, k :: ks, [], .cons _ _, _ => by simp [pairsG]
 | a :: as, k :: ks, m :: ms, .cons h1 h2, h => by
  simp only [pairsG, Bool.and_eq_true]
  exact ⟨belowR_of h1 as ks h2 h.1, pairsR_of as ks ms h2 h.2⟩
def isMk : RI → Bool | .alc _ _ => true | .box _ _ => true | _ => false
theorem low_mk {ops : List Oper} {ord : Bool} {o : Oper} {ro : RO} (hl : lowRO P n ops ord o = some ro) (hm : isMk ro.ri = true) : (∃ t, o.op = .alloc t) ∨ ∃ t x, o.op = .box t x := by
 unfold lowRO at hl
 split at hl <;> first | (cases hl; done) | skip
 rename_i ri hri
 obtain ⟨_, hl⟩ := bif_some hl
 have e : ro.ri = ri := by
  split at hl
  ·cases hl; rfl
  ·split at hl <;> first | (cases hl; done) | skip
   split at hl <;> first | (cases hl; done) | skip
   cases hl; rfl
 rw [e] at hm
 unfold lowRI at hri
 split at hri <;> first
  | (rename_i h; exact .inl ⟨_, h⟩)
  | (rename_i h; exact .inr ⟨_, _, h⟩)
  | (exfalso; (try simp only [Bool.cond_eq_ite] at hri); (repeat' split at hri) <;> first | (cases hri; done) | (cases hri; cases hm; done) | (simp only [Option.some.injEq] at hri; subst hri; cases hm))
theorem mk_val {A : Fr} {H : Hp} {o : Oper} {rs : Rs} {k : Kd} (h : (∃ t, o.op = .alloc t) ∨ ∃ t x, o.op = .box t x) (e : aOp P lo A H o = some (rs, k)) : (∃ v H', rs = .val v H') ∧ mkOp o = true := by
 rcases h with ⟨t, h⟩ | ⟨t, x, h⟩
 ·unfold aOp pureOp at e
  rw [h] at e
  simp only at e
  unfold heapOp at e
  rw [h] at e
  simp only at e
  split at e <;> cases e
  exact ⟨⟨_, _, rfl⟩, by unfold mkOp; rw [h]⟩
 ·unfold aOp pureOp at e
  rw [h] at e
  simp only at e
  unfold heapOp at e
  rw [h] at e
  simp only at e
  split at e <;> cases e
  exact ⟨⟨_, _, rfl⟩, by unfold mkOp; rw [h]⟩
theorem kdW_not {ro : RO} {H : Hp} {k : Kd} (h : isMk ro.ri = false) : kdW ro H k = k := by
 unfold kdW
 cases k <;> try rfl
 cases hr : ro.ri <;> rw [hr] at h <;> first | rfl | cases h
theorem kdLe_val {ops : List Oper} {ord : Bool} {A : Fr} {H H' : Hp} {o : Oper} {ro : RO} {v : Value} {k : Kd} (hl : lowRO P n ops ord o = some ro) (h : aOp P lo A H o = some (.val v H', k)) : KdLe (kdOf o H k) (kdW ro H k) := by
 cases hm : isMk ro.ri with
 | true =>
  have := (mk_val (low_mk hl hm) h).2
  left
  cases k <;> try rfl
  unfold kdOf kdW
  rw [this]
  simp only [cond_true]
  cases hr : ro.ri <;> rw [hr] at hm <;> first | rfl | cases hm
 | false =>
  rw [kdW_not hm]
  cases k with
  | heavy => unfold kdOf; cases mkOp o <;> first | exact .inl rfl | exact .inr ⟨rfl, _, rfl⟩
  | _ => exact .inl rfl
theorem kdW_other {ops : List Oper} {ord : Bool} {A : Fr} {H : Hp} {o : Oper} {ro : RO} {rs : Rs} {k k' : Kd} (hl : lowRO P n ops ord o = some ro) (h : aOp P lo A H o = some (rs, k)) (hr : ∀ v H', rs ≠ .val v H') : kdW ro H k' = k' := by
 cases hm : isMk ro.ri with
 | true => obtain ⟨⟨v, H', e⟩, _⟩ := mk_val (low_mk hl hm) h; exact absurd e (hr v H')
 | false => exact kdW_not hm
theorem wDrawR_sound {ops : Array Oper} {masks : List Nat} : ∀ (rest pre : List Oper) {rl : List RO} {A : Fr} {S : Rg} {H : Hp} {ks ws : List Kd} {K : Rg → Hp → Prop}, ops.toList = pre ++ rest → lowROs P n ops.toList (fun i => ordered ops.toList (ancL ops.toList) i) rest pre.length = some rl → Knows S A.T → A.n = n → KsLe ks ws → wDrawR P kn lo n masks rl ws S H K →
  ∃ S' H' T' ks' ws', K S' H' ∧ KsLe ks' ws' ∧ pairsPR ws' masks ∧ Knows S' T' ∧ ∃ N, ∀ m k, N ≤ m → N ≤ k → runDraw P lo (callF P kn m k) ops rest pre.length ks A H = some (ks', { A with T := T' }, H')
 | [], pre, rl, A, S, H, ks, ws, K, he, hl, hA, hn, hks, h => by
  simp only [lowROs] at hl; cases hl
  exact ⟨S, H, A.T, ks, ws, h.2, hks, h.1, hA, 0, fun m k _ _ => rfl⟩
 | o :: rest, pre, rl, A, S, H, ks, ws, K, he, hl, hA, hn, hks, h => by
  simp only [lowROs] at hl
  split at hl <;> first | (cases hl; done) | skip
  rename_i ro hro
  split at hl <;> first | (cases hl; done) | skip
  rename_i l hrest
  cases hl
  simp only [wDrawR] at h
  have he2 : ops.toList = (pre ++ [o]) ++ rest := by rw [he]; simp
  have ih := fun {A' : Fr} {S' : Rg} {H' : Hp} {ks' ws' : List Kd} (hA' : Knows S' A'.T) (hn' : A'.n = n) (hk' : KsLe ks' ws') (h' : wDrawR P kn lo n masks l ws' S' H' K) => wDrawR_sound rest (pre ++ [o]) (rl := l) he2 (by simpa using hrest) hA' hn' hk' h'
  simp only [List.length_append, List.length_singleton] at ih
  obtain ⟨hput, hcase⟩ := wRO_sound hro hA hn h
  rcases hcase with ⟨hw, h⟩ | ⟨hw, hdone⟩
  ·obtain ⟨S', H', T', ks', ws', a, a1, a2, b, N, c⟩ := ih (ks' := .pure :: ks) (ws' := .pure :: ws) (A' := { A with T := putTr A.T o.dst undef }) (knows_put hA o.dst undef) hn (.cons (.inl rfl) hks) h
   refine ⟨S', H', T', ks', ws', a, a1, a2, b, N, fun m k hm hk => ?_⟩
   rw [runDraw]
   simp only [hw, hput]
   exact c m k hm hk
  ·rcases hdone with ⟨v, H1, kd, e, hkd, h⟩ | ⟨H1, kd, e, h⟩ | ⟨t, vs, v, H1, e, hmk, ⟨N1, hc⟩, h⟩ | ⟨t, vs, v, H1, bk, e, hord, hmk, ⟨N1, hc⟩, hob, h⟩
   ·obtain ⟨hb, h⟩ := kd_split (X := fun k => wDrawR P kn lo n masks l (k :: ws) (putS S o.dst v) H1 K) h
    obtain ⟨S', H', T', ks', ws', a, a1, a2, b, N, c⟩ := ih (A' := { A with T := putTr A.T o.dst v }) (knows_put hA o.dst v) hn (.cons (kdLe_val hro e) hks) h
    refine ⟨S', H', T', ks', ws', a, a1, a2, b, N, fun m k hm hk => ?_⟩
    rw [runDraw]
    have hkd : kdOk kd H = true := hkd fun b hb2 => hb b (by rw [hb2]; rfl)
    simp only [hw, e, hkd, hput, cond_true]
    exact c m k hm hk
   ·rw [kdW_other hro e (fun _ _ q => by cases q)] at h
    obtain ⟨_, h⟩ := kd_split (X := fun k => wDrawR P kn lo n masks l (k :: ws) (putS S o.dst undef) H1 K) h
    obtain ⟨S', H', T', ks', ws', a, a1, a2, b, N, c⟩ := ih (A' := { A with T := putTr A.T o.dst undef }) (knows_put hA o.dst undef) hn (.cons (.inl rfl) hks) h
    refine ⟨S', H', T', ks', ws', a, a1, a2, b, N, fun m k hm hk => ?_⟩
    rw [runDraw]
    simp only [hw, e, hput]
    exact c m k hm hk
   ·rw [kdW_other hro e (fun _ _ q => by cases q)] at h
    cases ho : ordered ops.toList (ancL ops.toList) pre.length with
    | true =>
     simp only [ho, cond_true] at hc h
     obtain ⟨S', H', T', ks', ws', a, a1, a2, b, N, c⟩ := ih (ks' := .full :: ks) (ws' := .full :: ws) (A' := { A with T := putTr A.T o.dst v }) (knows_put hA o.dst v) hn (.cons (.inl rfl) hks) h
     refine ⟨S', H', T', ks', ws', a, a1, a2, b, N + N1, fun m k hm hk => ?_⟩
     rw [runDraw]
     simp only [hw, e, ho, cond_true, hc m k (by omega) (by omega), hput]
     exact c m k (by omega) (by omega)
    | false =>
     simp only [ho, cond_false] at hc h
     obtain ⟨S', H', T', ks', ws', a, a1, a2, b, N, c⟩ := ih (ks' := .heavy :: ks) (ws' := .heavy :: ws) (A' := { A with T := putTr A.T o.dst v }) (knows_put hA o.dst v) hn (.cons (.inl rfl) hks) h
     refine ⟨S', H', T', ks', ws', a, a1, a2, b, N + N1, fun m k hm hk => ?_⟩
     rw [runDraw]
     have hmk : marked t = false := by simpa [ho] using hmk
     simp only [hw, e, ho, hmk, cond_false, hc m k (by omega) (by omega), hput]
     exact c m k (by omega) (by omega)
   ·rw [kdW_other hro e (fun _ _ q => by cases q)] at h
    obtain ⟨S', H', T', ks', ws', a, a1, a2, b, N, c⟩ := ih (ks' := .store bk :: ks) (ws' := .store bk :: ws) (A' := { A with T := putTr A.T o.dst v }) (knows_put hA o.dst v) hn (.cons (.inl rfl) hks) h
    refine ⟨S', H', T', ks', ws', a, a1, a2, b, N + N1, fun m k hm hk => ?_⟩
    rw [runDraw]
    simp only [hw, e, hord, hmk, cond_false, cond_true, hc m k (by omega) (by omega), hob, hput]
    exact c m k (by omega) (by omega)

theorem Tri.mono {rd : Bool} {c : Code} {S : Rg} {H : Hp} {K K' : Exit → Rg → Hp → Prop} (h : Tri P kn lo n rd c S H K) (hk : ∀ e S' H', K e S' H' → K' e S' H') : Tri P kn lo n rd c S H K' := by
 intro A h1 h2 h3
 obtain ⟨e, S', H', T', a, b⟩ := h A h1 h2 h3
 exact ⟨e, S', H', T', hk _ _ _ a, b⟩
theorem Tri.seq {rd : Bool} {x y : Code} {S : Rg} {H : Hp} {K : Exit → Rg → Hp → Prop} (h : Tri P kn lo n rd x S H fun e S' H' => match e with | .normal => Tri P kn lo n rd y S' H' K | e => K e S' H') : Tri P kn lo n rd (.seq x y) S H K := by
 intro A h1 h2 h3
 obtain ⟨e, S1, H1, T1, a, b, N1, c⟩ := h A h1 h2 h3
 cases e with
 | normal =>
  obtain ⟨e, S', H', T', a', b', N2, c'⟩ := a { A with T := T1 } h1 h2 b
  refine ⟨e, S', H', T', a', b', N1 + N2 + 1, fun f m k hf hm hk => ?_⟩
  obtain ⟨f, rfl⟩ : ∃ g, f = g + 1 := ⟨f - 1, by omega⟩
  rw [runCode]
  simp only [c f m k (by omega) (by omega) (by omega)]
  exact c' f m k (by omega) (by omega) (by omega)
 | _ =>
  refine ⟨_, S1, H1, T1, a, b, N1 + 1, fun f m k hf hm hk => ?_⟩
  obtain ⟨f, rfl⟩ : ∃ g, f = g + 1 := ⟨f - 1, by omega⟩
  rw [runCode]
  simp only [c f m k (by omega) (by omega) (by omega)]

theorem wC_sound (rd : Bool) : ∀ (c : Code) {rc : RC} {S : Rg} {H : Hp} {K : Exit → Rg → Hp → Prop}, low P n c = some rc → wC P kn lo n rd rc S H K → Tri P kn lo n rd c S H K
 | .skip, rc, S, H, K, hl, h => by
  simp only [low] at hl; cases hl
  intro A _ _ h3
  refine ⟨.normal, S, H, A.T, h, h3, 1, fun f m k hf hm hk => ?_⟩
  obtain ⟨f, rfl⟩ : ∃ g, f = g + 1 := ⟨f - 1, by omega⟩
  rfl
 | .label l, rc, S, H, K, hl, h => by
  simp only [low] at hl; cases hl
  intro A _ _ h3
  refine ⟨.normal, S, H, A.T, h, h3, 1, fun f m k hf hm hk => ?_⟩
  obtain ⟨f, rfl⟩ : ∃ g, f = g + 1 := ⟨f - 1, by omega⟩
  rfl
 | .exit id, rc, S, H, K, hl, h => by
  simp only [low] at hl; cases hl
  intro A _ _ h3
  refine ⟨.exit id, S, H, A.T, h, h3, 1, fun f m k hf hm hk => ?_⟩
  obtain ⟨f, rfl⟩ : ∃ g, f = g + 1 := ⟨f - 1, by omega⟩
  rfl
 | .ret, rc, S, H, K, hl, h => by
  simp only [low] at hl; cases hl
  intro A _ _ h3
  refine ⟨.ret, S, H, A.T, h, h3, 1, fun f m k hf hm hk => ?_⟩
  obtain ⟨f, rfl⟩ : ∃ g, f = g + 1 := ⟨f - 1, by omega⟩
  rfl
 | .seq x y, rc, S, H, K, hl, h => by
  simp only [low] at hl
  split at hl <;> first | (cases hl; done) | skip
  rename_i a ha
  split at hl <;> first | (cases hl; done) | skip
  rename_i b hb
  cases hl
  refine Tri.seq ((wC_sound rd x ha h).mono fun e S' H' q => ?_)
  cases e with
  | normal => exact wC_sound rd y hb q
  | _ => exact q
 | .cond o x y, rc, S, H, K, hl, h => by
  simp only [low] at hl
  split at hl <;> first | (cases hl; done) | skip
  rename_i a ha
  split at hl <;> first | (cases hl; done) | skip
  rename_i b hb
  cases hl
  simp only [wC] at h
  split at h <;> first | exact h.elim | skip
  rename_i t ht
  intro A h1 h2 h3
  cases t with
  | true =>
   obtain ⟨e, S', H', T', p, q, N, r⟩ := wC_sound rd x ha (h.1 rfl) A h1 h2 h3
   refine ⟨e, S', H', T', p, q, N + 1, fun f m k hf hm hk => ?_⟩
   obtain ⟨f, rfl⟩ : ∃ g, f = g + 1 := ⟨f - 1, by omega⟩
   rw [runCode]
   simp only [ev_of h3 ht]
   exact r f m k (by omega) (by omega) (by omega)
  | false =>
   obtain ⟨e, S', H', T', p, q, N, r⟩ := wC_sound rd y hb (h.2 rfl) A h1 h2 h3
   refine ⟨e, S', H', T', p, q, N + 1, fun f m k hf hm hk => ?_⟩
   obtain ⟨f, rfl⟩ : ∃ g, f = g + 1 := ⟨f - 1, by omega⟩
   rw [runCode]
   simp only [ev_of h3 ht]
   exact r f m k (by omega) (by omega) (by omega)
 | .block id b, rc, S, H, K, hl, h => by
  simp only [low] at hl
  split at hl <;> first | (cases hl; done) | skip
  rename_i a ha
  cases hl
  simp only [wC] at h
  intro A h1 h2 h3
  obtain ⟨e, S', H', T', p, q, N, r⟩ := wC_sound rd b ha h A h1 h2 h3
  have unf : ∀ f m k, runCode P lo (callF P kn m k) (f + 1) (.block id b) A H none = match runCode P lo (callF P kn m k) f b A H none with
   | some (.exit j, A', H', p') => bif Nat.beq j id then some (.normal, A', H', p') else some (.exit j, A', H', p')
   | r => r := fun f m k => by rw [runCode]; rfl
  cases e with
  | exit j =>
   simp only at p
   cases hj : Nat.beq j id with
   | true =>
    rw [hj] at p
    refine ⟨.normal, S', H', T', p, q, N + 1, fun f m k hf hm hk => ?_⟩
    obtain ⟨f, rfl⟩ : ∃ g, f = g + 1 := ⟨f - 1, by omega⟩
    rw [unf, r f m k (by omega) (by omega) (by omega)]
    simp only [hj, cond_true]
   | false =>
    rw [hj] at p
    refine ⟨.exit j, S', H', T', p, q, N + 1, fun f m k hf hm hk => ?_⟩
    obtain ⟨f, rfl⟩ : ∃ g, f = g + 1 := ⟨f - 1, by omega⟩
    rw [unf, r f m k (by omega) (by omega) (by omega)]
    simp only [hj, cond_false]
  | _ =>
   refine ⟨_, S', H', T', p, q, N + 1, fun f m k hf hm hk => ?_⟩
   obtain ⟨f, rfl⟩ : ∃ g, f = g + 1 := ⟨f - 1, by omega⟩
   rw [unf, r f m k (by omega) (by omega) (by omega)]
 | .region id ops draw, rc, S, H, K, hl, h => by
  simp only [low] at hl
  cases draw with
  | true =>
   simp only [cond_true] at hl
   obtain ⟨hreg, hl⟩ := bif_some hl
   split at hl <;> first | (cases hl; done) | skip
   rename_i l hro
   cases hl
   simp only [wC] at h
   intro A h1 h2 h3
   rcases h with h | ⟨hrl, h⟩
   rotate_left
   ·obtain ⟨S', H', T', ks, ws, a, a1, a2, b, N, r⟩ := wDrawR_sound (ops := ops) (ks := []) (ws := []) ops.toList [] (by simp) hro h3 h1 .nil h
    refine ⟨.normal, S', H', T', a, b, N + 1, fun f m k hf hm hk => ?_⟩
    obtain ⟨f, rfl⟩ : ∃ g, f = g + 1 := ⟨f - 1, by omega⟩
    rw [runCode]
    have hd : drawn P lo (callF P kn m k) ops A H = some ({ A with T := T' }, H') := by
     unfold drawn
     have := r m k (by omega) (by omega)
     simp only [List.length_nil] at this
     rw [this]
     have : ((ks.all calm || pairsG clash ks (ancR ops.toList 0 []) || (pairsG clashR ks (ancR ops.toList 0 []) && roLow lo H)) && regOk ops) = true := by
      rw [hreg, Bool.and_true, pairsR_of _ _ _ a1 a2, roLow_of hrl]
      simp only [Bool.and_self, Bool.or_true]
     simp only [this, cond_true]
    simp only [hd, cond_true]
   obtain ⟨S', H', T', ks, a, a2, b, N, r⟩ := wDraw_sound (ops := ops) (ks := []) ops.toList [] (by simp) hro h3 h1 h
   refine ⟨.normal, S', H', T', a, b, N + 1, fun f m k hf hm hk => ?_⟩
   obtain ⟨f, rfl⟩ : ∃ g, f = g + 1 := ⟨f - 1, by omega⟩
   rw [runCode]
   have hd : drawn P lo (callF P kn m k) ops A H = some ({ A with T := T' }, H') := by
    unfold drawn
    have := r m k (by omega) (by omega)
    simp only [List.length_nil] at this
    rw [this]
    have : ((ks.all calm || pairsG clash ks (ancR ops.toList 0 []) || (pairsG clashR ks (ancR ops.toList 0 []) && roLow lo H)) && regOk ops) = true := by
     rw [hreg, Bool.and_true]
     rw [flat_calm] at a2
     cases hc : ks.all calm with
     | true => simp only [Bool.true_or]
     | false =>
      rw [hc] at a2
      simp only [cond_false] at a2
      have e := pairs_of _ _ a2
      rw [flat_pairs] at e
      rw [e]
      simp only [Bool.or_true, Bool.true_or]
    simp only [this, cond_true]
   simp only [hd, cond_true]
  | false =>
   simp only [cond_false] at hl
   split at hl <;> first | (cases hl; done) | skip
   rename_i l hro
   cases hl
   simp only [wC] at h
   intro A h1 h2 h3
   obtain ⟨S', H', T', a, b, N, r⟩ := wOps_sound (ops := ops) ops.toList [] (by simp) hro h3 h1 h
   refine ⟨.normal, S', H', T', a, b, N + 1, fun f m k hf hm hk => ?_⟩
   obtain ⟨f, rfl⟩ : ∃ g, f = g + 1 := ⟨f - 1, by omega⟩
   rw [runCode]
   have := r m k (by omega) (by omega)
   simp only [List.length_nil] at this
   simp only [cond_false, List.range_eq_range']
   simpa using this
 | .loop b, rc, S, H, K, hl, h => by simp only [low] at hl; cases hl; exact h
 | .rangeFunc fo ps a b, rc, S, H, K, hl, h => by simp only [low] at hl; cases hl; exact h
 | .scope b, rc, S, H, K, hl, h => by
  simp only [low] at hl
  split at hl <;> first | (cases hl; done) | skip
  rename_i a ha
  cases hl
  simp only [wC] at h
  intro A h1 h2 h3
  obtain ⟨e, S', H', T', p, q, N, r⟩ := wC_sound rd b ha h A h1 h2 h3
  refine ⟨e, S', H', T', p, q, N + 1, fun f m k hf hm hk => ?_⟩
  obtain ⟨f, rfl⟩ : ∃ g, f = g + 1 := ⟨f - 1, by omega⟩
  rw [runCode]
  exact r f m k (by omega) (by omega) (by omega)
 | .goto l, rc, S, H, K, hl, h => by simp only [low] at hl; cases hl
 | .refuse w, rc, S, H, K, hl, h => by simp only [low] at hl; cases hl

theorem Tri.loop {rd : Bool} {b : Code} {K : Exit → Rg → Hp → Prop} (I : Nat → Rg → Hp → Prop)
  (hb : ∀ k S H, I k S H → Tri P kn lo n rd b S H fun e S' H' => match e with | .normal => ∃ k', k' < k ∧ I k' S' H' | e => K e S' H') :
  ∀ k S H, I k S H → Tri P kn lo n rd (.loop b) S H K := by
 intro k
 induction k using Nat.strongRecOn with
 | ind k ih =>
  intro S H hI A h1 h2 h3
  obtain ⟨e, S1, H1, T1, p, q, N, r⟩ := hb k S H hI A h1 h2 h3
  have unf : ∀ f m k, runCode P lo (callF P kn m k) (f + 1) (.loop b) A H none = match runCode P lo (callF P kn m k) f b A H none with
   | some (.normal, A', H', p') => runCode P lo (callF P kn m k) f (.loop b) A' H' p'
   | r => r := fun f m k => by rw [runCode]; rfl
  cases e with
  | normal =>
   obtain ⟨k', hk', hI'⟩ := p
   obtain ⟨e, S', H', T', p', q', N', r'⟩ := ih k' hk' S1 H1 hI' { A with T := T1 } h1 h2 q
   refine ⟨e, S', H', T', p', q', N + N' + 1, fun f m k hf hm hk => ?_⟩
   obtain ⟨f, rfl⟩ : ∃ g, f = g + 1 := ⟨f - 1, by omega⟩
   rw [unf, r f m k (by omega) (by omega) (by omega)]
   exact r' f m k (by omega) (by omega) (by omega)
  | _ =>
   refine ⟨_, S1, H1, T1, p, q, N + 1, fun f m k hf hm hk => ?_⟩
   obtain ⟨f, rfl⟩ : ∃ g, f = g + 1 := ⟨f - 1, by omega⟩
   rw [unf, r f m k (by omega) (by omega) (by omega)]

theorem Tri.forget {rd : Bool} {c : Code} {S S0 : Rg} {H : Hp} {K : Exit → Rg → Hp → Prop} (h : Tri P kn lo n rd c S0 H K) (hs : ∀ j v, lk S0 j = some v → lk S j = some v) : Tri P kn lo n rd c S H K :=
 fun A h1 h2 h3 => h A h1 h2 fun j v e => h3 j v (hs j v e)
end
end Go.Ax

/-! The evaluator for all inputs, 4: functions and calls. -/
namespace Go.Ax
open Go Go.RowKit

def argS : List Value → Nat → Rg
 | [], _ => []
 | v :: r, i => (i, v) :: argS r (i + 1)
theorem argS_lt : ∀ (vs : List Value) (i j : Nat), j < i → lk (argS vs i) j = none
 | [], _, _, _ => rfl
 | v :: r, i, j, h => by
  simp only [argS, lk, beq_eq]
  rw [decide_eq_false (by omega)]
  exact argS_lt r (i + 1) j (by omega)
theorem trOfS_get : ∀ (vs : List Value) (i : Nat) (T : Tr Value) (j : Nat), (trOf vs i T).get j = match lk (argS vs i) j with | some v => some v | none => T.get j
 | [], i, T, j => rfl
 | v :: r, i, T, j => by
  simp only [trOf, argS, lk, beq_eq]
  rw [trOfS_get r (i + 1)]
  by_cases h : i = j
  ·subst h
   rw [argS_lt r (i + 1) i (by omega)]
   simp [Tr.get_set]
  ·rw [decide_eq_false h]
   simp only [cond_false]
   cases lk (argS r (i + 1)) j with
   | some u => rfl
   | none => simp only [Tr.get_set]; rw [if_neg (fun e => h e.symm)]
theorem knows_args (vs : List Value) : Knows (argS vs 0) (trOf vs 0 .nil) := fun j v h => by rw [trOfS_get, h]

noncomputable def resS (P : Program) (S : Rg) (H : Hp) : List ResultVar → Option (List Value)
 | [] => some []
 | .tmp t :: r => match lk S t with
  | none => none
  | some v => match resS P S H r with | none => none | some vs => some (v :: vs)
 | .cell a t :: r => match lk S a with
  | some (.pointer (some ad)) => match loadV P H t ad with
   | none => none
   | some v => match resS P S H r with | none => none | some vs => some (v :: vs)
  | _ => none
theorem res_of {P : Program} {S : Rg} {H : Hp} {A : Fr} (hA : Knows S A.T) : ∀ {l : List ResultVar} {vs : List Value}, resS P S H l = some vs → resultsV P A H l = some vs
 | [], vs, h => h
 | .tmp t :: r, vs, h => by
  simp only [resS] at h
  cases h1 : lk S t with
  | none => simp [h1] at h
  | some v =>
   cases h2 : resS P S H r with
   | none => simp [h1, h2] at h
   | some us => simp [h1, h2] at h; subst h; simp only [resultsV, hA t v h1, res_of hA h2]
 | .cell a t :: r, vs, h => by
  simp only [resS] at h
  split at h <;> first | (cases h; done) | skip
  rename_i ad h1
  cases h3 : loadV P H t ad with
  | none => simp [h3] at h
  | some v =>
   cases h2 : resS P S H r with
   | none => simp [h3, h2] at h
   | some us => simp [h3, h2] at h; subst h; simp only [resultsV, hA a _ h1, h3, res_of hA h2]

def retV : List Value → Value
 | [v] => v
 | vs => .tuple vs.toArray

def FnX (P : Program) (kn : Kn) (lo : Nat) (f : FuncId) (args : List Value) (H : Hp) (v : Value) (H' : Hp) : Prop :=
 ∃ N, ∀ m k, N ≤ m → N ≤ k → runFunc P lo (callF P kn m k) (fun t a H p => evCall P kn m k lo t a H p) m f args H none = some (.ret v, H', none)

section
variable {P : Program} {kn : Kn} {lo : Nat}
theorem fnX_of_tri {f : FuncId} {fn : Func} {c : Code} {args : List Value} {H : Hp} {Q : Value → Hp → Prop} (hf : P.funcs[f]? = some fn) (hc : fn.body = some c) (hl : args.length ≤ fn.ntmps)
  (h : Tri P kn lo fn.ntmps false c (argS args 0) H fun e S' H' => (match e with | .normal => True | .ret => True | _ => False) ∧ ∃ vs, resS P S' H' fn.results.toList = some vs ∧ Q (retV vs) H') :
  ∃ v H', FnX P kn lo f args H v H' ∧ Q v H' := by
 obtain ⟨e, S', H', T', ⟨he, vs, hres, hq⟩, hk, N, hr⟩ := h { fn := f, n := fn.ntmps, T := trOf args 0 .nil, defers := [], round := none } rfl rfl (knows_args args)
 refine ⟨retV vs, H', ⟨N + 1, fun m k hm hk' => ?_⟩, hq⟩
 obtain ⟨m', rfl⟩ : ∃ g, m = g + 1 := ⟨m - 1, by omega⟩
 have hr := hr (m' + 1) (m' + 1) k (by omega) (by omega) (by omega)
 have hu : unwindV P lo (fun t a H p => evCall P kn (m' + 1) k lo t a H p) fn (m' + 1) { fn := f, n := fn.ntmps, T := T', defers := [], round := none } H' none = some (.ret (retV vs), H') := by
  rw [unwindV]
  simp only [res_of (A := { fn := f, n := fn.ntmps, T := T', defers := [], round := none }) hk hres]
  match vs with
  | [] => rfl
  | [v] => rfl
  | v :: u :: r => rfl
 unfold runFunc
 simp only [hf, hc, Nat.ble_eq_true_of_le hl, cond_true, hr]
 cases e <;> simp only at he <;> simp only [hu]

theorem kspec_no {f : FuncId} {cap : Array Value} {args : List Value} {H : Hp} (hs : specialF f = false) : kspec kn lo (.fn (.func f) cap) args H = none := by
 unfold kspec; simp only [hs, cond_false]
theorem callX_func {f : FuncId} {cap : Array Value} {args : List Value} {H : Hp} {v : Value} {H' : Hp} (hk : kcall kn (.fn (.func f) cap) args = none) (h : FnX P kn lo f (args ++ cap.toList) H v H') (hs : specialF f = false := by rfl) : CallsX P kn lo (.fn (.func f) cap) args H v H' := by
 obtain ⟨N, h⟩ := h
 refine ⟨N + 1, fun m k hm hk' => ?_⟩
 obtain ⟨k, rfl⟩ : ∃ g, k = g + 1 := ⟨k - 1, by omega⟩
 have := h m k (by omega) (by omega)
 have e : evCall P kn m (k + 1) lo (.fn (.func f) cap) args H none = some (.ret v, H', none) := this
 unfold callF
 simp only [hk, kspec_no hs, e]
theorem callX_args {f : FuncId} {args : List Value} {a : Value} {H : Hp} {v : Value} {H' : Hp} (h : FnX P kn lo f (a :: args) H v H') (hs : specialF f = false := by rfl) : CallsX P kn lo (.fn (.func f) #[]) (a :: args) H v H' :=
 callX_func rfl (by simpa using h) hs
theorem callX_known {f : FuncId} {b : Bool} {H : Hp} (h : kn f = some b) : CallsX P kn lo (.fn (.func f) #[]) [] H (.bool b) H :=
 ⟨0, fun m k _ _ => by unfold callF; simp only [kcall, List.size_toArray, List.length_nil, Nat.beq_refl, cond_true, h]⟩
end
end Go.Ax

/-! The evaluator for all inputs, 5: words for heaps, and steps. -/
namespace Go.Ax
open Go Go.RowKit

def Cl (H : Hp) (b : Nat) (cs : List Value) : Prop := b < H.next ∧ ∃ e l, H.t.get b = some (.cells cs e l)
structure Keep (H H' : Hp) (l : List Nat) : Prop where
 le : H.next ≤ H'.next
 same : ∀ b, b < H.next → b ∉ l → H'.t.get b = H.t.get b
 /-- nothing more is only read -/
 rox : ∀ b cs, b < H'.next → H'.t.get b = some (.ro cs) → b < H.next ∧ H.t.get b = some (.ro cs)
theorem Keep.low {H H' : Hp} {l : List Nat} {lo : Nat} (k : Keep H H' l) (h : RoLow lo H) : RoLow lo H' := fun b cs hb hg => by
 obtain ⟨h1, h2⟩ := k.3 b cs hb hg
 exact h b cs h1 h2
theorem Keep.refl (H : Hp) (l : List Nat) : Keep H H l := ⟨Nat.le_refl _, fun _ _ _ => rfl, fun _ _ h k => ⟨h, k⟩⟩
theorem Keep.trans {H H1 H2 : Hp} {l : List Nat} (h : Keep H H1 l) (k : Keep H1 H2 l) : Keep H H2 l :=
 ⟨Nat.le_trans h.1 k.1, fun b hb hl => (k.2 b (Nat.lt_of_lt_of_le hb h.1) hl).trans (h.2 b hb hl), fun b cs hb hg => (k.3 b cs hb hg).elim fun a c => h.3 b cs a c⟩
theorem Keep.mono {H H1 : Hp} {l l' : List Nat} (h : Keep H H1 l) (k : ∀ b, b ∈ l → b ∈ l') : Keep H H1 l' := ⟨h.1, fun b hb hl => h.2 b hb fun q => hl (k b q), h.3⟩
theorem Keep.cl {H H1 : Hp} {l : List Nat} (h : Keep H H1 l) {b : Nat} {cs : List Value} (hc : Cl H b cs) (hl : b ∉ l) : Cl H1 b cs := by
 obtain ⟨h1, e, lz, h2⟩ := hc
 exact ⟨Nat.lt_of_lt_of_le h1 h.1, e, lz, by rw [h.2 b h1 hl]; exact h2⟩
theorem Keep.new {H H1 H2 : Hp} {l l' : List Nat} (h : Keep H H1 l) (k : Keep H1 H2 l') (hl : ∀ b, b ∈ l' → b ∈ l ∨ H.next ≤ b) : Keep H H2 l :=
 ⟨Nat.le_trans h.1 k.1, fun b hb hn => (k.2 b (Nat.lt_of_lt_of_le hb h.1) fun q => (hl b q).elim hn (fun r => absurd hb (by omega))).trans (h.2 b hb hn), fun b cs hb hg => (k.3 b cs hb hg).elim fun a c => h.3 b cs a c⟩
theorem Cl.of {H : Hp} {b : Nat} {cs : List Value} (h : Cl H b cs) : cellsOf H b = some cs := by
 obtain ⟨_, e, l, h⟩ := h; unfold cellsOf; rw [h]
theorem Cl.lt {H : Hp} {b : Nat} {cs : List Value} (h : Cl H b cs) : b < H.next := h.1
theorem up_facts {H H1 : Hp} {b : Nat} {cs cs' : List Value} {e : TypeId} {l : Bool} (hc : Cl H b cs) (h : H.up b (.cells cs' e l) = H1) : Keep H H1 [b] ∧ H1.next = H.next ∧ Cl H1 b cs' := by
 subst h
 refine ⟨⟨Nat.le_refl _, fun c _ hn => ?_, fun c xs hb hg => ?_⟩, rfl, hc.1, e, l, ?_⟩
 ·show (H.t.set b _).get c = _
  rw [Tr.get_set, if_neg (by simpa using hn)]
 ·have hg : (H.t.set b (.cells cs' e l)).get c = some (.ro xs) := hg
  rw [Tr.get_set] at hg
  split at hg
  ·cases hg
  ·exact ⟨hb, hg⟩
 ·show (H.t.set b _).get b = _
  rw [Tr.get_set, if_pos rfl]
theorem new_facts {H H1 : Hp} {cs : List Value} {e : TypeId} {l : Bool} (h : H.new (.cells cs e l) = H1) : Keep H H1 [] ∧ H1.next = H.next + 1 ∧ Cl H1 H.next cs := by
 subst h
 refine ⟨⟨Nat.le_succ _, fun c hc _ => ?_, fun c xs hb hg => ?_⟩, rfl, Nat.lt_succ_self _, e, l, ?_⟩
 ·show (H.t.set H.next _).get c = _
  rw [Tr.get_set, if_neg (by omega)]
 ·have hg : (H.t.set H.next (.cells cs e l)).get c = some (.ro xs) := hg
  have hb : c < H.next + 1 := hb
  rw [Tr.get_set] at hg
  split at hg
  ·cases hg
  ·exact ⟨by omega, hg⟩
 ·show (H.t.set H.next _).get H.next = _
  rw [Tr.get_set, if_pos rfl]

def Rd (H : Hp) (b : Nat) (cs : List Value) : Prop := b < H.next ∧ cellsOf H b = some cs
theorem Cl.rd {H : Hp} {b : Nat} {cs : List Value} (h : Cl H b cs) : Rd H b cs := ⟨h.1, h.of⟩
theorem Rd.lt {H : Hp} {b : Nat} {cs : List Value} (h : Rd H b cs) : b < H.next := h.1
theorem Rd.of {H : Hp} {b : Nat} {cs : List Value} (h : Rd H b cs) : cellsOf H b = some cs := h.2
theorem Keep.rd {H H1 : Hp} {l : List Nat} (h : Keep H H1 l) {b : Nat} {cs : List Value} (hc : Rd H b cs) (hl : b ∉ l) : Rd H1 b cs := by
 obtain ⟨h1, h2⟩ := hc
 exact ⟨Nat.lt_of_lt_of_le h1 h.1, by unfold cellsOf at h2 ⊢; rw [h.2 b h1 hl]; exact h2⟩
def Sl (H : Hp) (a : Option Addr) (n cap : Nat) (cs : List Value) : Prop := ((a = none ∨ a = some ⟨0, 0, some 0⟩) ∧ n = 0 ∧ cap = 0 ∧ cs = []) ∨ ∃ b, a = some ⟨b, 0, none⟩ ∧ Rd H b cs ∧ n ≤ cap
theorem Keep.sl {H H1 : Hp} {l : List Nat} (h : Keep H H1 l) {a : Option Addr} {n cap : Nat} {cs : List Value} (hc : Sl H a n cap cs) (hl : ∀ b, a = some ⟨b, 0, none⟩ → b ∉ l) : Sl H1 a n cap cs :=
 hc.imp id fun ⟨b, e, r, q⟩ => ⟨b, e, h.rd r (hl b e), q⟩
theorem Keep.sl0 {H H1 : Hp} (h : Keep H H1 []) {a : Option Addr} {n cap : Nat} {cs : List Value} (hc : Sl H a n cap cs) : Sl H1 a n cap cs := h.sl hc fun _ _ => by simp

theorem row_flat {α : Type} {f : α → List Value} {size : Nat} : ∀ {l : List α} (_ : ∀ x ∈ l, (f x).length = size) {i : Nat} {x : α}, l[i]? = some x → row size (l.flatMap f) (0 + i * size) = some (f x)
 | [], _, i, x, h => by simp at h
 | y :: l, hf, 0, x, h => by
  simp at h; subst h
  have := hf y (by simp)
  simp only [List.flatMap_cons, row, Nat.zero_mul, Nat.add_zero, List.drop_zero, beq_eq]
  rw [List.take_append_of_le_length (by omega), List.take_of_length_le (by omega), this]
  simp
 | y :: l, hf, i + 1, x, h => by
  have hy := hf y (by simp)
  have ih := row_flat (l := l) (fun z hz => hf z (by simp [hz])) (i := i) (x := x) (by simpa using h)
  unfold row at ih ⊢
  rw [Nat.zero_add] at ih ⊢
  rw [List.flatMap_cons, List.drop_append, hy, List.drop_eq_nil_of_le (by rw [hy]; exact Nat.le_trans (Nat.le_mul_of_pos_left size (Nat.succ_pos i)) (Nat.le_refl _)), List.nil_append]
  have e : (i + 1) * size - size = i * size := by rw [Nat.succ_mul]; omega
  rw [e]
  exact ih
theorem flat_len {α : Type} {f : α → List Value} {size : Nat} : ∀ {l : List α} (_ : ∀ x ∈ l, (f x).length = size), (l.flatMap f).length = l.length * size
 | [], _ => by simp
 | y :: l, hf => by
  rw [List.flatMap_cons, List.length_append, hf y (by simp), flat_len fun z hz => hf z (by simp [hz]), List.length_cons, Nat.succ_mul]; omega
section
variable {P : Program} {kn : Kn} {lo : Nat}
theorem src_of {H : Hp} {size n cap : Nat} {a : Option Addr} {cs : List Value} (hs : Sl H a n cap cs) (hl : cs.length = n * size) : srcCells H size (.slice a n cap) = some (n, cs) := by
 rcases hs with ⟨rfl | rfl, rfl, rfl, rfl⟩ | ⟨b, rfl, hr, _⟩
 ·rfl
 ·rfl
 ·have h : row (n * size) cs 0 = some cs := by
   unfold row
   simp only [List.drop_zero, beq_eq, ← hl, List.take_length, decide_true, cond_true]
  simp only [srcCells, hr.of, h]
theorem heap_append_empty {n : Nat} {S : Rg} {H : Hp} {d : Option Tmp} {t0 t1 e e0 ty ep : TypeId} {x y : Operand} {p : String} {size m cap b0 : Nat} {a : Option Addr} {cs : List Value} (he : sliceElem P t0 = some (e, size)) (ht : P.underlying t1 = some (.slice ep)) (h0 : H.t.get b0 = some (.cells [] e0 false))
  (hx : evS S x = some (.slice (some ⟨b0, 0, none⟩) 0 0)) (hy : evS S y = some (.slice a m cap)) (hs : Sl H a m cap cs) (hl : cs.length = m * size) (hm : m ≤ 1048576) (hm0 : 0 < m) :
  heapOp P lo (frS n S) H ⟨d, .call ⟨.builtin .append, #[x, y], #[t0, t1]⟩, ty, p, #[], none⟩ = some (.val (.slice (some ⟨H.next, 0, none⟩) m m) (H.new (.cells cs e true)), .heavy) := by
 have h1 : Nat.beq m 0 = false := by rw [beq_eq]; simp; omega
 have h2 : Nat.ble (0 + m) 0 = false := by
  cases h : Nat.ble (0 + m) 0 with
  | false => rfl
  | true => have := Nat.le_of_ble_eq_true h; omega
 have h3 : row (0 * size) ([] : List Value) 0 = some [] := by simp [row, beq_eq]
 unfold heapOp
 simp only [evs, ev_frS, hx, hy, builtinV, List.getElem?_toArray, List.getElem?_cons_zero, List.getElem?_cons_succ, he, ht, src_of hs hl, appendV, h0, Nat.zero_add, Nat.ble_eq_true_of_le hm, h1, cond_true, cond_false]
 rw [Nat.zero_add] at h2
 simp only [h2, cond_false, h3, List.nil_append]
theorem heap_append_none {n : Nat} {S : Rg} {H : Hp} {d : Option Tmp} {t0 t1 e ty ep : TypeId} {x y : Operand} {p : String} {size cap b0 : Nat} {a : Option Addr} {cs : List Value} (he : sliceElem P t0 = some (e, size)) (ht : P.underlying t1 = some (.slice ep))
  (hx : evS S x = some (.slice (some ⟨b0, 0, none⟩) 0 0)) (hy : evS S y = some (.slice a 0 cap)) (hs : Sl H a 0 cap cs) (hl : cs.length = 0) :
  heapOp P lo (frS n S) H ⟨d, .call ⟨.builtin .append, #[x, y], #[t0, t1]⟩, ty, p, #[], none⟩ = some (.val (.slice (some ⟨b0, 0, none⟩) 0 0) H, .pure) := by
 unfold heapOp
 simp only [evs, ev_frS, hx, hy, builtinV, List.getElem?_toArray, List.getElem?_cons_zero, List.getElem?_cons_succ, he, ht, src_of (size := size) hs (by simpa using hl), appendV]
 rfl
theorem heap_build0 {n : Nat} {S : Rg} {H : Hp} {d : Option Tmp} {t e ty : TypeId} {p : String} {size : Nat} {z : Value} (he : sliceElem P t = some (e, size)) (hz : zeroOf P e = some z) :
  heapOp P lo (frS n S) H ⟨d, .buildSlice t 0 #[], ty, p, #[], none⟩ = some (.val (.slice (some ⟨H.next, 0, none⟩) 0 0) (H.new (.cells [] e false)), .heavy) := by
 unfold heapOp
 simp only [partsOf, he, hz, Nat.zero_mul]
 rfl
theorem fnX_low {f : FuncId} {fn : Func} {R : RC} {n : Nat} {rs : List ResultVar} {args : List Value} {H : Hp} {Q : Value → Hp → Prop} (hf : P.funcs[f]? = some fn) (hb : fn.body = some (at_ fn [])) (hn : fn.ntmps = n) (hz : fn.results.toList = rs) (hL : low P fn.ntmps (at_ fn []) = some R) (hl : args.length ≤ n)
  (h : wC P kn lo n false R (argS args 0) H fun e S' H' => (match e with | .normal => True | .ret => True | _ => False) ∧ ∃ vs, resS P S' H' rs = some vs ∧ Q (retV vs) H') :
  ∃ v H', FnX P kn lo f args H v H' ∧ Q v H' := by
 subst hn hz
 exact fnX_of_tri hf hb hl (wC_sound false _ hL h)
def Subs : Rg → Rg → Prop
 | [], _ => True
 | (j, v) :: r, S => lk S j = some v ∧ Subs r S
theorem Subs.get : ∀ {S0 S : Rg}, Subs S0 S → ∀ j v, lk S0 j = some v → lk S j = some v
 | [], _, _, j, v, h => by cases h
 | (i, u) :: r, S, hs, j, v, h => by
  simp only [lk, beq_eq] at h
  by_cases e : i = j
  ·subst e
   simp only [decide_true, cond_true, Option.some.injEq] at h
   subst h
   exact hs.1
  ·rw [decide_eq_false e] at h
   exact hs.2.get j v h
theorem loop_low {α : Type} {c b : Code} {fn : Func} {n : Nat} {R : RC} {rd : Bool} {S : Rg} {H : Hp} {K : Exit → Rg → Hp → Prop} (hc : c = .loop b) (hn : fn.ntmps = n) (hL : low P fn.ntmps b = some R) (SS : α → Rg) (I : Nat → α → Hp → Prop)
  (k : Nat) (a : α) (hI : I k a H) (hS : Subs (SS a) S)
  (hb : ∀ k a H, I k a H → wC P kn lo n rd R (SS a) H fun e S' H' => match e with | .normal => ∃ k' a', k' < k ∧ I k' a' H' ∧ Subs (SS a') S' | e => K e S' H') :
  Tri P kn lo n rd c S H K := by
 subst hc hn
 refine Tri.loop (fun k S H => ∃ a, I k a H ∧ Subs (SS a) S) (fun k S H q => ?_) k S H ⟨a, hI, hS⟩
 obtain ⟨a, q, hs⟩ := q
 refine Tri.forget ((wC_sound rd _ hL (hb k a H q)).mono fun e S' H' r => ?_) hs.get
 cases e with
 | normal => obtain ⟨k', a', x, y, z⟩ := r; exact ⟨k', x, a', y, z⟩
 | _ => exact r
end
end Go.Ax

/-! The evaluator for all inputs, 6: ranges over functions. -/
namespace Go.Ax
open Go Go.RowKit

section
variable {P : Program} {kn : Kn} {lo n : Nat}

def TriR (P : Program) (kn : Kn) (lo n : Nat) (c : Code) (S : Rg) (H : Hp) (K : Exit → Rg → Hp → List Deferred → Prop) : Prop :=
 ∀ A : Fr, A.n = n → A.round = none → (P.funcs[A.fn]?).isSome = true → Knows S A.T →
  ∃ e S' H' T' D, K e S' H' D ∧ Knows S' T' ∧ ∃ N, ∀ f m k, N ≤ f → N ≤ m → N ≤ k → runCode P lo (callF P kn m k) f c A H none = some (e, { A with T := T', defers := D ++ A.defers }, H', none)

theorem TriR.of {c : Code} {S : Rg} {H : Hp} {K : Exit → Rg → Hp → List Deferred → Prop} (h : Tri P kn lo n false c S H fun e S' H' => K e S' H' []) : TriR P kn lo n c S H K := by
 intro A h1 h2 _ h3
 obtain ⟨e, S', H', T', a, b, N, r⟩ := h A h1 (by rw [h2]; rfl) h3
 exact ⟨e, S', H', T', [], a, b, N, r⟩
theorem TriR.seqR {x y : Code} {S : Rg} {H : Hp} {K : Exit → Rg → Hp → List Deferred → Prop} (h : Tri P kn lo n false x S H fun e S' H' => match e with | .normal => TriR P kn lo n y S' H' K | e => K e S' H' []) : TriR P kn lo n (.seq x y) S H K := by
 intro A h1 h2 h4 h3
 obtain ⟨e, S1, H1, T1, a, b, N1, c⟩ := h A h1 (by rw [h2]; rfl) h3
 cases e with
 | normal =>
  obtain ⟨e, S', H', T', D, a', b', N2, c'⟩ := a { A with T := T1 } h1 h2 h4 b
  refine ⟨e, S', H', T', D, a', b', N1 + N2 + 1, fun f m k hf hm hk => ?_⟩
  obtain ⟨f, rfl⟩ : ∃ g, f = g + 1 := ⟨f - 1, by omega⟩
  rw [runCode]
  simp only [c f m k (by omega) (by omega) (by omega)]
  exact c' f m k (by omega) (by omega) (by omega)
 | _ =>
  refine ⟨_, S1, H1, T1, [], a, b, N1 + 1, fun f m k hf hm hk => ?_⟩
  obtain ⟨f, rfl⟩ : ∃ g, f = g + 1 := ⟨f - 1, by omega⟩
  rw [runCode]
  simp only [c f m k (by omega) (by omega) (by omega), List.nil_append]
theorem TriR.seqL {x y : Code} {S : Rg} {H : Hp} {K : Exit → Rg → Hp → List Deferred → Prop} (h : TriR P kn lo n x S H fun e S' H' D => match e with | .normal => Tri P kn lo n false y S' H' (fun e S2 H2 => K e S2 H2 D) | e => K e S' H' D) : TriR P kn lo n (.seq x y) S H K := by
 intro A h1 h2 h4 h3
 obtain ⟨e, S1, H1, T1, D, a, b, N1, c⟩ := h A h1 h2 h4 h3
 cases e with
 | normal =>
  obtain ⟨e, S', H', T', a', b', N2, c'⟩ := a { A with T := T1, defers := D ++ A.defers } h1 (by show A.round.isSome = false; rw [h2]; rfl) b
  refine ⟨e, S', H', T', D, a', b', N1 + N2 + 1, fun f m k hf hm hk => ?_⟩
  obtain ⟨f, rfl⟩ : ∃ g, f = g + 1 := ⟨f - 1, by omega⟩
  rw [runCode]
  simp only [c f m k (by omega) (by omega) (by omega)]
  exact c' f m k (by omega) (by omega) (by omega)
 | _ =>
  refine ⟨_, S1, H1, T1, D, a, b, N1 + 1, fun f m k hf hm hk => ?_⟩
  obtain ⟨f, rfl⟩ : ∃ g, f = g + 1 := ⟨f - 1, by omega⟩
  rw [runCode]
  simp only [c f m k (by omega) (by omega) (by omega)]
theorem TriR.scope {b : Code} {S : Rg} {H : Hp} {K : Exit → Rg → Hp → List Deferred → Prop} (h : TriR P kn lo n b S H K) : TriR P kn lo n (.scope b) S H K := by
 intro A h1 h2 h4 h3
 obtain ⟨e, S', H', T', D, p, q, N, r⟩ := h A h1 h2 h4 h3
 refine ⟨e, S', H', T', D, p, q, N + 1, fun f m k hf hm hk => ?_⟩
 obtain ⟨f, rfl⟩ : ∃ g, f = g + 1 := ⟨f - 1, by omega⟩
 rw [runCode]
 exact r f m k (by omega) (by omega) (by omega)
theorem TriR.block {id : Nat} {b : Code} {S : Rg} {H : Hp} {K : Exit → Rg → Hp → List Deferred → Prop} (h : TriR P kn lo n b S H fun e S' H' D => match e with | .exit j => (bif Nat.beq j id then K .normal S' H' D else K (.exit j) S' H' D) | e => K e S' H' D) : TriR P kn lo n (.block id b) S H K := by
 intro A h1 h2 h4 h3
 obtain ⟨e, S', H', T', D, p, q, N, r⟩ := h A h1 h2 h4 h3
 have unf : ∀ f m k, runCode P lo (callF P kn m k) (f + 1) (.block id b) A H none = match runCode P lo (callF P kn m k) f b A H none with
  | some (.exit j, A', H', p') => bif Nat.beq j id then some (.normal, A', H', p') else some (.exit j, A', H', p')
  | r => r := fun f m k => by rw [runCode]; rfl
 cases e with
 | exit j =>
  simp only at p
  cases hj : Nat.beq j id with
  | true =>
   rw [hj] at p
   refine ⟨.normal, S', H', T', D, p, q, N + 1, fun f m k hf hm hk => ?_⟩
   obtain ⟨f, rfl⟩ : ∃ g, f = g + 1 := ⟨f - 1, by omega⟩
   rw [unf, r f m k (by omega) (by omega) (by omega)]
   simp only [hj, cond_true]
  | false =>
   rw [hj] at p
   refine ⟨.exit j, S', H', T', D, p, q, N + 1, fun f m k hf hm hk => ?_⟩
   obtain ⟨f, rfl⟩ : ∃ g, f = g + 1 := ⟨f - 1, by omega⟩
   rw [unf, r f m k (by omega) (by omega) (by omega)]
   simp only [hj, cond_false]
 | _ =>
  refine ⟨_, S', H', T', D, p, q, N + 1, fun f m k hf hm hk => ?_⟩
  obtain ⟨f, rfl⟩ : ∃ g, f = g + 1 := ⟨f - 1, by omega⟩
  rw [unf, r f m k (by omega) (by omega) (by omega)]

def Lp (P : Program) (H : Hp) (l : Nat) (st : LoopState) (pe : Option Code) (n : Nat) (S : Rg) (ps : List Tmp) (asg body : Code) (r : Nat) : Prop :=
 ∃ fn T, H.t.get l = some (.lp st pe fn n T ps asg body r) ∧ (P.funcs[fn]?).isSome = true ∧ Knows S T
theorem Lp.keep {H H1 : Hp} {l : Nat} {st : LoopState} {pe : Option Code} {n : Nat} {S : Rg} {ps : List Tmp} {asg body : Code} {r : Nat} {w : List Nat} (h : Lp P H l st pe n S ps asg body r) (k : Keep H H1 w) (hl : l < H.next) (hw : l ∉ w) : Lp P H1 l st pe n S ps asg body r := by
 obtain ⟨fn, T, a, b⟩ := h
 exact ⟨fn, T, by rw [k.2 l hl hw]; exact a, b⟩
theorem Lp.weak {H : Hp} {l : Nat} {st : LoopState} {pe : Option Code} {n : Nat} {S S0 : Rg} {ps : List Tmp} {asg body : Code} {r : Nat} (h : Lp P H l st pe n S ps asg body r) (k : Subs S0 S) : Lp P H l st pe n S0 ps asg body r := by
 obtain ⟨fn, T, a, b, c⟩ := h
 exact ⟨fn, T, a, b, fun j v e => c j v (k.get j v e)⟩
def SetLp (H : Hp) (l : Nat) (st : LoopState) (pe : Option Code) (H1 : Hp) : Prop :=
 H1.next = H.next ∧ (∀ b, b ≠ l → H1.t.get b = H.t.get b) ∧ (∀ st0 pe0 fn n T ps asg body r, H.t.get l = some (.lp st0 pe0 fn n T ps asg body r) → H1.t.get l = some (.lp st pe fn n T ps asg body r)) ∧ ∀ cs, H1.t.get l ≠ some (.ro cs)
theorem SetLp.keep {H H1 : Hp} {l : Nat} {st : LoopState} {pe : Option Code} (h : SetLp H l st pe H1) : Keep H H1 [l] := ⟨by rw [h.1]; exact Nat.le_refl _, fun b _ hb => h.2.1 b (by simpa using hb), fun b cs hb hg => by
 by_cases e : b = l
 ·subst e; exact absurd hg (h.2.2.2 cs)
 ·exact ⟨by rw [h.1] at hb; exact hb, by rw [h.2.1 b e] at hg; exact hg⟩⟩
theorem SetLp.lp {H H1 : Hp} {l : Nat} {st st0 : LoopState} {pe pe0 : Option Code} {n : Nat} {S : Rg} {ps : List Tmp} {asg body : Code} {r : Nat} (h : SetLp H l st pe H1) (k : Lp P H l st0 pe0 n S ps asg body r) : Lp P H1 l st pe n S ps asg body r := by
 obtain ⟨fn, T, a, b⟩ := k
 exact ⟨fn, T, h.2.2.1 _ _ _ _ _ _ _ _ _ a, b⟩
theorem setLp_up {H : Hp} {l : Nat} {st st0 : LoopState} {pe pe0 : Option Code} {fn : FuncId} {n : Nat} {T : Tr Value} {ps : List Tmp} {asg body : Code} {r : Nat} (h : H.t.get l = some (.lp st0 pe0 fn n T ps asg body r)) : SetLp H l st pe { H with t := H.t.set l (.lp st pe fn n T ps asg body r) } := by
 refine ⟨rfl, fun b hb => by simp only [Tr.get_set]; rw [if_neg hb], fun st1 pe1 fn1 n1 T1 ps1 asg1 body1 r1 e => ?_, fun cs e => by simp only [Tr.get_set, if_true] at e; cases e⟩
 rw [h] at e; cases e
 simp only [Tr.get_set, if_true]

def bindS : List Tmp → List Value → Rg → Option Rg
 | [], [], S => some S
 | t :: ts, v :: vs, S => bindS ts vs ((t, v) :: S)
 | _, _, _ => none
theorem set_tmps : ∀ (ps : List Tmp) (vs : List Value) (S S1 : Rg) (T : Tr Value), Knows S T → bindS ps vs S = some S1 → ∃ T1, setTmps T ps vs = some T1 ∧ Knows S1 T1
 | [], [], S, S1, T, h, e => by simp only [bindS] at e; cases e; exact ⟨T, rfl, h⟩
 | [], _ :: _, _, _, _, _, e => by simp [bindS] at e
 | _ :: _, [], _, _, _, _, e => by simp [bindS] at e
 | t :: ts, v :: vs, S, S1, T, h, e => by
  simp only [bindS] at e
  exact set_tmps ts vs _ S1 (T.set t v) (knows_put h (some t) v) e

theorem evYield {m k l : Nat} {cap : Array Value} {args : List Value} {H : Hp} : evCall P kn m (k + 1) lo (.fn (.yield l) cap) args H none = match H.t.get l with
  | some (.lp .ready pe fn n T params asg body df) =>
   match setTmps T params args with
   | none => none
   | some T' =>
    bif Nat.ble lo l then
    bif (P.funcs[fn]?).isSome && params.all (fun t => Nat.blt t n) then
    match runCode P lo (callF P kn m k) m asg { fn, n, T := T', defers := [], round := some l } H none with
    | some (.normal, A, H1, none) =>
     match H1.t.get l with
     | some (.lp .ready pe' fn' n' T2 ps' as' bo' df') =>
      match runCode P lo (callF P kn m k) m body A { H1 with t := H1.t.set l (.lp .busy pe' fn' n' T2 ps' as' bo' df') } none with
      | none => none
      | some (e, A', H3, _) =>
       match A'.defers, H3.t.get l with
       | [], some (.lp _ _ a b c d e' g h) =>
        match e with
        | .normal => some (.ret (.bool true), { H3 with t := H3.t.set l (.lp .ready none a b c d e' g h) }, none)
        | .ret => some (.ret (.bool false), { H3 with t := H3.t.set l (.lp .done (some .ret) a b c d e' g h) }, none)
        | .exit id => some (.ret (.bool false), { H3 with t := H3.t.set l (.lp .done (some (.exit id)) a b c d e' g h) }, none)
        | .panic [{ v, recovered := false, goexit := false }] => some (.pan v, H3, none)
        | _ => none
       | _, _ => none
     | _ => none
    | _ => none
    else none
    else none
  | _ => none := by
 simp only [evCall]
 cases H.t.get l with
 | none => rfl
 | some o =>
  cases o with
  | lp st a b c d e f g h => cases st <;> rfl
  | _ => rfl
theorem yield_ok {H : Hp} {l : Nat} {S S1 : Rg} {ps : List Tmp} {asg body : Code} {r : Nat} {pe : Option Code} {args : List Value} {Q : Bool → Hp → Prop} (hl : Lp P H l .ready pe n S ps asg body r) (hlo : lo ≤ l) (hps : ps.all (fun t => Nat.blt t n) = true) (hb : bindS ps args S = some S1)
  (h : Tri P kn lo n true asg S1 H fun e S2 H1 => (match e with | .normal => True | _ => False) ∧ Lp P H1 l .ready pe n S ps asg body r ∧ ∀ H2, SetLp H1 l .busy pe H2 → Tri P kn lo n true body S2 H2 fun e S3 H3 => Lp P H3 l .busy pe n S ps asg body r ∧
   (match e with | .normal => ∀ H4, SetLp H3 l .ready none H4 → Q true H4 | .ret => ∀ H4, SetLp H3 l .done (some .ret) H4 → Q false H4 | .exit id => ∀ H4, SetLp H3 l .done (some (.exit id)) H4 → Q false H4 | _ => False)) :
  ∃ b H', CallsX P kn lo (.fn (.yield l) #[]) args H (.bool b) H' ∧ Q b H' := by
 obtain ⟨fn, T, hg, hfn, hk⟩ := hl
 obtain ⟨T1, hT1, hk1⟩ := set_tmps ps args S S1 T hk hb
 obtain ⟨e, S2, H1, T2, ⟨he, hl1, hbody⟩, hk2, N1, r1⟩ := h { fn, n, T := T1, defers := [], round := some l } rfl rfl hk1
 cases e <;> simp only at he
 obtain ⟨fn1, Ta, hg1, hfn1, hka⟩ := hl1
 obtain ⟨e, S3, H3, T3, ⟨hl3, hq⟩, hk3, N2, r2⟩ := hbody _ (setLp_up (st := .busy) (pe := pe) hg1) { fn, n, T := T2, defers := [], round := some l } rfl rfl hk2
 obtain ⟨fn3, Tb, hg3, hfn3, hkb⟩ := hl3
 have run : ∀ m k, N1 + N2 + 1 ≤ m → N1 + N2 + 1 ≤ k → ∀ v st' pe', (match e with | .normal => some (En.ret (.bool true), LoopState.ready, (none : Option Code)) | .ret => some (.ret (.bool false), .done, some .ret) | .exit id => some (.ret (.bool false), .done, some (.exit id)) | _ => none) = some (.ret v, st', pe') →
   callF P kn m k lo (.fn (.yield l) #[]) args H = some (.ret v, { H3 with t := H3.t.set l (.lp st' pe' fn3 n Tb ps asg body r) }) := by
  intro m k hm hk' v st' pe' hv
  obtain ⟨k, rfl⟩ : ∃ g, k = g + 1 := ⟨k - 1, by omega⟩
  have r1' := r1 m m k (by omega) (by omega) (by omega)
  have r2' := r2 m m k (by omega) (by omega) (by omega)
  have key : evCall P kn m (k + 1) lo (.fn (.yield l) #[]) args H none = some (.ret v, { H3 with t := H3.t.set l (.lp st' pe' fn3 n Tb ps asg body r) }, none) := by
   rw [evYield]
   simp only [hg, hT1, Nat.ble_eq_true_of_le hlo, hfn, hps, Bool.and_true, cond_true, r1', hg1, r2', hg3]
   cases e <;> simp at hv
   all_goals
    obtain ⟨rfl, rfl, rfl⟩ := hv
    rfl
  unfold callF
  simp only [kcall, kspec, key]
 cases e <;> simp only at hq
 ·exact ⟨true, _, ⟨N1 + N2 + 1, fun m k hm hk => run m k hm hk _ _ _ rfl⟩, hq _ (setLp_up hg3)⟩
 ·exact ⟨false, _, ⟨N1 + N2 + 1, fun m k hm hk => run m k hm hk _ _ _ rfl⟩, hq _ (setLp_up hg3)⟩
 ·exact ⟨false, _, ⟨N1 + N2 + 1, fun m k hm hk => run m k hm hk _ _ _ rfl⟩, hq _ (setLp_up hg3)⟩

theorem TriR.range {fo : Operand} {ps : Array Tmp} {asg body : Code} {S : Rg} {H : Hp} {K : Exit → Rg → Hp → List Deferred → Prop} {fn : Fn} {first cap : Array Value} (hfo : evS S fo = some (.func fn first cap))
  (h : ∀ H1, Keep H H1 [] → H1.next = H.next + 2 → H1.t.get H.next = some (.dfr (some [])) → Lp P H1 (H.next + 1) .ready none n S ps.toList asg body H.next →
   ∃ v H2, CallsX P kn lo (.fn fn cap) (first.toList ++ [.func (.yield (H.next + 1)) #[] #[]]) H1 v H2 ∧ ∃ st pe S', Lp P H2 (H.next + 1) st pe n S' ps.toList asg body H.next ∧ st ≠ .busy ∧
    ∀ H3, SetLp H2 (H.next + 1) .exhausted pe H3 → match pe with | none => K .normal S H3 [{ target := .collected H.next, args := #[] }] | some (.exit id) => K (.exit id) S H3 [{ target := .collected H.next, args := #[] }] | some .ret => K .ret S H3 [{ target := .collected H.next, args := #[] }] | _ => False) :
  TriR P kn lo n (.rangeFunc fo ps asg body) S H K := by
 intro A h1 h2 h4 h3
 obtain ⟨v, H2, ⟨N, hc⟩, st, pe, S', ⟨fn', T', hg, hfn, hk⟩, hst, hK⟩ := h ((H.new (.dfr (some []))).new (.lp .ready none A.fn A.n A.T ps.toList asg body H.next))
  ⟨by show H.next ≤ H.next + 1 + 1; omega, fun b hb _ => by simp only [Hp.new, Tr.get_set]; rw [if_neg (by omega), if_neg (by omega)], fun b cs hb hg => by
   have hb : b < H.next + 1 + 1 := hb
   simp only [Hp.new, Tr.get_set] at hg
   by_cases e1 : b = H.next + 1
   ·rw [if_pos e1] at hg; cases hg
   ·rw [if_neg e1] at hg
    by_cases e2 : b = H.next
    ·rw [if_pos e2] at hg; cases hg
    ·rw [if_neg e2] at hg; exact ⟨by omega, hg⟩⟩ rfl (by simp only [Hp.new, Tr.get_set]; rw [if_neg (by omega), if_pos trivial]) ⟨A.fn, A.T, by simp only [Hp.new, Tr.get_set]; rw [if_pos trivial, h1], h4, h3⟩
 have hK := hK _ (setLp_up (st := .exhausted) (pe := pe) hg)
 cases pe with
 | none =>
  refine ⟨.normal, S, _, A.T, _, hK, h3, N + 1, fun f m k hf hm hk => ?_⟩
  obtain ⟨f, rfl⟩ : ∃ g, f = g + 1 := ⟨f - 1, by omega⟩
  have hc' := hc m k (by omega) (by omega)
  rw [runCode]
  simp only [h2, ev_of h3 hfo, hc', hg]
  cases st <;> first | exact absurd rfl hst | rfl
 | some c =>
  cases c <;> simp only at hK
  ·refine ⟨.exit _, S, _, A.T, _, hK, h3, N + 1, fun f m k hf hm hk => ?_⟩
   obtain ⟨f, rfl⟩ : ∃ g, f = g + 1 := ⟨f - 1, by omega⟩
   have hc' := hc m k (by omega) (by omega)
   rw [runCode]
   simp only [h2, ev_of h3 hfo, hc', hg]
   cases st <;> first | exact absurd rfl hst | rfl
  ·refine ⟨.ret, S, _, A.T, _, hK, h3, N + 1, fun f m k hf hm hk => ?_⟩
   obtain ⟨f, rfl⟩ : ∃ g, f = g + 1 := ⟨f - 1, by omega⟩
   have hc' := hc m k (by omega) (by omega)
   rw [runCode]
   simp only [h2, ev_of h3 hfo, hc', hg]
   cases st <;> first | exact absurd rfl hst | rfl

theorem keep_set {H : Hp} {r : Nat} {o : Ob} (ho : ∀ cs, o ≠ .ro cs) : Keep H { H with t := H.t.set r o } [r] := by
 refine ⟨Nat.le_refl _, fun b _ hb => ?_, fun b cs hb hg => ?_⟩
 ·simp only [Tr.get_set]; rw [if_neg (by simpa using hb)]
 ·simp only [Tr.get_set] at hg
  split at hg
  ·cases hg; exact absurd rfl (ho cs)
  ·exact ⟨hb, hg⟩
theorem fnX_of_triR {f : FuncId} {fn : Func} {c : Code} {args : List Value} {H : Hp} {Q : Value → Hp → Prop} (hf : P.funcs[f]? = some fn) (hc : fn.body = some c) (hl : args.length ≤ fn.ntmps)
  (h : TriR P kn lo fn.ntmps c (argS args 0) H fun e S' H' D => (match e with | .normal => True | .ret => True | _ => False) ∧
   ((D = [] ∧ ∃ vs, resS P S' H' fn.results.toList = some vs ∧ Q (retV vs) H') ∨
    ∃ r, D = [{ target := .collected r, args := #[] }] ∧ lo ≤ r ∧ H'.t.get r = some (.dfr (some [])) ∧ ∀ H2, H2.next = H'.next → Keep H' H2 [r] → ∃ vs, resS P S' H2 fn.results.toList = some vs ∧ Q (retV vs) H2)) :
  ∃ v H', FnX P kn lo f args H v H' ∧ Q v H' := by
 obtain ⟨e, S', H', T', D, ⟨he, hcase⟩, hk, N, hr⟩ := h { fn := f, n := fn.ntmps, T := trOf args 0 .nil, defers := [], round := none } rfl rfl (by rw [hf]; rfl) (knows_args args)
 have last : ∀ m k H2 vs, 1 ≤ m → resS P S' H2 fn.results.toList = some vs → unwindV P lo (fun t a H p => evCall P kn m k lo t a H p) fn m { fn := f, n := fn.ntmps, T := T', defers := [], round := none } H2 none = some (.ret (retV vs), H2) := by
  intro m k H2 vs hm hres
  obtain ⟨m', rfl⟩ : ∃ g, m = g + 1 := ⟨m - 1, by omega⟩
  rw [unwindV]
  simp only [res_of (A := { fn := f, n := fn.ntmps, T := T', defers := [], round := none }) hk hres]
  match vs with
  | [] => rfl
  | [v] => rfl
  | v :: u :: r => rfl
 rcases hcase with ⟨rfl, vs, hres, hq⟩ | ⟨r, rfl, hlr, hg, hcase⟩
 ·refine ⟨retV vs, H', ⟨N + 1, fun m k hm hk' => ?_⟩, hq⟩
  have hr := hr m m k (by omega) (by omega) (by omega)
  simp only [List.append_nil] at hr
  unfold runFunc
  simp only [hf, hc, Nat.ble_eq_true_of_le hl, cond_true, hr]
  cases e <;> simp only at he <;> simp only [last m k H' vs (by omega) hres]
 ·obtain ⟨vs, hres, hq⟩ := hcase { H' with t := H'.t.set r (.dfr none) } rfl (keep_set (fun cs e => by cases e))
  refine ⟨retV vs, _, ⟨N + 2, fun m k hm hk' => ?_⟩, hq⟩
  have hr := hr m m k (by omega) (by omega) (by omega)
  simp only [List.append_nil] at hr
  have hu : unwindV P lo (fun t a H p => evCall P kn m k lo t a H p) fn m { fn := f, n := fn.ntmps, T := T', defers := [{ target := .collected r, args := #[] }], round := none } H' none = some (.ret (retV vs), { H' with t := H'.t.set r (.dfr none) }) := by
   obtain ⟨m', rfl⟩ : ∃ g, m = g + 2 := ⟨m - 2, by omega⟩
   rw [unwindV]
   simp only [hg, Nat.ble_eq_true_of_le hlr, cond_true, List.nil_append]
   rw [unwindV]
   simp only [res_of (A := { fn := f, n := fn.ntmps, T := T', defers := [], round := none }) hk hres]
   match vs with
   | [] => rfl
   | [v] => rfl
   | v :: u :: r => rfl
  unfold runFunc
  simp only [hf, hc, Nat.ble_eq_true_of_le hl, cond_true, hr]
  cases e <;> simp only at he <;> simp only [hu]
end
end Go.Ax

/-! The evaluator for all inputs, 7: panics, and deferred calls. -/
namespace Go.Ax
open Go Go.RowKit

section
variable {P : Program} {kn : Kn} {lo n : Nat} {rd : Bool}

theorem low_call {ops : List Oper} {ord ord' : Bool} {o : Oper} {c : Call} (h : lowRI P ops ord o = some (.call c ord')) : o.op = .call c ∧ ∀ b, c.callee ≠ .builtin b := by
 unfold lowRI at h
 split at h <;> rename_i hop <;> (repeat' (first | (cases h; done) | (unfold cond at h) | (split at h)))
 all_goals first
  | (cases h; done)
  | (injection h with h; injection h with h1 h2; subst h1; refine ⟨hop, fun b e => ?_⟩; simp_all; done)
  | skip
inductive LV (P : Program) (n : Nat) : Code → RC → Prop
 | low {c : Code} {r : RC} : Go.Ax.low P n c = some r → LV P n c r
 | other (c : Code) : LV P n c (.other c)
 | seq {x y : Code} {a b : RC} : LV P n x a → LV P n y b → LV P n (.seq x y) (.seq a b)
 | block (id : Nat) {x : Code} {a : RC} : LV P n x a → LV P n (.block id x) (.block id a)
 | cond (o : Operand) {x y : Code} {a b : RC} : LV P n x a → LV P n y b → LV P n (.cond o x y) (.cond o a b)
theorem Tri.blockV {id : Nat} {b : Code} {S : Rg} {H : Hp} {K : Exit → Rg → Hp → Prop} (h : Tri P kn lo n rd b S H fun e S' H' => match e with | .exit j => (bif Nat.beq j id then K .normal S' H' else K (.exit j) S' H') | e => K e S' H') : Tri P kn lo n rd (.block id b) S H K := by
 intro A h1 h2 h3
 obtain ⟨e, S', H', T', p, q, N, r⟩ := h A h1 h2 h3
 have unf : ∀ f m k, runCode P lo (callF P kn m k) (f + 1) (.block id b) A H none = match runCode P lo (callF P kn m k) f b A H none with
  | some (.exit j, A', H', p') => bif Nat.beq j id then some (.normal, A', H', p') else some (.exit j, A', H', p')
  | r => r := fun f m k => by rw [runCode]; rfl
 cases e with
 | exit j =>
  simp only at p
  cases hj : Nat.beq j id with
  | true =>
   rw [hj] at p
   refine ⟨.normal, S', H', T', p, q, N + 1, fun f m k hf hm hk => ?_⟩
   obtain ⟨f, rfl⟩ : ∃ g, f = g + 1 := ⟨f - 1, by omega⟩
   rw [unf, r f m k (by omega) (by omega) (by omega)]
   simp only [hj, cond_true]
  | false =>
   rw [hj] at p
   refine ⟨.exit j, S', H', T', p, q, N + 1, fun f m k hf hm hk => ?_⟩
   obtain ⟨f, rfl⟩ : ∃ g, f = g + 1 := ⟨f - 1, by omega⟩
   rw [unf, r f m k (by omega) (by omega) (by omega)]
   simp only [hj, cond_false]
 | _ =>
  refine ⟨_, S', H', T', p, q, N + 1, fun f m k hf hm hk => ?_⟩
  obtain ⟨f, rfl⟩ : ∃ g, f = g + 1 := ⟨f - 1, by omega⟩
  rw [unf, r f m k (by omega) (by omega) (by omega)]
theorem Tri.cond {o : Operand} {x y : Code} {S : Rg} {H : Hp} {K : Exit → Rg → Hp → Prop} {t : Bool} (ht : evS S o = some (.bool t)) (hx : t = true → Tri P kn lo n rd x S H K) (hy : t = false → Tri P kn lo n rd y S H K) : Tri P kn lo n rd (.cond o x y) S H K := by
 intro A h1 h2 h3
 cases t with
 | true =>
  obtain ⟨e, S', H', T', p, q, N, r⟩ := hx rfl A h1 h2 h3
  refine ⟨e, S', H', T', p, q, N + 1, fun f m k hf hm hk => ?_⟩
  obtain ⟨f, rfl⟩ : ∃ g, f = g + 1 := ⟨f - 1, by omega⟩
  rw [runCode]
  simp only [ev_of h3 ht]
  exact r f m k (by omega) (by omega) (by omega)
 | false =>
  obtain ⟨e, S', H', T', p, q, N, r⟩ := hy rfl A h1 h2 h3
  refine ⟨e, S', H', T', p, q, N + 1, fun f m k hf hm hk => ?_⟩
  obtain ⟨f, rfl⟩ : ∃ g, f = g + 1 := ⟨f - 1, by omega⟩
  rw [runCode]
  simp only [ev_of h3 ht]
  exact r f m k (by omega) (by omega) (by omega)
theorem wC_lv {c : Code} {r : RC} (hl : LV P n c r) : ∀ {S : Rg} {H : Hp} {K : Exit → Rg → Hp → Prop}, wC P kn lo n rd r S H K → Tri P kn lo n rd c S H K := by
 induction hl with
 | low h => exact fun w => wC_sound rd _ h w
 | other c => exact fun w => w
 | seq _ _ ih1 ih2 => exact fun w => Tri.seq ((ih1 w).mono fun e S' H' q => by
   cases e with
   | normal => exact ih2 q
   | _ => exact q)
 | block id _ ih => exact fun w => Tri.blockV (ih w)
 | cond o _ _ ih1 ih2 =>
  intro S H K w
  simp only [wC] at w
  split at w <;> first | exact w.elim | skip
  rename_i t ht
  exact Tri.cond ht (fun h => ih1 (w.1 h)) (fun h => ih2 (w.2 h))
theorem loop_lv {α : Type} {c b : Code} {R : RC} {S : Rg} {H : Hp} {K : Exit → Rg → Hp → Prop} (hc : c = .loop b) (hL : LV P n b R) (SS : α → Rg) (I : Nat → α → Hp → Prop)
  (k : Nat) (a : α) (hI : I k a H) (hS : Subs (SS a) S)
  (hb : ∀ k a H, I k a H → wC P kn lo n rd R (SS a) H fun e S' H' => match e with | .normal => ∃ k' a', k' < k ∧ I k' a' H' ∧ Subs (SS a') S' | e => K e S' H') :
  Tri P kn lo n rd c S H K := by
 subst hc
 refine Tri.loop (fun k S H => ∃ a, I k a H ∧ Subs (SS a) S) (fun k S H q => ?_) k S H ⟨a, hI, hS⟩
 obtain ⟨a, q, hs⟩ := q
 refine Tri.forget ((wC_lv hL (hb k a H q)).mono fun e S' H' r => ?_) hs.get
 cases e with
 | normal => obtain ⟨k', a', x, y, z⟩ := r; exact ⟨k', x, a', y, z⟩
 | _ => exact r

end
end Go.Ax

/-! The evaluator for all inputs, 8: iterators whose loop panics, and functions with a deferred call that recovers. -/
namespace Go.Ax
open Go Go.RowKit

section
variable {P : Program} {kn : Kn} {lo n : Nat}

/-! Deferred functions, which may recover. -/
def TriQ (P : Program) (kn : Kn) (lo n : Nat) (c : Code) (S : Rg) (H : Hp) (p : Par) (K : Exit → Rg → Hp → Par → Prop) : Prop :=
 ∀ A : Fr, A.n = n → A.round = none → Knows S A.T →
  ∃ e S' H' T' p', K e S' H' p' ∧ Knows S' T' ∧ ∃ N, ∀ f m k, N ≤ f → N ≤ m → N ≤ k → runCode P lo (callF P kn m k) f c A H p = some (e, { A with T := T' }, H', p')
theorem TriQ.seq {c x y : Code} {S : Rg} {H : Hp} {p : Par} {K : Exit → Rg → Hp → Par → Prop} (hc : c = .seq x y) (h : TriQ P kn lo n x S H p fun e S' H' p' => match e with | .normal => TriQ P kn lo n y S' H' p' K | e => K e S' H' p') : TriQ P kn lo n c S H p K := by
 subst hc
 intro A h1 h2 h3
 obtain ⟨e, S1, H1, T1, p1, a, b, N1, c⟩ := h A h1 h2 h3
 cases e with
 | normal =>
  obtain ⟨e, S', H', T', p', a', b', N2, c'⟩ := a { A with T := T1 } h1 h2 b
  refine ⟨e, S', H', T', p', a', b', N1 + N2 + 1, fun f m k hf hm hk => ?_⟩
  obtain ⟨f, rfl⟩ : ∃ g, f = g + 1 := ⟨f - 1, by omega⟩
  rw [runCode]
  simp only [c f m k (by omega) (by omega) (by omega)]
  exact c' f m k (by omega) (by omega) (by omega)
 | _ =>
  refine ⟨_, S1, H1, T1, p1, a, b, N1 + 1, fun f m k hf hm hk => ?_⟩
  obtain ⟨f, rfl⟩ : ∃ g, f = g + 1 := ⟨f - 1, by omega⟩
  rw [runCode]
  simp only [c f m k (by omega) (by omega) (by omega)]
theorem TriQ.cond {c : Code} {o : Operand} {x y : Code} {S : Rg} {H : Hp} {p : Par} {K : Exit → Rg → Hp → Par → Prop} {t : Bool} (hc : c = .cond o x y) (ht : evS S o = some (.bool t)) (hx : t = true → TriQ P kn lo n x S H p K) (hy : t = false → TriQ P kn lo n y S H p K) : TriQ P kn lo n c S H p K := by
 subst hc
 intro A h1 h2 h3
 cases t with
 | true =>
  obtain ⟨e, S', H', T', p', a, q, N, r⟩ := hx rfl A h1 h2 h3
  refine ⟨e, S', H', T', p', a, q, N + 1, fun f m k hf hm hk => ?_⟩
  obtain ⟨f, rfl⟩ : ∃ g, f = g + 1 := ⟨f - 1, by omega⟩
  rw [runCode]
  simp only [ev_of h3 ht]
  exact r f m k (by omega) (by omega) (by omega)
 | false =>
  obtain ⟨e, S', H', T', p', a, q, N, r⟩ := hy rfl A h1 h2 h3
  refine ⟨e, S', H', T', p', a, q, N + 1, fun f m k hf hm hk => ?_⟩
  obtain ⟨f, rfl⟩ : ∃ g, f = g + 1 := ⟨f - 1, by omega⟩
  rw [runCode]
  simp only [ev_of h3 ht]
  exact r f m k (by omega) (by omega) (by omega)
theorem TriQ.skip {c : Code} {S : Rg} {H : Hp} {p : Par} {K : Exit → Rg → Hp → Par → Prop} (hc : c = .skip) (h : K .normal S H p) : TriQ P kn lo n c S H p K := by
 subst hc
 intro A h1 h2 h3
 refine ⟨.normal, S, H, A.T, p, h, h3, 1, fun f m k hf hm hk => ?_⟩
 obtain ⟨f, rfl⟩ : ∃ g, f = g + 1 := ⟨f - 1, by omega⟩
 rfl
inductive RQ where
 | ro (o : RO)
 | rcv (d : Option Nat)
def lowRQ (P : Program) (n : Nat) (ops : List Oper) (o : Oper) : Option RQ :=
 match o.op, o.guard with
 | .call { callee := .builtin .recover, args := ⟨[]⟩, .. }, none => bif (match o.dst with | none => true | some d => Nat.ble (d + 1) n) then some (.rcv o.dst) else none
 | _, _ => match lowRO P n ops true o with | some r => some (.ro r) | none => none
def lowRQs (P : Program) (n : Nat) (ops : List Oper) : List Oper → Option (List RQ)
 | [] => some []
 | o :: r => match lowRQ P n ops o with
  | none => none
  | some x => match lowRQs P n ops r with | none => none | some l => some (x :: l)
def wOpsQ (P : Program) (kn : Kn) (lo n : Nat) : List RQ → Rg → Hp → Par → (Rg → Hp → Par → Prop) → Prop
 | [], S, H, p, K => K S H p
 | .ro o :: r, S, H, p, K => wRO P kn lo n S H o fun S' H' _ => wOpsQ P kn lo n r S' H' p K
 | .rcv d :: r, S, H, p, K => match p with
  | some (v, false) => wOpsQ P kn lo n r (putS S d v) H (some (v, true)) K
  | p => wOpsQ P kn lo n r (putS S d .nilIface) H p K
theorem wOpsQ_sound {ops : Array Oper} : ∀ (rest pre : List Oper) {rl : List RQ} {A : Fr} {S : Rg} {H : Hp} {p : Par} {K : Rg → Hp → Par → Prop}, ops.toList = pre ++ rest → lowRQs P n ops.toList rest = some rl → Knows S A.T → A.n = n → A.round = none → wOpsQ P kn lo n rl S H p K →
  ∃ S' H' T' p', K S' H' p' ∧ Knows S' T' ∧ ∃ N, ∀ m k, N ≤ m → N ≤ k → runOps P lo (callF P kn m k) ops (List.range' pre.length rest.length) A H p = some (.normal, { A with T := T' }, H', p')
 | [], pre, rl, A, S, H, p, K, he, hl, hA, hn, hr, h => by
  simp only [lowRQs] at hl; cases hl
  exact ⟨S, H, A.T, p, h, hA, 0, fun m k _ _ => rfl⟩
 | o :: rest, pre, rl, A, S, H, p, K, he, hl, hA, hn, hr, h => by
  simp only [lowRQs] at hl
  split at hl <;> first | (cases hl; done) | skip
  rename_i rp hrp
  split at hl <;> first | (cases hl; done) | skip
  rename_i l hrest
  cases hl
  have ho : ops[pre.length]? = some o := by
   have : ops.toList[pre.length]? = some o := by rw [he]; simp
   simpa using this
  have he2 : ops.toList = (pre ++ [o]) ++ rest := by rw [he]; simp
  have ih := fun {A' : Fr} {S' : Rg} {H' : Hp} {p' : Par} (hA' : Knows S' A'.T) (hn' : A'.n = n) (hr' : A'.round = none) (h' : wOpsQ P kn lo n l S' H' p' K) => wOpsQ_sound rest (pre ++ [o]) (rl := l) he2 hrest hA' hn' hr' h'
  simp only [List.length_append, List.length_singleton] at ih
  have hrg : List.range' pre.length (o :: rest).length = pre.length :: List.range' (pre.length + 1) rest.length := by simp [List.range']
  rw [hrg]
  unfold lowRQ at hrp
  split at hrp
  ·rename_i ts hop hg
   obtain ⟨hdst, hrp⟩ := bif_some hrp
   cases hrp
   have hw : wantedA ops A o = some true := by unfold wantedA; rw [hg]
   have ea : aOp P lo A H o = some (.recov, .full) := by
    have : pureOp P A o = none := by unfold pureOp; rw [hop]; rfl
    unfold aOp; rw [this]; unfold heapOp; rw [hop]; rfl
   have hput := fun v => put_ok (A := A) (d := o.dst) (by rw [hn]; exact hdst) v
   by_cases hp : ∃ v, p = some (v, false)
   ·obtain ⟨v, rfl⟩ := hp
    obtain ⟨S', H', T', p', a, b, N, c⟩ := ih (A' := { A with T := putTr A.T o.dst v }) (knows_put hA o.dst v) hn hr h
    refine ⟨S', H', T', p', a, b, N, fun m k hm hk => ?_⟩
    rw [runOps]
    simp only [ho, hw, ea, hr, hput]
    have := c m k hm hk
    simp only [hr] at this
    exact this
   ·have h' : wOpsQ P kn lo n l (putS S o.dst .nilIface) H p K := by
     match p, hp, h with
     | none, _, h => exact h
     | some (v, true), _, h => exact h
     | some (v, false), hp, _ => exact absurd ⟨v, rfl⟩ hp
    obtain ⟨S', H', T', p', a, b, N, c⟩ := ih (A' := { A with T := putTr A.T o.dst .nilIface }) (knows_put hA o.dst .nilIface) hn hr h'
    refine ⟨S', H', T', p', a, b, N, fun m k hm hk => ?_⟩
    have := c m k hm hk
    simp only [hr] at this
    rw [runOps]
    simp only [ho, hw, ea, hr, hput]
    match p, hp with
    | none, _ => exact this
    | some (v, true), _ => exact this
    | some (v, false), hp => exact absurd ⟨v, rfl⟩ hp
  ·split at hrp <;> first | (cases hrp; done) | skip
   rename_i ro hro
   cases hrp
   simp only [wOpsQ] at h
   obtain ⟨hput, hcase⟩ := wRO_sound hro hA hn h
   rcases hcase with ⟨hw, h⟩ | ⟨hw, hdone⟩
   ·obtain ⟨S', H', T', p', a, b, N, c⟩ := ih (A' := { A with T := putTr A.T o.dst undef }) (knows_put hA o.dst undef) hn hr h
    refine ⟨S', H', T', p', a, b, N, fun m k hm hk => ?_⟩
    rw [runOps]
    simp only [ho, hw, hput]
    exact c m k hm hk
   ·rcases hdone with ⟨v, H1, kd, e1, _, h⟩ | ⟨H1, kd, e1, h⟩ | ⟨t, vs, v, H1, e1, _, ⟨N1, hc⟩, h⟩ | ⟨_, _, _, _, _, _, hf, _⟩
    rotate_right
    ·cases hf
    ·obtain ⟨S', H', T', p', a, b, N, c⟩ := ih (A' := { A with T := putTr A.T o.dst v }) (knows_put hA o.dst v) hn hr h
     refine ⟨S', H', T', p', a, b, N, fun m k hm hk => ?_⟩
     rw [runOps]
     simp only [ho, hw, e1, hput]
     exact c m k hm hk
    ·obtain ⟨S', H', T', p', a, b, N, c⟩ := ih (A' := { A with T := putTr A.T o.dst undef }) (knows_put hA o.dst undef) hn hr h
     refine ⟨S', H', T', p', a, b, N, fun m k hm hk => ?_⟩
     rw [runOps]
     simp only [ho, hw, e1, hput]
     exact c m k hm hk
    ·obtain ⟨S', H', T', p', a, b, N, c⟩ := ih (A' := { A with T := putTr A.T o.dst v }) (knows_put hA o.dst v) hn hr h
     refine ⟨S', H', T', p', a, b, N + N1, fun m k hm hk => ?_⟩
     rw [runOps]
     have := hc m k (by omega) (by omega)
     simp only [cond_true] at this
     simp only [ho, hw, e1, this, hput]
     exact c m k (by omega) (by omega)
theorem TriQ.reg {c : Code} {id : Nat} {ops : Array Oper} {rl : List RQ} {S : Rg} {H : Hp} {p : Par} {K : Exit → Rg → Hp → Par → Prop} (hc : c = .region id ops false) (hl : lowRQs P n ops.toList ops.toList = some rl) (h : wOpsQ P kn lo n rl S H p fun S' H' p' => K .normal S' H' p') : TriQ P kn lo n c S H p K := by
 subst hc
 intro A h1 h2 h3
 obtain ⟨S', H', T', p', a, b, N, r⟩ := wOpsQ_sound (ops := ops) (A := A) ops.toList [] (by simp) hl h3 h1 h2 h
 refine ⟨.normal, S', H', T', p', a, b, N + 1, fun f m k hf hm hk => ?_⟩
 obtain ⟨f, rfl⟩ : ∃ g, f = g + 1 := ⟨f - 1, by omega⟩
 rw [runCode]
 have := r m k (by omega) (by omega)
 simp only [List.length_nil] at this
 simp only [cond_false, List.range_eq_range']
 simpa using this
end
end Go.Ax

/-! The evaluator for all inputs, 9: drawn regions that panic. -/
namespace Go.Ax
open Go Go.RowKit

section
variable {P : Program} {kn : Kn} {lo n : Nat} {rd : Bool}
end
end Go.Ax

/-! Steps of drawn regions, one theorem each, and pieces (written by program). -/
namespace Go.Ax
open Go Go.RowKit
section
variable {P : Program} {kn : Kn} {lo n : Nat} {masks : List Nat} {r : List RO} {ks : List Kd} {S : Rg} {H : Hp} {K : Rg → Hp → Prop} {d : Option Nat} {x y : Operand} {rd : Bool}
theorem wD_seq {ops : List RO} {c : RC} {K : Exit → Rg → Hp → Prop} (h : wDraw P kn lo n masks ops [] S H fun S' H' => wC P kn lo n rd c S' H' K) : wC P kn lo n rd (.seq (.dreg ops masks) c) S H K := .inl h
theorem wD_mov {v : Value} (hx : evS S x = some v) (h : wDraw P kn lo n masks r (.pure :: ks) (putS S d v) H K) : wDraw P kn lo n masks (⟨d, none, .mov x⟩ :: r) ks S H K := by
 show match evS S x with | some v => wDraw P kn lo n masks r (.pure :: ks) (putS S d v) H K | none => False
 rw [hx]; exact h
theorem wD_nilc {a : Addr} (hx : evS S x = some (.pointer (some a))) (h : wDraw P kn lo n masks r (.pure :: ks) (putS S d (.pointer (some a))) H K) : wDraw P kn lo n masks (⟨d, none, .nilc x⟩ :: r) ks S H K := by
 simp only [wDraw, wRO, wRI, hx]; exact h
theorem wD_addo {b o off : Nat} (hx : evS S x = some (.pointer (some ⟨b, o, none⟩))) (h : wDraw P kn lo n masks r (.pure :: ks) (putS S d (.pointer (some ⟨b, o + off, none⟩))) H K) : wDraw P kn lo n masks (⟨d, none, .addo x off⟩ :: r) ks S H K := by
 simp only [wDraw, wRO, wRI, hx]; exact h
theorem wD_ld {b o m : Nat} {cs : List Value} {v : Value} (hx : evS S x = some (.pointer (some ⟨b, o, none⟩))) (hc : Rd H b cs) (hv : cs[o]? = some v) (h : wDraw P kn lo n masks r (.read b :: ks) (putS S d v) H K) : wDraw P kn lo n masks (⟨d, none, .ld x m⟩ :: r) ks S H K := by
 simp only [wDraw, wRO, wRI, hx]; exact ⟨cs, v, hc.of, hv, hc.lt, h⟩
theorem wD_pur {o : Oper} {v : Value} (hd : defd S o.op.operands.toList = true) (hv : pureOp P (frS n S) o = some v) (h : wDraw P kn lo n masks r (.pure :: ks) (putS S d v) H K) : wDraw P kn lo n masks (⟨d, none, .pur o⟩ :: r) ks S H K := ⟨hd, v, hv, h⟩
theorem wD_end (hp : (bif ks.all calm then True else pairsP ks masks)) (h : K S H) : wDraw P kn lo n masks [] ks S H K := ⟨hp, h⟩
theorem wD_lda {b o m : Nat} {cs q : List Value} (hx : evS S x = some (.pointer (some ⟨b, o, none⟩))) (hc : Rd H b cs) (hv : row m cs o = some q) (h : wDraw P kn lo n masks r (.read b :: ks) (putS S d (.agg q.toArray)) H K) : wDraw P kn lo n masks (⟨d, none, .lda x m⟩ :: r) ks S H K := by
 simp only [wDraw, wRO, wRI, hx]; exact ⟨cs, q, hc.of, hv, hc.lt, h⟩
theorem wD_add {a b : Int} (hx : evS S x = some (.int .i64 a)) (hy : evS S y = some (.int .i64 b)) (h2 : InR (a + b)) (h : wDraw P kn lo n masks r (.pure :: ks) (putS S d (.int .i64 (a + b))) H K) : wDraw P kn lo n masks (⟨d, none, .ari .add x y⟩ :: r) ks S H K := by
 simp only [wDraw, wRO, wRI, hx, hy]; exact ⟨h2, h⟩
theorem wD_idx {b o len cap size k : Nat} {kd : IntKind} {j : Int} (hx : evS S x = some (.slice (some ⟨b, o, none⟩) len cap)) (hy : evS S y = some (.int kd j)) (hj : j = (k : Int)) (hk : k < len) (h : wDraw P kn lo n masks r (.pure :: ks) (putS S d (.pointer (some ⟨b, o + k * size, none⟩))) H K) : wDraw P kn lo n masks (⟨d, none, .idx x y size⟩ :: r) ks S H K := by
 simp only [wDraw, wRO, wRI, hx, hy]; exact ⟨k, hj, hk, h⟩
theorem wD_callh {c : Call} {t : Target} {vs : List Value} {v : Value} {H' : Hp} (ht : targetS S c = some (t, vs)) (hm : marked t = false) (hc : CallsX P kn H.next t vs H v H') (h : wDraw P kn lo n masks r (.heavy :: ks) (putS S d v) H' K) : wDraw P kn lo n masks (⟨d, none, .call c false⟩ :: r) ks S H K := by
 simp only [wDraw, wRO, wRI, ht, hm, Bool.and_false, cond_false]; exact ⟨v, H', hc, h⟩
theorem wD_callf {c : Call} {t : Target} {vs : List Value} {v : Value} {H' : Hp} (ht : targetS S c = some (t, vs)) (hc : CallsX P kn lo t vs H v H') (h : wDraw P kn lo n masks r (.full :: ks) (putS S d v) H' K) : wDraw P kn lo n masks (⟨d, none, .call c true⟩ :: r) ks S H K := by
 simp only [wDraw, wRO, wRI, ht, Bool.not_true, Bool.false_and, cond_false, cond_true]; exact ⟨v, H', hc, h⟩
theorem wD_mul {a b : Int} (hx : evS S x = some (.int .i64 a)) (hy : evS S y = some (.int .i64 b)) (h2 : InR (a * b)) (h : wDraw P kn lo n masks r (.pure :: ks) (putS S d (.int .i64 (a * b))) H K) : wDraw P kn lo n masks (⟨d, none, .ari .mul x y⟩ :: r) ks S H K := by
 simp only [wDraw, wRO, wRI, hx, hy]; exact ⟨h2, h⟩
theorem wD_sub {a b : Int} (hx : evS S x = some (.int .i64 a)) (hy : evS S y = some (.int .i64 b)) (h2 : InR (a - b)) (h : wDraw P kn lo n masks r (.pure :: ks) (putS S d (.int .i64 (a - b))) H K) : wDraw P kn lo n masks (⟨d, none, .ari .sub x y⟩ :: r) ks S H K := by
 simp only [wDraw, wRO, wRI, hx, hy]; exact ⟨h2, h⟩
theorem tri_piece {c : Code} {R : RC} {S S0 : Rg} {H : Hp} {K : Exit → Rg → Hp → Prop} (hL : low P n c = some R) (hS : Subs S0 S) (h : wC P kn lo n rd R S0 H K) : Tri P kn lo n rd c S H K := Tri.forget (wC_sound rd _ hL h) hS.get
theorem wD_g {g : Nat} {t : Bool} {ri : RI} (hg : lk S g = some (.bool t)) (h : wDraw P kn lo n masks (⟨d, none, ri⟩ :: r) ks S H K) : wDraw P kn lo n masks (⟨d, some (g, t), ri⟩ :: r) ks S H K := by
 cases t <;> (simp only [wDraw, wRO, hg] at h ⊢; exact h)
theorem wD_mm {small : Bool} {a b : Int} (hx : evS S x = some (.int .i64 a)) (hy : evS S y = some (.int .i64 b)) (h : wDraw P kn lo n masks r (.pure :: ks) (putS S d (.int .i64 (bif small then min a b else max a b))) H K) : wDraw P kn lo n masks (⟨d, none, .mm small x y⟩ :: r) ks S H K := by
 simp only [wDraw, wRO, wRI, hx, hy]; exact h
theorem wD_st {b o : Nat} {cs : List Value} {v : Value} (hx : evS S x = some (.pointer (some ⟨b, o, none⟩))) (hy : evS S y = some v) (hc : Cl H b cs) (hl : lo ≤ b) (hv : v.cells.toList = [v]) (h1 : one v = true) (ho : o < cs.length)
  (h : ∀ H1, Keep H H1 [b] → H1.next = H.next → Cl H1 b (cs.set o v) → wDraw P kn lo n masks r (.store b :: ks) (putS S d undef) H1 K) : wDraw P kn lo n masks (⟨d, none, .st x y⟩ :: r) ks S H K := by
 simp only [wDraw, wRO, wRI, hx, hy]
 obtain ⟨_, e, l, g⟩ := id hc
 exact ⟨cs, e, l, g, hl, hv, h1, ho, fun H1 hH1 => by obtain ⟨a, b, c⟩ := up_facts hc hH1; exact h H1 a b c⟩
theorem wD_dreg {ops : List RO} {K : Exit → Rg → Hp → Prop} (h : wDraw P kn lo n masks ops [] S H fun S' H' => K .normal S' H') : wC P kn lo n rd (.dreg ops masks) S H K := .inl h
theorem wD_gs {g : Nat} {t : Bool} {ri : RI} (hg : lk S g = some (.bool (!t))) (h : wDraw P kn lo n masks r (.pure :: ks) (putS S d undef) H K) : wDraw P kn lo n masks (⟨d, some (g, t), ri⟩ :: r) ks S H K := by
 cases t <;> (simp only [wDraw, wRO, hg, Bool.not_true, Bool.not_false, cond_true, cond_false] at h ⊢; exact h)
theorem fnX_lv {f : FuncId} {fn : Func} {R : RC} {n : Nat} {rs : List ResultVar} {args : List Value} {H : Hp} {Q : Value → Hp → Prop} (hf : P.funcs[f]? = some fn) (hb : fn.body = some (at_ fn [])) (hn : fn.ntmps = n) (hz : fn.results.toList = rs) (hL : LV P n (at_ fn []) R) (hl : args.length ≤ n)
  (h : wC P kn lo n false R (argS args 0) H fun e S' H' => (match e with | .normal => True | .ret => True | _ => False) ∧ ∃ vs, resS P S' H' rs = some vs ∧ Q (retV vs) H') :
  ∃ v H', FnX P kn lo f args H v H' ∧ Q v H' := by
 subst hn hz
 exact fnX_of_tri hf hb hl (wC_lv hL h)
theorem wD_memh {o : Oper} {v : Value} {H' : Hp} {k : Kd} (hd : defd S o.op.operands.toList = true) (hp : pureOp P (frS n S) o = none) (hh : heapOp P lo (frS n S) H o = some (.val v H', k)) (hb : ∀ b, k = .read b → b < H.next)
  (h : wDraw P kn lo n masks r (k :: ks) (putS S d v) H' K) : wDraw P kn lo n masks (⟨d, none, .mem o⟩ :: r) ks S H K := ⟨hd, .inr ⟨hp, v, H', k, hh, hb, by cases k with | read b => exact ⟨hb b rfl, h⟩ | _ => exact h⟩⟩
theorem tri_lv {c : Code} {R : RC} {S S0 : Rg} {H : Hp} {K : Exit → Rg → Hp → Prop} (hL : LV P n c R) (hS : Subs S0 S) (h : wC P kn lo n rd R S0 H K) : Tri P kn lo n rd c S H K := Tri.forget (wC_lv hL h) hS.get
end
end Go.Ax

namespace Go.Ax
open Go Go.RowKit

section
variable {P : Program} {kn : Kn} {lo n : Nat}
theorem low_seq {c : Code} {a b : RC} (h : low P n c = some (.seq a b)) : ∃ x y, c = .seq x y ∧ low P n x = some a ∧ low P n y = some b := by
 cases c <;> simp only [low] at h <;> try (cases h; done)
 ·rename_i id ops draw
  cases draw <;> simp only [cond_true, cond_false] at h
  ·split at h <;> cases h
  ·obtain ⟨_, h⟩ := bif_some h
   split at h <;> cases h
 ·rename_i x y
  split at h <;> first | (cases h; done) | skip
  rename_i a' ha
  split at h <;> first | (cases h; done) | skip
  rename_i b' hb
  cases h
  exact ⟨x, y, rfl, ha, hb⟩
 ·split at h <;> first | (cases h; done) | skip
  split at h <;> cases h
 ·split at h <;> cases h
 ·split at h <;> cases h
theorem low_block {c : Code} {id : Nat} {a : RC} (h : low P n c = some (.block id a)) : ∃ x, c = .block id x ∧ low P n x = some a := by
 cases c <;> simp only [low] at h <;> try (cases h; done)
 ·rename_i id ops draw
  cases draw <;> simp only [cond_true, cond_false] at h
  ·split at h <;> cases h
  ·obtain ⟨_, h⟩ := bif_some h
   split at h <;> cases h
 ·split at h <;> first | (cases h; done) | skip
  split at h <;> cases h
 ·split at h <;> first | (cases h; done) | skip
  split at h <;> cases h
 ·rename_i id' x
  split at h <;> first | (cases h; done) | skip
  rename_i a' ha
  cases h
  exact ⟨x, rfl, ha⟩
 ·split at h <;> cases h
theorem low_other {c d : Code} (h : low P n c = some (.other d)) : c = d := by
 cases c <;> simp only [low] at h <;> try (cases h; done)
 ·rename_i id ops draw
  cases draw <;> simp only [cond_true, cond_false] at h
  ·split at h <;> cases h
  ·obtain ⟨_, h⟩ := bif_some h
   split at h <;> cases h
 ·split at h <;> first | (cases h; done) | skip
  split at h <;> cases h
 ·split at h <;> first | (cases h; done) | skip
  split at h <;> cases h
 ·split at h <;> cases h
 ·cases h; rfl
 ·cases h; rfl
 ·split at h <;> cases h
theorem TriR.lowR {c : Code} {a b : RC} {S : Rg} {H : Hp} {K : Exit → Rg → Hp → List Deferred → Prop} (hL : low P n c = some (.seq a b)) (h : wC P kn lo n false a S H fun e S' H' => match e with | .normal => ∀ y, low P n y = some b → TriR P kn lo n y S' H' K | e => K e S' H' []) : TriR P kn lo n c S H K := by
 obtain ⟨x, y, rfl, hx, hy⟩ := low_seq hL
 refine TriR.seqR ((wC_sound false x hx h).mono fun e S' H' q => ?_)
 cases e with
 | normal => exact q y hy
 | _ => exact q
theorem TriR.lowL {c : Code} {a b : RC} {S : Rg} {H : Hp} {K : Exit → Rg → Hp → List Deferred → Prop} (hL : low P n c = some (.seq a b)) (h : ∀ x, low P n x = some a → TriR P kn lo n x S H fun e S' H' D => match e with | .normal => wC P kn lo n false b S' H' (fun e S2 H2 => K e S2 H2 D) | e => K e S' H' D) : TriR P kn lo n c S H K := by
 obtain ⟨x, y, rfl, hx, hy⟩ := low_seq hL
 refine TriR.seqL fun A h1 h2 h3 h4 => ?_
 obtain ⟨e, S', H', T', D, q, r⟩ := h x hx A h1 h2 h3 h4
 refine ⟨e, S', H', T', D, ?_, r⟩
 cases e with
 | normal => exact wC_sound false y hy q
 | _ => exact q
theorem TriR.lowB {c : Code} {id : Nat} {d : Code} {S : Rg} {H : Hp} {K : Exit → Rg → Hp → List Deferred → Prop} (hL : low P n c = some (.block id (.other d))) (h : TriR P kn lo n d S H fun e S' H' D => match e with | .exit j => (bif Nat.beq j id then K .normal S' H' D else K (.exit j) S' H' D) | e => K e S' H' D) : TriR P kn lo n c S H K := by
 obtain ⟨x, rfl, hx⟩ := low_block hL
 have := low_other hx
 subst this
 exact TriR.block h
theorem fnX_lowR {f : FuncId} {fn : Func} {R : RC} {n : Nat} {rs : List ResultVar} {args : List Value} {H : Hp} {Q : Value → Hp → Prop} (hf : P.funcs[f]? = some fn) (hb : fn.body = some (at_ fn [])) (hn : fn.ntmps = n) (hz : fn.results.toList = rs) (hL : low P fn.ntmps (at_ fn []) = some R) (hl : args.length ≤ n)
  (h : ∀ y, low P n y = some R → TriR P kn lo n y (argS args 0) H fun e S' H' D => (match e with | .normal => True | .ret => True | _ => False) ∧
   ((D = [] ∧ ∃ vs, resS P S' H' rs = some vs ∧ Q (retV vs) H') ∨
    ∃ r, D = [{ target := .collected r, args := #[] }] ∧ lo ≤ r ∧ H'.t.get r = some (.dfr (some [])) ∧ ∀ H2, H2.next = H'.next → Keep H' H2 [r] → ∃ vs, resS P S' H2 rs = some vs ∧ Q (retV vs) H2)) :
  ∃ v H', FnX P kn lo f args H v H' ∧ Q v H' := by
 subst hn hz
 exact fnX_of_triR hf hb hl (h _ hL)
end
end Go.Ax

/-! Lemmas of no seat (gathered by program). -/
namespace Go.Ax
open Go Go.RowKit

abbrev pt (b : Nat) : Value := .pointer (some ⟨b, 0, none⟩)
abbrev iv (x : Int) : Value := .int .i64 x
abbrev unit : Value := .tuple #[]
theorem condT {A B : Prop} (h : A) : (true = true → A) ∧ (true = false → B) := ⟨fun _ => h, fun q => Bool.noConfusion q⟩
theorem condF {A B : Prop} (h : B) : (false = true → A) ∧ (false = false → B) := ⟨fun q => Bool.noConfusion q, fun _ => h⟩
theorem get_lt {α : Type} {l : List α} {i : Nat} {x : α} (h : l[i]? = some x) : i < l.length := by
 rcases Nat.lt_or_ge i l.length with q | q
 ·exact q
 ·rw [List.getElem?_eq_none q] at h; cases h
theorem putRow_mid : ∀ (z vs pre post : List Value), z.length = vs.length → putRow (pre ++ (z ++ post)) pre.length vs = pre ++ (vs ++ post)
 | [], [], pre, post, _ => by simp [putRow]
 | [], _ :: _, _, _, h => by simp at h
 | _ :: _, [], _, _, h => by simp at h
 | a :: z, v :: vs, pre, post, h => by
  have ih := putRow_mid z vs (pre ++ [v]) post (by simpa using h)
  simp only [List.length_append, List.length_cons, List.length_nil, List.append_assoc, List.cons_append, List.nil_append] at ih
  rw [putRow]
  simp only [List.cons_append, List.set_append_right _ _ (Nat.le_refl _), Nat.sub_self, List.set_cons_zero]
  exact ih
theorem flat_put {α : Type} {f : α → List Value} {size : Nat} {l : List α} (hf : ∀ x, (f x).length = size) {i : Nat} (h : i < l.length) (y : α) : putRow (l.flatMap f) (0 + i * size) (f y) = (l.set i y).flatMap f := by
 have e : l = l.take i ++ l[i] :: l.drop (i + 1) := by
  rw [← List.drop_eq_getElem_cons h]; exact (List.take_append_drop i l).symm
 have e2 : l.set i y = l.take i ++ y :: l.drop (i + 1) := by
  rw [List.set_eq_take_append_cons_drop, if_pos h]
 have hl : ((l.take i).flatMap f).length = 0 + i * size := by
  rw [flat_len (fun x _ => hf x), List.length_take]
  rw [Nat.min_eq_left (by omega)]; omega
 rw [e2]
 conv => lhs; rw [e]
 rw [List.flatMap_append, List.flatMap_append, List.flatMap_cons, List.flatMap_cons, ← hl]
 exact putRow_mid _ _ _ _ (by rw [hf, hf])
section
variable {P : Program} {kn : Kn} {lo : Nat} {H : Hp}
theorem putRow_all : ∀ (z vs pre : List Value), z.length = vs.length → putRow (pre ++ z) pre.length vs = pre ++ vs
 | [], [], pre, _ => by simp [putRow]
 | [], _ :: _, _, h => by simp at h
 | _ :: _, [], _, h => by simp at h
 | y :: z, v :: vs, pre, h => by
  rw [putRow, List.set_append_right _ _ (Nat.le_refl _), Nat.sub_self, List.set_cons_zero]
  have := putRow_all z vs (pre ++ [v]) (by simpa using h)
  simp only [List.append_assoc, List.singleton_append, List.length_append, List.length_singleton] at this
  exact this
theorem heap_build1 {n : Nat} {S : Rg} {H : Hp} {d : Option Tmp} {t e ty : TypeId} {p : String} {size : Nat} {z v : Value} {x : Operand} (he : sliceElem P t = some (e, size)) (hz : zeroOf P e = some z) (hzs : z.cells.toList.length = size) (hx : evS S x = some v) (hv : v.cells.toList.length = size) (hs : size ≤ 16777216) :
  heapOp P lo (frS n S) H ⟨d, .buildSlice t 1 #[(0, x)], ty, p, #[], none⟩ = some (.val (.slice (some ⟨H.next, 0, none⟩) 1 1) (H.new (.cells v.cells.toList e false)), .heavy) := by
 have hp := putRow_all z.cells.toList v.cells.toList [] (by rw [hzs, hv])
 simp only [List.nil_append, List.length_nil] at hp
 have h2 : Nat.ble (0 + size) z.cells.toList.length = true := Nat.ble_eq_true_of_le (by rw [hzs]; omega)
 unfold heapOp
 simp only [partsOf, ev_frS, hx, he, hz, Nat.one_mul, Nat.ble_eq_true_of_le hs, cond_true, zeros, List.append_nil, fillL, Nat.zero_mul, hv, Nat.beq_refl, h2, Bool.and_self, hp]
end
theorem Cl.sl {H : Hp} {b n cap : Nat} {cs : List Value} (h : Cl H b cs) (hn : n ≤ cap) : Sl H (some ⟨b, 0, none⟩) n cap cs := .inr ⟨b, rfl, h.rd, hn⟩
theorem row_get {n : Nat} {cs l : List Value} {i j : Nat} {v : Value} (h : row n cs i = some l) (hj : l[j]? = some v) : cs[i + j]? = some v := by
 obtain ⟨e, hl⟩ := row_some h
 have hjl := get_lt hj
 rw [e, List.getElem?_take, if_pos (by omega), List.getElem?_drop] at hj
 exact hj
def Acc (lo f : Nat) (e : TypeId) (H : Hp) (v : Value) (n : Nat) (cs : List Value) : Prop :=
 (n = 0 ∧ cs = [] ∧ v = .slice none 0 0) ∨ ∃ b, v = .slice (some ⟨b, 0, none⟩) n n ∧ 0 < n ∧ f ≤ b ∧ lo ≤ b ∧ b < H.next ∧ H.t.get b = some (.cells cs e true)
theorem Acc.sl {lo f : Nat} {e : TypeId} {H : Hp} {v : Value} {n : Nat} {cs : List Value} (h : Acc lo f e H v n cs) : ∃ a cap, v = .slice a n cap ∧ Sl H a n cap cs ∧ ∀ b, a = some ⟨b, 0, none⟩ → f ≤ b := by
 rcases h with ⟨rfl, rfl, rfl⟩ | ⟨b, rfl, h0, hf, hl, hn, hg⟩
 ·exact ⟨none, 0, rfl, .inl ⟨.inl rfl, rfl, rfl, rfl⟩, fun b e => by cases e⟩
 ·refine ⟨_, _, rfl, .inr ⟨b, rfl, ⟨hn, ?_⟩, Nat.le_refl _⟩, fun b e => by cases e; exact hf⟩
  unfold cellsOf; rw [hg]
theorem Acc.keep {lo f : Nat} {e : TypeId} {H H1 : Hp} {v : Value} {n : Nat} {cs : List Value} (h : Acc lo f e H v n cs) (k : Keep H H1 []) : Acc lo f e H1 v n cs :=
 h.imp id fun ⟨b, e1, h0, hf, hl, hn, hg⟩ => ⟨b, e1, h0, hf, hl, Nat.lt_of_lt_of_le hn k.1, by rw [k.2 b hn (by simp)]; exact hg⟩
structure KeepB (f : Nat) (H H1 : Hp) : Prop where
 le : H.next ≤ H1.next
 same : ∀ b, b < f → H1.t.get b = H.t.get b
 rox : ∀ b cs, b < H1.next → H1.t.get b = some (.ro cs) → b < H.next ∧ H.t.get b = some (.ro cs)
theorem KeepB.keep {f : Nat} {F H H1 : Hp} {l : List Nat} (h : KeepB f H H1) (k : Keep F H l) (hf : F.next ≤ f) : Keep F H1 l :=
 ⟨Nat.le_trans k.1 h.1, fun b hb hl => (h.2 b (Nat.lt_of_lt_of_le hb hf)).trans (k.2 b hb hl), fun b cs hb hg => (h.3 b cs hb hg).elim fun x y => k.3 b cs x y⟩
theorem KeepB.of {f : Nat} {H H1 : Hp} (k : Keep H H1 []) (hf : f ≤ H.next) : KeepB f H H1 := ⟨k.1, fun b hb => k.2 b (Nat.lt_of_lt_of_le hb hf) (by simp), k.3⟩
section
variable {P : Program} {lo : Nat}
theorem heap_append_one {H : Hp} {t0 t1 e ep : TypeId} {size k cap2 f : Nat} {a : Option Addr} {v : Value} {cs news : List Value} (he : sliceElem P t0 = some (e, size)) (ht : P.underlying t1 = some (.slice ep))
  (hs : Sl H a 1 cap2 news) (hl : news.length = 1 * size) (hz : 0 < size) (hone : news.all one = true) (hcl : cs.length = k * size) (hk : k < 1000) (ha : Acc lo f e H v k cs) (hlo : lo ≤ H.next) (hf : f ≤ H.next) :
  ∃ H1 kd, (∀ (n : Nat) (S : Rg) (d : Option Tmp) (x y : Operand) (ty : TypeId) (p : String), evS S x = some v → evS S y = some (.slice a 1 cap2) → heapOp P lo (frS n S) H ⟨d, .call ⟨.builtin .append, #[x, y], #[t0, t1]⟩, ty, p, #[], none⟩ = some (.val (.slice (some ⟨H.next, 0, none⟩) (k + 1) (k + 1)) H1, kd)) ∧ (kd = .heavy ∨ ∃ b, kd = .store b ∧ f ≤ b) ∧
   Acc lo f e H1 (.slice (some ⟨H.next, 0, none⟩) (k + 1) (k + 1)) (k + 1) (cs ++ news) ∧ KeepB f H H1 := by
 rcases ha with ⟨rfl, rfl, rfl⟩ | ⟨b, rfl, h0, hb, hlb, hn, hg⟩
 ·refine ⟨H.new (.cells news e true), .heavy, ?_, .inl rfl, ?_, ?_⟩
  ·intro n S d x y ty p hx hy
   unfold heapOp
   simp only [evs, ev_frS, hx, hy, builtinV, List.getElem?_toArray, List.getElem?_cons_zero, List.getElem?_cons_succ, he, ht, src_of hs hl, appendV]
   rfl
  ·refine .inr ⟨H.next, rfl, by omega, hf, hlo, Nat.lt_succ_self _, ?_⟩
   show (H.t.set H.next _).get H.next = _
   rw [Tr.get_set, if_pos rfl]; rfl
  ·exact KeepB.of (new_facts rfl).1 hf
 ·have h1 : Nat.ble (0 + (k + 1) * size) cs.length = false := by
   cases h : Nat.ble (0 + (k + 1) * size) cs.length with
   | false => rfl
   | true => have := Nat.le_of_ble_eq_true h; rw [hcl, Nat.succ_mul] at this; omega
  have h2 : Nat.beq (0 + k * size) cs.length = true := by rw [hcl, Nat.zero_add]; exact Nat.beq_refl _
  have h3 : Nat.ble (k + 1) 1048576 = true := Nat.ble_eq_true_of_le (by omega)
  have h4 : Nat.beq e e = true := Nat.beq_refl e
  refine ⟨({ H with t := H.t.set b .dead } : Hp).new (.cells (cs ++ news) e true), .store b, ?_, .inr ⟨b, rfl, hb⟩, ?_, ?_⟩
  ·intro n S d x y ty p hx hy
   unfold heapOp
   simp only [evs, ev_frS, hx, hy, builtinV, List.getElem?_toArray, List.getElem?_cons_zero, List.getElem?_cons_succ, he, ht, src_of hs hl, appendV, hg, h1, h2, h3, h4, hone, Nat.ble_eq_true_of_le hlb, Bool.and_self, cond_true, cond_false, List.drop_zero, show Nat.beq 1 0 = false from rfl]
  ·refine .inr ⟨H.next, rfl, by omega, hf, hlo, Nat.lt_succ_self _, ?_⟩
   show ((H.t.set b .dead).set H.next _).get H.next = _
   rw [Tr.get_set, if_pos rfl]
  ·refine ⟨Nat.le_succ _, fun c hc => ?_, fun c xs hc hx => ?_⟩
   ·show ((H.t.set b .dead).set H.next _).get c = _
    rw [Tr.get_set, if_neg (by omega), Tr.get_set, if_neg (by omega)]
   ·have hx : ((H.t.set b .dead).set H.next (.cells (cs ++ news) e true)).get c = some (.ro xs) := hx
    have hc : c < H.next + 1 := hc
    rw [Tr.get_set] at hx
    split at hx
    ·cases hx
    ·rw [Tr.get_set] at hx
     split at hx
     ·cases hx
     ·exact ⟨by omega, hx⟩
end
theorem reg_ok {kd : Kd} {f : Nat} (h : kd = .heavy ∨ ∃ b, kd = .store b ∧ f ≤ b) (n : Nat) : ∀ b, kd = .read b → b < n := by
 rcases h with rfl | ⟨b, rfl, _⟩ <;> intro c e <;> cases e
theorem Acc.keepW {lo f : Nat} {e : TypeId} {H H1 : Hp} {v : Value} {n x : Nat} {cs : List Value} (h : Acc lo f e H v n cs) (k : Keep H H1 [x]) (hx : x < f) : Acc lo f e H1 v n cs :=
 h.imp id fun ⟨b, e1, h0, hf, hl, hn, hg⟩ => ⟨b, e1, h0, hf, hl, Nat.lt_of_lt_of_le hn k.1, by rw [k.2 b hn (by simp; omega)]; exact hg⟩
theorem load_agg {P : Program} {t : TypeId} {n : Nat} (ht : isAggB P t = some true) (hi : ∃ i, P.info? t = some i ∧ i.size = n) {H : Hp} {b : Nat} {cs : List Value} (h : Rd H b cs) (hl : cs.length = n) : loadV P H t ⟨b, 0, none⟩ = some (.agg cs.toArray) := by
 obtain ⟨i, h1, h2⟩ := hi
 have hr : row i.size cs 0 = some cs := by
  unfold row
  rw [h2, ← hl]
  simp [beq_eq]
 unfold loadV
 simp only [h.of, ht, h1, hr]
theorem Sl.old {H : Hp} {a : Option Addr} {n c : Nat} {cs : List Value} (h : Sl H a n c cs) (b : Nat) (e : a = some ⟨b, 0, none⟩) : b < H.next := by
 rcases h with ⟨h | h, _⟩ | ⟨b', e', h, _⟩
 ·rw [h] at e; cases e
 ·rw [h] at e; cases e
 ·rw [e'] at e; cases e; exact h.lt
theorem KeepB.cl {f : Nat} {H H1 : Hp} {b : Nat} {cs : List Value} (h : KeepB f H H1) (hc : Cl H b cs) (hb : b < f) : Cl H1 b cs := by
 obtain ⟨h1, e, lz, h2⟩ := hc
 exact ⟨Nat.lt_of_lt_of_le h1 h.1, e, lz, by rw [h.2 b hb]; exact h2⟩
theorem KeepB.rd {f : Nat} {H H1 : Hp} {b : Nat} {cs : List Value} (h : KeepB f H H1) (hc : Rd H b cs) (hb : b < f) : Rd H1 b cs := by
 obtain ⟨h1, h2⟩ := hc
 exact ⟨Nat.lt_of_lt_of_le h1 h.1, by unfold cellsOf at h2 ⊢; rw [h.2 b hb]; exact h2⟩
theorem heap_append_below {P : Program} {lo : Nat} {H : Hp} {t0 t1 e ep : TypeId} {size k cap2 f : Nat} {a : Option Addr} {v : Value} {cs news : List Value} (he : sliceElem P t0 = some (e, size)) (ht : P.underlying t1 = some (.slice ep))
  (hs : Sl H a 1 cap2 news) (hl : news.length = 1 * size) (hz : 0 < size) (hone : news.all one = true) (hcl : cs.length = k * size) (hk : k < 1000) (ha : Acc lo f e H v k cs) (hlo : lo ≤ H.next) (hf : f ≤ H.next) :
  ∃ H1 kd, (∀ (n : Nat) (S : Rg) (d : Option Tmp) (x y : Operand) (ty : TypeId) (p : String), evS S x = some v → evS S y = some (.slice a 1 cap2) → heapOp P lo (frS n S) H ⟨d, .call ⟨.builtin .append, #[x, y], #[t0, t1]⟩, ty, p, #[], none⟩ = some (.val (.slice (some ⟨H.next, 0, none⟩) (k + 1) (k + 1)) H1, kd)) ∧ (kd = .heavy ∨ ∃ b, kd = .store b ∧ f ≤ b) ∧
   Acc lo f e H1 (.slice (some ⟨H.next, 0, none⟩) (k + 1) (k + 1)) (k + 1) (cs ++ news) ∧ KeepB f H H1 := by
 exact heap_append_one he ht hs hl hz hone hcl hk ha hlo hf
theorem new_get {H H1 : Hp} {o : Ob} (h : H.new o = H1) : H1.t.get H.next = some o := by
 subst h
 show (H.t.set H.next _).get H.next = _
 rw [Tr.get_set, if_pos rfl]
theorem KeepB.sl {f : Nat} {H H1 : Hp} {a : Option Addr} {n c : Nat} {cs : List Value} (h : KeepB f H H1) (hc : Sl H a n c cs) (hb : ∀ b, a = some ⟨b, 0, none⟩ → b < f) : Sl H1 a n c cs :=
 hc.imp id fun ⟨b, e, r, q⟩ => ⟨b, e, h.rd r (hb b e), q⟩
def AccB (b0 lo f : Nat) (e : TypeId) (H : Hp) (v : Value) (n : Nat) (cs : List Value) : Prop :=
 (n = 0 ∧ cs = [] ∧ v = .slice (some ⟨b0, 0, none⟩) 0 0 ∧ b0 < H.next ∧ ∃ e0, H.t.get b0 = some (.cells [] e0 false)) ∨ ∃ b, v = .slice (some ⟨b, 0, none⟩) n n ∧ 0 < n ∧ f ≤ b ∧ lo ≤ b ∧ b < H.next ∧ H.t.get b = some (.cells cs e true)
theorem AccB.keep {b0 lo f : Nat} {e : TypeId} {H H1 : Hp} {v : Value} {n : Nat} {cs : List Value} (h : AccB b0 lo f e H v n cs) (k : Keep H H1 []) : AccB b0 lo f e H1 v n cs :=
 h.imp (fun ⟨h1, h2, h3, h4, e0, h5⟩ => ⟨h1, h2, h3, Nat.lt_of_lt_of_le h4 k.1, e0, by rw [k.2 b0 h4 (by simp)]; exact h5⟩) fun ⟨b, e1, h0, hf, hl, hn, hg⟩ => ⟨b, e1, h0, hf, hl, Nat.lt_of_lt_of_le hn k.1, by rw [k.2 b hn (by simp)]; exact hg⟩
section
variable {P : Program} {lo : Nat}
theorem heap_append_first {H : Hp} {t0 t1 e ep e0 : TypeId} {size m cap b0 f : Nat} {a : Option Addr} {cs : List Value} (he : sliceElem P t0 = some (e, size)) (ht : P.underlying t1 = some (.slice ep)) (hs : Sl H a m cap cs) (hl : cs.length = m * size) (hm : m ≤ 1000) (hz : 0 < size)
  (h0 : H.t.get b0 = some (.cells [] e0 false)) (hb : b0 < H.next) (hlo : lo ≤ H.next) (hf : f ≤ H.next) (hfb : f ≤ b0) :
  ∃ v H1 kd, (∀ (n : Nat) (S : Rg) (d : Option Tmp) (x y : Operand) (ty : TypeId) (p : String), evS S x = some (.slice (some ⟨b0, 0, none⟩) 0 0) → evS S y = some (.slice a m cap) → heapOp P lo (frS n S) H ⟨d, .call ⟨.builtin .append, #[x, y], #[t0, t1]⟩, ty, p, #[], none⟩ = some (.val v H1, kd)) ∧ (kd = .pure ∨ kd = .heavy) ∧
   AccB b0 lo f e H1 v m cs ∧ Keep H H1 [] := by
 rcases Nat.eq_zero_or_pos m with rfl | hp
 ·have hc : cs = [] := by cases cs with | nil => rfl | cons _ _ => simp at hl
  exact ⟨_, H, .pure, fun n S d x y ty p hx hy => heap_append_none he ht hx hy hs (by rw [hl]; simp), .inl rfl, .inl ⟨rfl, hc, rfl, hb, e0, h0⟩, Keep.refl _ _⟩
 ·exact ⟨_, _, .heavy, fun n S d x y ty p hx hy => heap_append_empty he ht h0 hx hy hs hl (by omega) hp, .inr rfl, .inr ⟨H.next, rfl, hp, hf, hlo, (new_facts rfl).2.2.1, new_get rfl⟩, (new_facts rfl).1⟩
end
end Go.Ax

/-! Steps of drawn regions: comparisons. -/
namespace Go.Ax
open Go Go.RowKit
section
variable {P : Program} {kn : Kn} {lo n : Nat} {masks : List Nat} {r : List RO} {ks : List Kd} {S : Rg} {H : Hp} {K : Rg → Hp → Prop} {d : Option Nat} {x y : Operand} {a b : Int}
theorem wD_b_lss (hx : evS S x = some (.int .i64 a)) (hy : evS S y = some (.int .i64 b)) (h : ∀ t, (decide (a < b)) = t → wDraw P kn lo n masks r (.pure :: ks) (putS S d (.bool t)) H K) : wDraw P kn lo n masks (⟨d, none, .cmpb .lss x y⟩ :: r) ks S H K := by
 simp only [wDraw, wRO, wRI, hx, hy]; exact h
theorem wD_b_leq (hx : evS S x = some (.int .i64 a)) (hy : evS S y = some (.int .i64 b)) (h : ∀ t, (decide (a ≤ b)) = t → wDraw P kn lo n masks r (.pure :: ks) (putS S d (.bool t)) H K) : wDraw P kn lo n masks (⟨d, none, .cmpb .leq x y⟩ :: r) ks S H K := by
 simp only [wDraw, wRO, wRI, hx, hy]; exact h
theorem wD_b_gtr (hx : evS S x = some (.int .i64 a)) (hy : evS S y = some (.int .i64 b)) (h : ∀ t, (decide (a > b)) = t → wDraw P kn lo n masks r (.pure :: ks) (putS S d (.bool t)) H K) : wDraw P kn lo n masks (⟨d, none, .cmpb .gtr x y⟩ :: r) ks S H K := by
 simp only [wDraw, wRO, wRI, hx, hy]; exact h
theorem wD_c_geq (hx : evS S x = some (.int .i64 a)) (hy : evS S y = some (.int .i64 b)) (h : wDraw P kn lo n masks r (.pure :: ks) (putS S d (.bool (decide (a ≥ b)))) H K) : wDraw P kn lo n masks (⟨d, none, .cmp .geq x y⟩ :: r) ks S H K := by
 simp only [wDraw, wRO, wRI, hx, hy]; exact h
theorem wD_b_eql (hx : evS S x = some (.int .i64 a)) (hy : evS S y = some (.int .i64 b)) (h : ∀ t, (a == b) = t → wDraw P kn lo n masks r (.pure :: ks) (putS S d (.bool t)) H K) : wDraw P kn lo n masks (⟨d, none, .cmpb .eql x y⟩ :: r) ks S H K := by
 simp only [wDraw, wRO, wRI, hx, hy]; exact h
theorem wD_b_neq (hx : evS S x = some (.int .i64 a)) (hy : evS S y = some (.int .i64 b)) (h : ∀ t, (a != b) = t → wDraw P kn lo n masks r (.pure :: ks) (putS S d (.bool t)) H K) : wDraw P kn lo n masks (⟨d, none, .cmpb .neq x y⟩ :: r) ks S H K := by
 simp only [wDraw, wRO, wRI, hx, hy]; exact h
theorem wD_gu {g : Nat} {t : Bool} {vs : Array Value} {ri : RI} (hg : lk S g = some (.tuple vs)) (h : wDraw P kn lo n masks r (.pure :: ks) (putS S d undef) H K) : wDraw P kn lo n masks (⟨d, some (g, t), ri⟩ :: r) ks S H K := by
 simp only [wDraw, wRO, hg]; exact h
end
end Go.Ax

/-! Steps of plain regions, one theorem each (written by program, out of those of drawn regions). -/
namespace Go.Ax
open Go Go.RowKit
section
variable {P : Program} {kn : Kn} {lo n : Nat} {r : List RO} {S : Rg} {H : Hp} {K : Rg → Hp → Prop} {d : Option Nat} {x y : Operand} {rd : Bool} {a b : Int}
theorem wN_seq {ops : List RO} {c : RC} {K : Exit → Rg → Hp → Prop} (h : wOps P kn lo n ops S H fun S' H' => wC P kn lo n rd c S' H' K) : wC P kn lo n rd (.seq (.reg ops) c) S H K := h
theorem wN_reg {ops : List RO} {K : Exit → Rg → Hp → Prop} (h : wOps P kn lo n ops S H fun S' H' => K .normal S' H') : wC P kn lo n rd (.reg ops) S H K := h
theorem wN_skip {K : Exit → Rg → Hp → Prop} (h : K .normal S H) : wC P kn lo n rd .skip S H K := h
theorem wN_blk {id : Nat} {ops : List RO} {K : Exit → Rg → Hp → Prop} (h : wOps P kn lo n ops S H fun S' H' => K .normal S' H') : wC P kn lo n rd (.block id (.reg ops)) S H K := h
theorem wN_bseq {id : Nat} {ops : List RO} {c : RC} {K : Exit → Rg → Hp → Prop} (h : wOps P kn lo n ops S H fun S' H' => wC P kn lo n rd c S' H' K) : wC P kn lo n rd (.seq (.block id (.reg ops)) c) S H K := h
theorem wOps_nil (h : K S H) : wOps P kn lo n [] S H K := h
theorem wB_dreg {id : Nat} {masks : List Nat} {ops : List RO} {K : Exit → Rg → Hp → Prop} (h : wDraw P kn lo n masks ops [] S H fun S' H' => K .normal S' H') : wC P kn lo n rd (.block id (.dreg ops masks)) S H K := .inl h
theorem wB_seq {id : Nat} {masks : List Nat} {ops : List RO} {c : RC} {K : Exit → Rg → Hp → Prop} (h : wDraw P kn lo n masks ops [] S H fun S' H' => wC P kn lo n rd c S' H' K) : wC P kn lo n rd (.seq (.block id (.dreg ops masks)) c) S H K := .inl h
theorem wN_exit {id : Nat} {K : Exit → Rg → Hp → Prop} (h : K (.exit id) S H) : wC P kn lo n rd (.exit id) S H K := h
theorem wN_end (h : K S H) : wOps P kn lo n [] S H K := h
theorem wN_box {e : TypeId} {v : Value} (hx : evS S x = some v) (h : ∀ H1, Keep H H1 [] → H1.next = H.next + 1 → Cl H1 H.next v.cells.toList → wOps P kn lo n r (putS S d (.pointer (some ⟨H.next, 0, none⟩))) H1 K) : wOps P kn lo n (⟨d, none, .box e x⟩ :: r) S H K := by
 simp only [wOps, wRO, wRI, hx]
 intro H1 hH1
 obtain ⟨k1, n1, c1⟩ := new_facts hH1
 exact h H1 k1 n1 c1
theorem wN_mov {v : Value} (hx : evS S x = some v) (h : wOps P kn lo n r (putS S d v) H K) : wOps P kn lo n (⟨d, none, .mov x⟩ :: r) S H K := by
 show match evS S x with | some v => wOps P kn lo n r (putS S d v) H K | none => False
 rw [hx]; exact h
theorem wN_nilc {a : Addr} (hx : evS S x = some (.pointer (some a))) (h : wOps P kn lo n r (putS S d (.pointer (some a))) H K) : wOps P kn lo n (⟨d, none, .nilc x⟩ :: r) S H K := by
 simp only [wOps, wRO, wRI, hx]; exact h
theorem wN_addo {b o off : Nat} (hx : evS S x = some (.pointer (some ⟨b, o, none⟩))) (h : wOps P kn lo n r (putS S d (.pointer (some ⟨b, o + off, none⟩))) H K) : wOps P kn lo n (⟨d, none, .addo x off⟩ :: r) S H K := by
 simp only [wOps, wRO, wRI, hx]; exact h
theorem wN_ld {b o m : Nat} {cs : List Value} {v : Value} (hx : evS S x = some (.pointer (some ⟨b, o, none⟩))) (hc : Rd H b cs) (hv : cs[o]? = some v) (h : wOps P kn lo n r (putS S d v) H K) : wOps P kn lo n (⟨d, none, .ld x m⟩ :: r) S H K := by
 simp only [wOps, wRO, wRI, hx]; exact ⟨cs, v, hc.of, hv, h⟩
theorem wN_pur {o : Oper} {v : Value} (hd : defd S o.op.operands.toList = true) (hv : pureOp P (frS n S) o = some v) (h : wOps P kn lo n r (putS S d v) H K) : wOps P kn lo n (⟨d, none, .pur o⟩ :: r) S H K := ⟨hd, v, hv, h⟩
theorem wN_sta {b o m : Nat} {cs : List Value} {v : Value} (hx : evS S x = some (.pointer (some ⟨b, o, none⟩))) (hy : evS S y = some v) (hc : Cl H b cs) (hl : lo ≤ b) (hm : v.cells.toList.length = m) (h1 : v.cells.toList.all one = true) (ho : o + m ≤ cs.length)
  (h : ∀ H1, Keep H H1 [b] → H1.next = H.next → Cl H1 b (putRow cs o v.cells.toList) → wOps P kn lo n r (putS S d undef) H1 K) : wOps P kn lo n (⟨d, none, .sta x y m⟩ :: r) S H K := by
 simp only [wOps, wRO, wRI, hx, hy]
 obtain ⟨_, e, l, g⟩ := id hc
 exact ⟨cs, e, l, g, hl, hm, h1, ho, fun H1 hH1 => by obtain ⟨a, b, c⟩ := up_facts hc hH1; exact h H1 a b c⟩
theorem wN_lda {b o m : Nat} {cs q : List Value} (hx : evS S x = some (.pointer (some ⟨b, o, none⟩))) (hc : Rd H b cs) (hv : row m cs o = some q) (h : wOps P kn lo n r (putS S d (.agg q.toArray)) H K) : wOps P kn lo n (⟨d, none, .lda x m⟩ :: r) S H K := by
 simp only [wOps, wRO, wRI, hx]; exact ⟨cs, q, hc.of, hv, h⟩
theorem wN_len {a : Option Addr} {m c : Nat} (hx : evS S x = some (.slice a m c)) (h : wOps P kn lo n r (putS S d (.int .i64 (m : Int))) H K) : wOps P kn lo n (⟨d, none, .len x⟩ :: r) S H K := by
 simp only [wOps, wRO, wRI, hx]; exact h
theorem wN_add {a b : Int} (hx : evS S x = some (.int .i64 a)) (hy : evS S y = some (.int .i64 b)) (h2 : InR (a + b)) (h : wOps P kn lo n r (putS S d (.int .i64 (a + b))) H K) : wOps P kn lo n (⟨d, none, .ari .add x y⟩ :: r) S H K := by
 simp only [wOps, wRO, wRI, hx, hy]; exact ⟨h2, h⟩
theorem wN_idx {b o len cap size k : Nat} {kd : IntKind} {j : Int} (hx : evS S x = some (.slice (some ⟨b, o, none⟩) len cap)) (hy : evS S y = some (.int kd j)) (hj : j = (k : Int)) (hk : k < len) (h : wOps P kn lo n r (putS S d (.pointer (some ⟨b, o + k * size, none⟩))) H K) : wOps P kn lo n (⟨d, none, .idx x y size⟩ :: r) S H K := by
 simp only [wOps, wRO, wRI, hx, hy]; exact ⟨k, hj, hk, h⟩
theorem wN_callf {c : Call} {t : Target} {vs : List Value} {v : Value} {H' : Hp} (ht : targetS S c = some (t, vs)) (hc : CallsX P kn lo t vs H v H') (h : wOps P kn lo n r (putS S d v) H' K) : wOps P kn lo n (⟨d, none, .call c true⟩ :: r) S H K := by
 simp only [wOps, wRO, wRI, ht, Bool.not_true, Bool.false_and, cond_false, cond_true]; exact ⟨v, H', hc, h⟩
theorem wN_mul {a b : Int} (hx : evS S x = some (.int .i64 a)) (hy : evS S y = some (.int .i64 b)) (h2 : InR (a * b)) (h : wOps P kn lo n r (putS S d (.int .i64 (a * b))) H K) : wOps P kn lo n (⟨d, none, .ari .mul x y⟩ :: r) S H K := by
 simp only [wOps, wRO, wRI, hx, hy]; exact ⟨h2, h⟩
theorem wN_sub {a b : Int} (hx : evS S x = some (.int .i64 a)) (hy : evS S y = some (.int .i64 b)) (h2 : InR (a - b)) (h : wOps P kn lo n r (putS S d (.int .i64 (a - b))) H K) : wOps P kn lo n (⟨d, none, .ari .sub x y⟩ :: r) S H K := by
 simp only [wOps, wRO, wRI, hx, hy]; exact ⟨h2, h⟩
theorem wN_quo {a b : Int} (hx : evS S x = some (.int .i64 a)) (hy : evS S y = some (.int .i64 b)) (h0 : 0 ≤ a) (h1 : 0 < b) (h2 : InR a) (h : wOps P kn lo n r (putS S d (.int .i64 (a / b))) H K) : wOps P kn lo n (⟨d, none, .ari .quo x y⟩ :: r) S H K := by
 simp only [wOps, wRO, wRI, hx, hy]; exact ⟨h0, h1, h2, h⟩
theorem wN_g {g : Nat} {t : Bool} {ri : RI} (hg : lk S g = some (.bool t)) (h : wOps P kn lo n (⟨d, none, ri⟩ :: r) S H K) : wOps P kn lo n (⟨d, some (g, t), ri⟩ :: r) S H K := by
 cases t <;> (simp only [wOps, wRO, hg] at h ⊢; exact h)
theorem wN_lss {a b : Int} (t : Bool) (hx : evS S x = some (.int .i64 a)) (hy : evS S y = some (.int .i64 b)) (ht : decide (a < b) = t) (h : wOps P kn lo n r (putS S d (.bool t)) H K) : wOps P kn lo n (⟨d, none, .cmpb .lss x y⟩ :: r) S H K := by
 simp only [wOps, wRO, wRI, hx, hy]; intro u hu; rw [ht] at hu; subst hu; exact h
theorem wN_st {b o : Nat} {cs : List Value} {v : Value} (hx : evS S x = some (.pointer (some ⟨b, o, none⟩))) (hy : evS S y = some v) (hc : Cl H b cs) (hl : lo ≤ b) (hv : v.cells.toList = [v]) (h1 : one v = true) (ho : o < cs.length)
  (h : ∀ H1, Keep H H1 [b] → H1.next = H.next → Cl H1 b (cs.set o v) → wOps P kn lo n r (putS S d undef) H1 K) : wOps P kn lo n (⟨d, none, .st x y⟩ :: r) S H K := by
 simp only [wOps, wRO, wRI, hx, hy]
 obtain ⟨_, e, l, g⟩ := id hc
 exact ⟨cs, e, l, g, hl, hv, h1, ho, fun H1 hH1 => by obtain ⟨a, b, c⟩ := up_facts hc hH1; exact h H1 a b c⟩
theorem wN_gs {g : Nat} {t : Bool} {ri : RI} (hg : lk S g = some (.bool (!t))) (h : wOps P kn lo n r (putS S d undef) H K) : wOps P kn lo n (⟨d, some (g, t), ri⟩ :: r) S H K := by
 cases t <;> (simp only [wOps, wRO, hg, Bool.not_true, Bool.not_false, cond_true, cond_false] at h ⊢; exact h)
theorem wN_alc {e : TypeId} {z : List Value} (h : ∀ H1, Keep H H1 [] → H1.next = H.next + 1 → Cl H1 H.next z → wOps P kn lo n r (putS S d (.pointer (some ⟨H.next, 0, none⟩))) H1 K) : wOps P kn lo n (⟨d, none, .alc e z⟩ :: r) S H K := by
 simp only [wOps, wRO, wRI]
 intro H1 hH1
 obtain ⟨k1, n1, c1⟩ := new_facts hH1
 exact h H1 k1 n1 c1
theorem wN_memh {o : Oper} {v : Value} {H' : Hp} {k : Kd} (hd : defd S o.op.operands.toList = true) (hp : pureOp P (frS n S) o = none) (hh : heapOp P lo (frS n S) H o = some (.val v H', k)) (hb : ∀ b, k = .read b → b < H.next)
  (h : wOps P kn lo n r (putS S d v) H' K) : wOps P kn lo n (⟨d, none, .mem o⟩ :: r) S H K := ⟨hd, .inr ⟨hp, v, H', k, hh, hb, h⟩⟩
theorem wN_c_lss (hx : evS S x = some (.int .i64 a)) (hy : evS S y = some (.int .i64 b)) (h : wOps P kn lo n r (putS S d (.bool (decide (a < b)))) H K) : wOps P kn lo n (⟨d, none, .cmp .lss x y⟩ :: r) S H K := by
 simp only [wOps, wRO, wRI, hx, hy]; exact h
theorem wN_b_lss (hx : evS S x = some (.int .i64 a)) (hy : evS S y = some (.int .i64 b)) (h : ∀ t, (decide (a < b)) = t → wOps P kn lo n r (putS S d (.bool t)) H K) : wOps P kn lo n (⟨d, none, .cmpb .lss x y⟩ :: r) S H K := by
 simp only [wOps, wRO, wRI, hx, hy]; exact h
theorem wN_c_leq (hx : evS S x = some (.int .i64 a)) (hy : evS S y = some (.int .i64 b)) (h : wOps P kn lo n r (putS S d (.bool (decide (a ≤ b)))) H K) : wOps P kn lo n (⟨d, none, .cmp .leq x y⟩ :: r) S H K := by
 simp only [wOps, wRO, wRI, hx, hy]; exact h
theorem wN_b_leq (hx : evS S x = some (.int .i64 a)) (hy : evS S y = some (.int .i64 b)) (h : ∀ t, (decide (a ≤ b)) = t → wOps P kn lo n r (putS S d (.bool t)) H K) : wOps P kn lo n (⟨d, none, .cmpb .leq x y⟩ :: r) S H K := by
 simp only [wOps, wRO, wRI, hx, hy]; exact h
theorem wN_c_gtr (hx : evS S x = some (.int .i64 a)) (hy : evS S y = some (.int .i64 b)) (h : wOps P kn lo n r (putS S d (.bool (decide (a > b)))) H K) : wOps P kn lo n (⟨d, none, .cmp .gtr x y⟩ :: r) S H K := by
 simp only [wOps, wRO, wRI, hx, hy]; exact h
theorem wN_b_gtr (hx : evS S x = some (.int .i64 a)) (hy : evS S y = some (.int .i64 b)) (h : ∀ t, (decide (a > b)) = t → wOps P kn lo n r (putS S d (.bool t)) H K) : wOps P kn lo n (⟨d, none, .cmpb .gtr x y⟩ :: r) S H K := by
 simp only [wOps, wRO, wRI, hx, hy]; exact h
theorem wN_c_geq (hx : evS S x = some (.int .i64 a)) (hy : evS S y = some (.int .i64 b)) (h : wOps P kn lo n r (putS S d (.bool (decide (a ≥ b)))) H K) : wOps P kn lo n (⟨d, none, .cmp .geq x y⟩ :: r) S H K := by
 simp only [wOps, wRO, wRI, hx, hy]; exact h
theorem wN_b_geq (hx : evS S x = some (.int .i64 a)) (hy : evS S y = some (.int .i64 b)) (h : ∀ t, (decide (a ≥ b)) = t → wOps P kn lo n r (putS S d (.bool t)) H K) : wOps P kn lo n (⟨d, none, .cmpb .geq x y⟩ :: r) S H K := by
 simp only [wOps, wRO, wRI, hx, hy]; exact h
theorem wN_c_eql (hx : evS S x = some (.int .i64 a)) (hy : evS S y = some (.int .i64 b)) (h : wOps P kn lo n r (putS S d (.bool (a == b))) H K) : wOps P kn lo n (⟨d, none, .cmp .eql x y⟩ :: r) S H K := by
 simp only [wOps, wRO, wRI, hx, hy]; exact h
theorem wN_b_eql (hx : evS S x = some (.int .i64 a)) (hy : evS S y = some (.int .i64 b)) (h : ∀ t, (a == b) = t → wOps P kn lo n r (putS S d (.bool t)) H K) : wOps P kn lo n (⟨d, none, .cmpb .eql x y⟩ :: r) S H K := by
 simp only [wOps, wRO, wRI, hx, hy]; exact h
theorem wN_c_neq (hx : evS S x = some (.int .i64 a)) (hy : evS S y = some (.int .i64 b)) (h : wOps P kn lo n r (putS S d (.bool (a != b))) H K) : wOps P kn lo n (⟨d, none, .cmp .neq x y⟩ :: r) S H K := by
 simp only [wOps, wRO, wRI, hx, hy]; exact h
theorem wN_callB {c : Call} {f : FuncId} {v : Value} {args : List Value} {t0 : Bool} (ht : targetS S c = some (.fn (.func f) #[], v :: args)) (h : ∃ H', FnX P kn lo f (v :: args) H (.bool t0) H' ∧ Keep H H' [])
  (hk : ∀ t H', t0 = t → Keep H H' [] → wOps P kn lo n r (putS S d (.bool t)) H' K) (hs : specialF f = false := by rfl) : wOps P kn lo n (⟨d, none, .call c true⟩ :: r) S H K := by
 obtain ⟨H', hf, k⟩ := h
 exact wN_callf ht (callX_args hf hs) (hk t0 H' rfl k)

end
end Go.Ax

/-! The evaluator for all inputs, 10: operations that are left as plain ones (arithmetic that may wrap). -/
namespace Go.Ax
open Go Go.RowKit

section
variable {P : Program} {kn : Kn} {lo n : Nat} {rd : Bool}
end
end Go.Ax


/-! The evaluator for all inputs: what is given lies in blocks that are only read. -/
namespace Go.Ax
open Go Go.RowKit

structure Imp where
 blk : Nat
 off : Nat
 cs : List Value

theorem tr_of (f : Nat → Option Ob) : ∀ n, ∃ t : Tr Ob, ∀ b, t.get b = if b < n then f b else none
 | 0 => ⟨.nil, fun b => by simp [Tr.get_nil]⟩
 | n + 1 => by
  obtain ⟨t, h⟩ := tr_of f n
  cases e : f n with
  | none =>
   refine ⟨t, fun b => ?_⟩
   rw [h]
   by_cases hb : b < n
   ·rw [if_pos hb, if_pos (by omega)]
   ·rw [if_neg hb]
    by_cases hb2 : b < n + 1
    ·rw [if_pos hb2, show b = n by omega, e]
    ·rw [if_neg hb2]
  | some o =>
   refine ⟨t.set n o, fun b => ?_⟩
   rw [Tr.get_set, h]
   by_cases hb : b = n
   ·subst hb; rw [if_pos rfl, if_pos (by omega), e]
   ·rw [if_neg hb]
    by_cases hb2 : b < n
    ·rw [if_pos hb2, if_pos (by omega)]
    ·rw [if_neg hb2, if_neg (by omega)]

section
variable {P : Program}
end
end Go.Ax

/-! Code whose outcome hangs on what is drawn (ranges over maps): triples over the machine itself. -/
namespace Go.Ax
open Go Go.RowKit
section
variable {P : Program} {kn : Kn} {lo n : Nat} {rd : Bool}

structure Snd (P : Program) (kn : Kn) : Prop where
 hm : P.follows .mixedOrders = true
 hN : NoCount P
 hk : Known P kn

def TriM (P : Program) (lo n : Nat) (rd : Bool) (c : Code) (S : Rg) (H : Hp) (K : Exit → Rg → Hp → Prop) : Prop :=
 ∀ (base : Nat) (r : Ren) (w : World) (A : Fr) (tmps : Array Value) (ds : List Deferred) (rdv : Option Nat) (cs : List Frame) (k : List Item),
  lo ≤ H.next → Rel P r base H w → FrR r A tmps ds rdv → A.n = n → A.round.isSome = rd → Knows S A.T →
  ∃ e S' H' T', K e S' H' ∧ Knows S' T' ∧ Ends P lo base r H w (lone (mkF A.fn tmps (.code c :: k) ds .normal rdv) cs w) .normal rdv (fun _ => cs) k A e { A with T := T' } H' none
def OpsM (P : Program) (lo n : Nat) (rd : Bool) (ops : Array Oper) (l : List Nat) (S : Rg) (H : Hp) (K : Exit → Rg → Hp → Prop) : Prop :=
 ∀ (base : Nat) (r : Ren) (w : World) (A : Fr) (tmps : Array Value) (ds : List Deferred) (rdv : Option Nat) (cs : List Frame) (k : List Item),
  lo ≤ H.next → Rel P r base H w → FrR r A tmps ds rdv → A.n = n → A.round.isSome = rd → Knows S A.T →
  ∃ e S' H' T', K e S' H' ∧ Knows S' T' ∧ Ends P lo base r H w (lone (mkF A.fn tmps (.inRegion ops l :: k) ds .normal rdv) cs w) .normal rdv (fun _ => cs) k A e { A with T := T' } H' none

theorem TriM.of (s : Snd P kn) {c : Code} {S : Rg} {H : Hp} {K : Exit → Rg → Hp → Prop} (h : Tri P kn lo n rd c S H K) : TriM P lo n rd c S H K := by
 intro base r w A tmps ds rdv cs k hlo hrel hF hn hr hS
 obtain ⟨e, S', H', T', hK, hk, N, run⟩ := h A hn hr hS
 have q := (code_R (rd := rdv) (kind := .normal) (K := fun _ => cs) (base := base) (evCall_R s.hm s.hN s.hk N N).1 (evCall_old P kn N N).2 s.hm (.inl ⟨rfl, fun _ => rfl⟩) N).1 c k r w H A tmps ds none none e _ H' none (run N N N (Nat.le_refl _) (Nat.le_refl _) (Nat.le_refl _)) hlo hrel hF rfl (fun _ => rfl)
 exact ⟨e, S', H', T', hK, hk, q⟩
theorem TriM.mono {c : Code} {S : Rg} {H : Hp} {K K' : Exit → Rg → Hp → Prop} (h : TriM P lo n rd c S H K) (hk : ∀ e S' H', K e S' H' → K' e S' H') : TriM P lo n rd c S H K' := by
 intro base r w A tmps ds rdv cs k hlo hrel hF hn hr hS
 obtain ⟨e, S', H', T', a, b⟩ := h base r w A tmps ds rdv cs k hlo hrel hF hn hr hS
 exact ⟨e, S', H', T', hk _ _ _ a, b⟩
theorem TriM.forget {c : Code} {S S0 : Rg} {H : Hp} {K : Exit → Rg → Hp → Prop} (h : TriM P lo n rd c S0 H K) (hs : ∀ j v, lk S0 j = some v → lk S j = some v) : TriM P lo n rd c S H K :=
 fun base r w A tmps ds rdv cs k hlo hrel hF hn hr hS => h base r w A tmps ds rdv cs k hlo hrel hF hn hr fun j v e => hS j v (hs j v e)

theorem Ends.go {base : Nat} {r : Ren} {H H1 : Hp} {w : World} {M : Machine} {rdv : Option Nat} {cs : List Frame} {k k1 : List Item} {A : Fr} {T1 : Tr Value} {X : Exit → Hp → Tr Value → Prop} (hlo : lo ≤ H.next)
  (h : Ends P lo base r H w M .normal rdv (fun _ => cs) k1 A .normal { A with T := T1 } H1 none)
  (go : ∀ r1 w1 tm1 ds1, lo ≤ H1.next → Rel P r1 base H1 w1 → FrR r1 { A with T := T1 } tm1 ds1 rdv →
   ∃ e H' T', X e H' T' ∧ Ends P lo base r1 H1 w1 (lone (mkF A.fn tm1 k1 ds1 .normal rdv) cs w1) .normal rdv (fun _ => cs) k { A with T := T1 } e { A with T := T' } H' none) :
  ∃ e H' T', X e H' T' ∧ Ends P lo base r H w M .normal rdv (fun _ => cs) k A e { A with T := T' } H' none := by
 obtain ⟨r1, w1, tm1, ds1, pc1, post, hF1, hsm, hp1, harr, _⟩ := h
 have harr : Steps P M (lone (mkF A.fn tm1 k1 ds1 .normal rdv) cs w1) := harr
 obtain ⟨e, H', T', hX, q⟩ := go r1 w1 tm1 ds1 (Nat.le_trans hlo post.next) post.rel hF1
 exact ⟨e, H', T', hX, Ends.of_steps harr (Ends.after hlo post hsm q)⟩

theorem TriM.skip {S : Rg} {H : Hp} {K : Exit → Rg → Hp → Prop} (h : K .normal S H) : TriM P lo n rd .skip S H K :=
 fun base r w A tmps ds rdv cs k hlo hrel hF hn hr hS => ⟨.normal, S, H, A.T, h, hS, r, w, tmps, ds, none, Post.refl hrel, hF, .refl _, rfl, Steps.one mv_skip, fun _ => rfl⟩
theorem TriM.label {l : Nat} {S : Rg} {H : Hp} {K : Exit → Rg → Hp → Prop} (h : K .normal S H) : TriM P lo n rd (.label l) S H K :=
 fun base r w A tmps ds rdv cs k hlo hrel hF hn hr hS => ⟨.normal, S, H, A.T, h, hS, r, w, tmps, ds, none, Post.refl hrel, hF, .refl _, rfl, Steps.one mv_label, fun _ => rfl⟩
theorem TriM.exit {id : Nat} {S : Rg} {H : Hp} {K : Exit → Rg → Hp → Prop} (h : K (.exit id) S H) : TriM P lo n rd (.exit id) S H K :=
 fun base r w A tmps ds rdv cs k hlo hrel hF hn hr hS => ⟨.exit id, S, H, A.T, h, hS, r, w, tmps, ds, none, Post.refl hrel, hF, .refl _, rfl, ⟨k, rfl, .refl _ _⟩, fun _ => rfl⟩
theorem TriM.ret {S : Rg} {H : Hp} {K : Exit → Rg → Hp → Prop} (h : K .ret S H) : TriM P lo n rd .ret S H K :=
 fun base r w A tmps ds rdv cs k hlo hrel hF hn hr hS => ⟨.ret, S, H, A.T, h, hS, r, w, tmps, ds, none, Post.refl hrel, hF, .refl _, rfl, ⟨k, .refl _ _⟩, fun _ => rfl⟩
theorem TriM.seq {x y : Code} {S : Rg} {H : Hp} {K : Exit → Rg → Hp → Prop} (h : TriM P lo n rd x S H fun e S' H' => match e with | .normal => TriM P lo n rd y S' H' K | e => K e S' H') : TriM P lo n rd (.seq x y) S H K := by
 intro base r w A tmps ds rdv cs k hlo hrel hF hn hr hS
 obtain ⟨e, S1, H1, T1, a, b, q⟩ := h base r w A tmps ds rdv cs (.code y :: k) hlo hrel hF hn hr hS
 cases e with
 | normal =>
  obtain ⟨e2, H2, T2, ⟨S2, x1, x2⟩, q2⟩ := q.go (X := fun e H' T' => ∃ S', K e S' H' ∧ Knows S' T') hlo fun r1 w1 tm1 ds1 hlo1 hrel1 hF1 => by
   obtain ⟨e2, S2, H2, T2, a2, b2, q2⟩ := a base r1 w1 { A with T := T1 } tm1 ds1 rdv cs k hlo1 hrel1 hF1 hn hr b
   exact ⟨e2, H2, T2, ⟨S2, a2, b2⟩, q2⟩
  exact ⟨e2, S2, H2, T2, x1, x2, Ends.of_steps (Steps.one mv_seq) q2⟩
 | _ => exact ⟨_, S1, H1, T1, a, b, Ends.of_steps (Steps.one mv_seq) (q.left (fun id _ => by simp [exitTo]) (by simp))⟩
theorem TriM.cond {o : Operand} {x y : Code} {t : Bool} {S : Rg} {H : Hp} {K : Exit → Rg → Hp → Prop} (ho : evS S o = some (.bool t)) (h : TriM P lo n rd (if t then x else y) S H K) : TriM P lo n rd (.cond o x y) S H K := by
 intro base r w A tmps ds rdv cs k hlo hrel hF hn hr hS
 have hv := bool_same (evR hF.T (ev_of hS ho))
 obtain ⟨e, S1, H1, T1, a, b, q⟩ := h base r w A tmps ds rdv cs k hlo hrel hF hn hr hS
 exact ⟨e, S1, H1, T1, a, b, Ends.of_steps (Steps.one (mv_cond hv)) q⟩
theorem TriM.block {id : Nat} {b : Code} {S : Rg} {H : Hp} {K : Exit → Rg → Hp → Prop} (h : TriM P lo n rd b S H fun e S' H' => match e with | .exit j => (bif Nat.beq j id then K .normal S' H' else K (.exit j) S' H') | e => K e S' H') : TriM P lo n rd (.block id b) S H K := by
 intro base r w A tmps ds rdv cs k hlo hrel hF hn hr hS
 obtain ⟨e, S1, H1, T1, a, b, q⟩ := h base r w A tmps ds rdv cs (.inBlock id :: k) hlo hrel hF hn hr hS
 cases e with
 | normal =>
  refine ⟨.normal, S1, H1, T1, a, b, Ends.of_steps (Steps.one mv_block) ?_⟩
  obtain ⟨r1, w1, tm1, ds1, pc1, p1, p2, p3, p4, p5, p6⟩ := q
  exact ⟨r1, w1, tm1, ds1, pc1, p1, p2, p3, p4, Steps.trans p5 (Steps.one mv_inBlock), p6⟩
 | exit j =>
  simp only at a
  cases hj : Nat.beq j id with
  | true =>
   rw [hj] at a
   have hji : j = id := Nat.eq_of_beq_eq_true hj
   subst hji
   obtain ⟨r', w', tmps', ds', pc', h1, h2, h3, h4, ⟨kx, hk, hs⟩, h6⟩ := q
   have hk' : exitTo j kx = some k := by rw [hk]; simp [exitTo]
   exact ⟨.normal, S1, H1, T1, a, b, Ends.of_steps (Steps.one mv_block) ⟨r', w', tmps', ds', pc', h1, h2, h3, h4, hs.trans (Steps.one (mv_exit hk')), h6⟩⟩
  | false =>
   rw [hj] at a
   refine ⟨.exit j, S1, H1, T1, a, b, Ends.of_steps (Steps.one mv_block) (q.left (fun id' hid => ?_) (by simp))⟩
   cases hid
   have hne : id ≠ j := by rintro rfl; simp at hj
   simp [exitTo, hne]
 | _ => exact ⟨_, S1, H1, T1, a, b, Ends.of_steps (Steps.one mv_block) (q.left (fun id' hid => by cases hid) (by simp))⟩
theorem TriM.scope {c : Code} {S : Rg} {H : Hp} {K : Exit → Rg → Hp → Prop} (h : TriM P lo n rd c S H K) : TriM P lo n rd (.scope c) S H K := by
 intro base r w A tmps ds rdv cs k hlo hrel hF hn hr hS
 obtain ⟨e, S1, H1, T1, a, b, q⟩ := h base r w A tmps ds rdv cs (.inScope c :: k) hlo hrel hF hn hr hS
 cases e with
 | normal =>
  refine ⟨.normal, S1, H1, T1, a, b, Ends.of_steps (Steps.one mv_scope) ?_⟩
  obtain ⟨r1, w1, tm1, ds1, pc1, p1, p2, p3, p4, p5, p6⟩ := q
  exact ⟨r1, w1, tm1, ds1, pc1, p1, p2, p3, p4, Steps.trans p5 (Steps.one mv_inScope), p6⟩
 | _ => exact ⟨_, S1, H1, T1, a, b, Ends.of_steps (Steps.one mv_scope) (q.left (fun id _ => by simp [exitTo]) (by simp))⟩
theorem TriM.loop {b : Code} {K : Exit → Rg → Hp → Prop} (I : Nat → Rg → Hp → Prop)
  (hb : ∀ k S H, I k S H → TriM P lo n rd b S H fun e S' H' => match e with | .normal => ∃ k', k' < k ∧ I k' S' H' | e => K e S' H') :
  ∀ k S H, I k S H → TriM P lo n rd (.loop b) S H K := by
 have key : ∀ m S H, I m S H → ∀ (base : Nat) (r : Ren) (w : World) (A : Fr) (tmps : Array Value) (ds : List Deferred) (rdv : Option Nat) (cs : List Frame) (k : List Item),
   lo ≤ H.next → Rel P r base H w → FrR r A tmps ds rdv → A.n = n → A.round.isSome = rd → Knows S A.T →
   ∃ e H' T', (∃ S', K e S' H' ∧ Knows S' T') ∧ Ends P lo base r H w (lone (mkF A.fn tmps (.code b :: .inLoop b :: k) ds .normal rdv) cs w) .normal rdv (fun _ => cs) k A e { A with T := T' } H' none := by
  intro m
  induction m using Nat.strongRecOn with
  | ind m ih =>
   intro S H hI base r w A tmps ds rdv cs k hlo hrel hF hn hr hS
   obtain ⟨e, S1, H1, T1, a, b', q⟩ := hb m S H hI base r w A tmps ds rdv cs (.inLoop b :: k) hlo hrel hF hn hr hS
   cases e with
   | normal =>
    obtain ⟨m', hm', hI'⟩ := a
    exact q.go (X := fun e H' T' => ∃ S', K e S' H' ∧ Knows S' T') hlo fun r1 w1 tm1 ds1 hlo1 hrel1 hF1 => by
     obtain ⟨e2, H2, T2, hX, q2⟩ := ih m' hm' S1 H1 hI' base r1 w1 { A with T := T1 } tm1 ds1 rdv cs k hlo1 hrel1 hF1 hn hr b'
     exact ⟨e2, H2, T2, hX, Ends.of_steps (Steps.one mv_inLoop) q2⟩
   | _ => exact ⟨_, H1, T1, ⟨S1, a, b'⟩, q.left (fun id _ => by simp [exitTo]) (by simp)⟩
 intro m S H hI base r w A tmps ds rdv cs k hlo hrel hF hn hr hS
 obtain ⟨e, H', T', ⟨S', x1, x2⟩, q⟩ := key m S H hI base r w A tmps ds rdv cs k hlo hrel hF hn hr hS
 exact ⟨e, S', H', T', x1, x2, Ends.of_steps (Steps.one mv_loop) q⟩

def CallM (P : Program) (lo : Nat) (t : Target) (args : List Value) (H : Hp) (Q : Value → Hp → Prop) : Prop :=
 ∀ (r : Ren) (base : Nat) (w : World) (t' : Target) (args' : Array Value), lo ≤ H.next → Rel P r base H w → TgR r t t' → LR r args args'.toList →
  ∃ nx fr0, (invoke t' args').run P w = .ok nx w ∧ frameOf P .normal nx = some fr0 ∧ ∀ c rest, ∃ v H' r' w', Q v H' ∧ Post P lo base r H w r' H' w' ∧ ∃ v', VR r' v v' ∧ Steps P (lone fr0 (c :: rest) w) (lone (c.finish v') rest w')
theorem CallM.of (s : Snd P kn) {t : Target} {args : List Value} {H : Hp} {v : Value} {H' : Hp} (h : CallsX P kn lo t args H v H') : CallM P lo t args H fun u H1 => u = v ∧ H1 = H' := by
 obtain ⟨N, h⟩ := h
 intro r base w t' args' hlo hrel ht ha
 obtain ⟨nx, fr0, a, b, c⟩ := (evCall_R s.hm s.hN s.hk N N).1 lo t args H _ _ (h N N (Nat.le_refl _) (Nat.le_refl _)) hlo r base w t' args' hrel ht ha
 refine ⟨nx, fr0, a, b, fun c0 rest => ?_⟩
 obtain ⟨r', w', hp, v', hv, hs⟩ := c c0 rest
 exact ⟨v, H', r', w', ⟨rfl, rfl⟩, hp, v', hv, hs⟩
theorem CallM.mono {t : Target} {args : List Value} {H : Hp} {Q Q' : Value → Hp → Prop} (h : CallM P lo t args H Q) (hq : ∀ v H', Q v H' → Q' v H') : CallM P lo t args H Q' := by
 intro r base w t' args' hlo hrel ht ha
 obtain ⟨nx, fr0, a, b, c⟩ := h r base w t' args' hlo hrel ht ha
 refine ⟨nx, fr0, a, b, fun c0 rest => ?_⟩
 obtain ⟨v, H', r', w', q, x⟩ := c c0 rest
 exact ⟨v, H', r', w', hq _ _ q, x⟩

theorem OpsM.val {ops : Array Oper} {i : Nat} {rest : List Nat} {o : Oper} {S : Rg} {H : Hp} {K : Exit → Rg → Hp → Prop} (ho : ops[i]? = some o) (hd : ∀ c, o.op ≠ .defer c)
  (h : ∀ (base : Nat) (r : Ren) (w : World) (A : Fr) (tmps : Array Value) (ds : List Deferred) (rdv : Option Nat), lo ≤ H.next → Rel P r base H w → FrR r A tmps ds rdv → A.n = n → Knows S A.T →
   Region.wanted o (yielded ops tmps) = true ∧ ∃ v H1 r1 v' w1 A1, (execOp (evT tmps) o).run P w = .ok (.value v') w1 ∧ VR r1 v v' ∧ Post P lo base r H w r1 H1 w1 ∧ A.put o.dst v = some A1 ∧ A1 = { A with T := putTr A.T o.dst v } ∧ OpsM P lo n rd ops rest (putS S o.dst v) H1 K) :
  OpsM P lo n rd ops (i :: rest) S H K := by
 intro base r w A tmps ds rdv cs k hlo hrel hF hn hr hS
 obtain ⟨hw, v, H1, r1, v', w1, A1, hrun, hv, hpost, hput, hA1, hrest⟩ := h base r w A tmps ds rdv hlo hrel hF hn hS
 obtain ⟨hF1, hs1, _⟩ := put_R (hF.mono hpost.le) hput hv
 subst hA1
 obtain ⟨e, S', H', T', a, b, q⟩ := hrest base r1 w1 _ _ ds rdv cs k (Nat.le_trans hlo hpost.next) hpost.rel hF1 hn hr (knows_put hS o.dst v)
 exact ⟨e, S', H', T', a, b, Ends.of_steps (Steps.one (mv_value ho hw (.inr hd) hrun)) (Ends.after hlo hpost hs1 q)⟩
theorem OpsM.nil {ops : Array Oper} {S : Rg} {H : Hp} {K : Exit → Rg → Hp → Prop} (h : K .normal S H) : OpsM P lo n rd ops [] S H K :=
 fun base r w A tmps ds rdv cs k hlo hrel hF hn hr hS => ⟨.normal, S, H, A.T, h, hS, r, w, tmps, ds, none, Post.refl hrel, hF, .refl _, rfl, Steps.one mv_region_end, fun _ => rfl⟩
theorem TriM.region {id : Nat} {ops : Array Oper} {S : Rg} {H : Hp} {K : Exit → Rg → Hp → Prop} (h : OpsM P lo n rd ops (List.range ops.size) S H K) : TriM P lo n rd (.region id ops false) S H K := by
 intro base r w A tmps ds rdv cs k hlo hrel hF hn hr hS
 obtain ⟨e, S1, H1, T1, a, b, q⟩ := h base r w A tmps ds rdv cs k hlo hrel hF hn hr hS
 exact ⟨e, S1, H1, T1, a, b, Ends.of_steps (Steps.one mv_region) q⟩
end
end Go.Ax

/-! Maps whose keys and values are flat: what look-ups, entries, and updates come to. -/
namespace Go.Ax
open Go Go.RowKit
noncomputable section
section
variable {P : Program} {α : Type} [DecidableEq α]
theorem pr_bind {β γ : Type} (f : β → Sem γ) : ∀ (x : Sem β), prun P (x >>= f) = (prun P x).bind fun a => prun P (f a) := by
 intro x
 induction x with
 | pure a => rfl
 | program k ih => exact ih P
 | _ => rfl
theorem pr_pure {β : Type} (a : β) : prun P (pure a : Sem β) = some a := rfl
theorem pr_ite {β : Type} {c : Prop} [Decidable c] (a b : Sem β) : prun P (if c then a else b) = if c then prun P a else prun P b := by split <;> rfl
theorem pr_under {t : TypeId} {d : TypeDesc} (hu : P.underlying t = some d) : prun P (underlying t) = some d := by
 simp only [underlying, pr_bind, program, prun, hu, Option.bind_some]
 rfl
structure KeyOk (P : Program) (t : TypeId) (enc : α → Value) : Prop where
 fl : ∀ a, flat (enc a) = true
 chk : ∀ a e, prun P (Instr.checkKey e 10000 t (enc a)) = some ()
 now : ∃ d, P.underlying t = some d ∧ ((∀ a b, Instr.sameNow d (enc a) (enc b) = some (decide (a = b))) ∨ ((∀ a b, Instr.sameNow d (enc a) (enc b) = none) ∧ ∀ a b, prun P (Op.equal t (enc a) (enc b)) = some (decide (a = b))))
 bits : ∀ a, Instr.sameBits 10000 (enc a) (enc a) = true
abbrev ML (α : Type) := List (α × Value × Nat)
def mEnt (enc : α → Value) (x : α × Value × Nat) : MapEntry := ⟨enc x.1, x.2.1, x.2.2⟩
def mEs (enc : α → Value) (L : ML α) : Array MapEntry := (L.map (mEnt enc)).toArray
def findA (a : α) : ML α → Nat → Option (Nat × Value)
 | [], _ => none
 | x :: r, i => if a = x.1 then some (i, x.2.1) else findA a r (i + 1)
def getA (a : α) : ML α → Option Value
 | [] => none
 | x :: r => if a = x.1 then some x.2.1 else getA a r
def bornA (a : α) (c : Nat) : ML α → Nat
 | [] => c
 | x :: r => if a = x.1 then x.2.2 else bornA a c r
def entA (a : α) (z : Value) (c : Nat) : ML α → ML α
 | [] => [(a, z, c)]
 | x :: r => if a = x.1 then x :: r else x :: entA a z c r
def putA (a : α) (v : Value) (c : Nat) : ML α → ML α
 | [] => [(a, v, c)]
 | x :: r => if a = x.1 then (x.1, v, x.2.2) :: r else x :: putA a v c r
def clkA (a : α) (c : Nat) (L : ML α) : Nat := if (getA a L).isSome then c else c + 1
def stoA (b : Nat) (v : Value) : ML α → ML α
 | [] => []
 | x :: r => if b = x.2.2 then (x.1, v, x.2.2) :: r else x :: stoA b v r
structure WfA (L : ML α) (c : Nat) : Prop where
 keys : (L.map (·.1)).Nodup
 borns : (L.map (·.2.2)).Nodup
 lt : ∀ x ∈ L, x.2.2 < c
theorem find_get (a : α) : ∀ (L : ML α) (k : Nat), (findA a L k).map (·.2) = getA a L
 | [], k => rfl
 | x :: r, k => by
  simp only [findA, getA]
  split
  ·rfl
  ·exact find_get a r (k + 1)
theorem get_none {a : α} : ∀ {L : ML α}, getA a L = none ↔ ∀ x ∈ L, a ≠ x.1
 | [] => by simp [getA]
 | x :: r => by
  simp only [getA]
  split
  ·rename_i h; simp [h]
  ·rename_i h; rw [get_none]; simp [h]
theorem get_mem {a : α} {v : Value} : ∀ {L : ML α}, getA a L = some v → ∃ b, (a, v, b) ∈ L
 | [], h => by simp [getA] at h
 | x :: r, h => by
  simp only [getA] at h
  split at h
  ·rename_i e; cases h; exact ⟨x.2.2, by simp [e]⟩
  ·obtain ⟨b, q⟩ := get_mem h; exact ⟨b, by simp [q]⟩
theorem mem_get {L : ML α} {c : Nat} (hw : WfA L c) : ∀ x ∈ L, getA x.1 L = some x.2.1 := by
 have := hw.keys
 clear hw
 induction L with
 | nil => intro x h; cases h
 | cons y r ih =>
  intro x hx
  simp only [getA]
  rcases List.mem_cons.1 hx with rfl | hx
  ·rw [if_pos rfl]
  ·simp only [List.map_cons, List.nodup_cons] at this
   rw [if_neg (fun e : x.1 = y.1 => this.1 (List.mem_map.2 ⟨x, hx, e⟩))]
   exact ih this.2 x hx
theorem put_keys (a : α) (v : Value) (c : Nat) : ∀ (L : ML α) b, b ∈ (putA a v c L).map (·.1) ↔ b = a ∨ b ∈ L.map (·.1)
 | [], b => by simp [putA]
 | x :: r, b => by
  simp only [putA]
  split
  ·rename_i h; subst h; simp
  ·simp only [List.map_cons, List.mem_cons, put_keys a v c r b]
   constructor
   ·rintro (h | h | h) <;> simp [h]
   ·rintro (h | h | h) <;> simp [h]
theorem put_borns (a : α) (v : Value) (c : Nat) : ∀ (L : ML α) b, b ∈ (putA a v c L).map (·.2.2) → b = c ∨ b ∈ L.map (·.2.2)
 | [], b => by simp [putA]
 | x :: r, b => by
  simp only [putA]
  split
  ·intro h; exact .inr (by simpa using h)
  ·intro h
   simp only [List.map_cons, List.mem_cons] at h ⊢
   rcases h with h | h
   ·exact .inr (.inl h)
   ·rcases put_borns a v c r b h with h | h
    ·exact .inl h
    ·exact .inr (.inr h)
theorem WfA.nil : WfA ([] : ML α) 0 := ⟨List.nodup_nil, List.nodup_nil, fun x h => by cases h⟩
theorem WfA.put {L : ML α} {c : Nat} (h : WfA L c) (a : α) (v : Value) : WfA (putA a v c L) (clkA a c L) := by
 have key : ∀ (L : ML α), (L.map (·.1)).Nodup → (L.map (·.2.2)).Nodup → (∀ x ∈ L, x.2.2 < c) →
   ((putA a v c L).map (·.1)).Nodup ∧ ((putA a v c L).map (·.2.2)).Nodup ∧ ∀ x ∈ putA a v c L, x.2.2 < clkA a c L := by
  intro L
  induction L with
  | nil => intro _ _ _; simp [putA, clkA, getA]
  | cons x r ih =>
   intro h1 h2 h3
   simp only [List.map_cons, List.nodup_cons] at h1 h2
   simp only [putA]
   split
   ·rename_i e
    subst e
    refine ⟨by simp only [List.map_cons, List.nodup_cons]; exact h1, by simp only [List.map_cons, List.nodup_cons]; exact h2, fun y hy => ?_⟩
    have hc : clkA x.1 c (x :: r) = c := by simp [clkA, getA]
    rw [hc]
    rcases List.mem_cons.1 hy with rfl | hy
    ·exact h3 x (by simp)
    ·exact h3 y (by simp [hy])
   ·rename_i e
    obtain ⟨p, q, s⟩ := ih h1.2 h2.2 (fun y hy => h3 y (by simp [hy]))
    have hc : clkA a c (x :: r) = clkA a c r := by simp [clkA, getA, e]
    rw [hc]
    have hge : c ≤ clkA a c r := by unfold clkA; split <;> omega
    refine ⟨?_, ?_, fun y hy => ?_⟩
    ·simp only [List.map_cons, List.nodup_cons, put_keys]
     exact ⟨by rintro (q | q); exact e q.symm; exact h1.1 q, p⟩
    ·simp only [List.map_cons, List.nodup_cons]
     refine ⟨fun hm => ?_, q⟩
     rcases put_borns a v c r _ hm with q | q
     ·have := h3 x (by simp); omega
     ·exact h2.1 q
    ·rcases List.mem_cons.1 hy with rfl | hy
     ·have := h3 y (by simp); omega
     ·exact s y hy
 obtain ⟨p, q, s⟩ := key L h.keys h.borns h.lt
 exact ⟨p, q, s⟩
section
variable {t : TypeId} {enc : α → Value}
theorem findNow_ok {d : TypeDesc} (h : ∀ a b : α, Instr.sameNow d (enc a) (enc b) = some (decide (a = b))) (a : α) : ∀ (L : ML α) (i : Nat), Instr.findNow d (enc a) (L.map (mEnt enc)) i = some (findA a L i)
 | [], i => rfl
 | x :: r, i => by
  simp only [List.map_cons, Instr.findNow, mEnt, h, findA]
  by_cases e : a = x.1
  ·simp [e]
  ·rw [decide_eq_false e, if_neg e]
   exact findNow_ok h a r (i + 1)
theorem findAsk_ok (h : ∀ a b : α, prun P (Op.equal t (enc a) (enc b)) = some (decide (a = b))) (a : α) : ∀ (L : ML α) (i : Nat), prun P (Instr.findAsking t (enc a) (L.map (mEnt enc)) i) = some (findA a L i)
 | [], i => rfl
 | x :: r, i => by
  simp only [List.map_cons, Instr.findAsking, mEnt, pr_bind, h, Option.bind_some, findA]
  by_cases e : a = x.1
  ·simp [e, pr_pure]
  ·rw [decide_eq_false e, if_neg e]
   exact findAsk_ok h a r (i + 1)
theorem KeyOk.find (k : KeyOk P t enc) (a : α) (L : ML α) : prun P (Instr.findKey t (enc a) (mEs enc L).toList) = some (findA a L 0) := by
 obtain ⟨d, hu, hd⟩ := k.now
 have hl : (mEs enc L).toList = L.map (mEnt enc) := by simp [mEs]
 unfold Instr.findKey
 rw [hl, pr_bind, pr_under hu, Option.bind_some]
 rcases hd with h | ⟨h1, h2⟩
 ·rw [findNow_ok h]; rfl
 ·cases L with
  | nil => rfl
  | cons x r =>
   have : Instr.findNow d (enc a) ((x :: r).map (mEnt enc)) 0 = none := by
    simp only [List.map_cons, Instr.findNow, mEnt, h1]
   rw [this]
   exact findAsk_ok h2 a (x :: r) 0
theorem find_at {a : α} {i : Nat} {v : Value} : ∀ {L : ML α} {k : Nat}, findA a L k = some (i, v) → ∃ j x, i = k + j ∧ L[j]? = some x ∧ x.1 = a ∧ x.2.1 = v ∧ bornA a 0 L = x.2.2 ∧ (∀ c, bornA a c L = x.2.2) ∧ (∀ z c, entA a z c L = L) ∧ ∀ u c, putA a u c L = L.set j (x.1, u, x.2.2)
 | [], k, h => by simp [findA] at h
 | x :: r, k, h => by
  simp only [findA] at h
  split at h
  ·rename_i e
   cases h
   exact ⟨0, x, rfl, rfl, e.symm, rfl, by simp [bornA, e], by simp [bornA, e], by simp [entA, e], by simp [putA, e]⟩
  ·rename_i e
   obtain ⟨j, y, h1, h2, h3, h4, h5, h6, h7, h8⟩ := find_at h
   exact ⟨j + 1, y, by omega, by simpa using h2, h3, h4, by simp [bornA, e, h5], by simp [bornA, e, h6], by simp [entA, e, h7], by simp [putA, e, h8]⟩
theorem find_no {a : α} : ∀ {L : ML α} {k : Nat}, findA a L k = none → getA a L = none ∧ (∀ c, bornA a c L = c) ∧ (∀ z c, entA a z c L = L ++ [(a, z, c)]) ∧ ∀ u c, putA a u c L = L ++ [(a, u, c)]
 | [], k, _ => ⟨rfl, fun _ => rfl, fun _ _ => rfl, fun _ _ => rfl⟩
 | x :: r, k, h => by
  simp only [findA] at h
  split at h
  ·cases h
  ·rename_i e
   obtain ⟨p, q, s, u⟩ := find_no h
   exact ⟨by simp [getA, e, p], by simp [bornA, e, q], by simp [entA, e, s], by simp [putA, e, u]⟩
theorem lookupA (k : KeyOk P t enc) {tm te : TypeId} (hu : P.underlying tm = some (.map t te)) {z : Value} (hz : prun P (zeroValue te) = some z) (a : α) (L : ML α) (ok : Bool) :
  prun P (lookupIn tm (mEs enc L) (enc a) ok) = some (if ok then .tuple #[(getA a L).getD z, .bool (getA a L).isSome] else (getA a L).getD z) := by
 unfold lookupIn
 simp only [pr_bind, pr_under hu, Option.bind_some, k.chk, k.find]
 rw [← find_get a L 0]
 cases findA a L 0 with
 | none => simp only [pr_bind, hz, Option.bind_some, Option.map_none, Option.getD_none, Option.isSome_none, pr_pure]
 | some q => simp only [pr_bind, pr_pure, Option.bind_some, Option.map_some, Option.getD_some, Option.isSome_some]
theorem mEs_modify {L : ML α} {j : Nat} {x : α × Value × Nat} (hx : L[j]? = some x) {f : MapEntry → MapEntry} {y : α × Value × Nat} (hf : f (mEnt enc x) = mEnt enc y) : (mEs enc L).modify j f = mEs enc (L.set j y) := by
 unfold mEs
 rw [List.modify_toArray]
 congr 1
 apply List.ext_getElem?
 intro i
 rw [List.getElem?_modify, List.getElem?_map, List.getElem?_map, List.getElem?_set]
 by_cases e : j = i
 ·subst e
  have hlt : j < L.length := by
   rcases Nat.lt_or_ge j L.length with q | q
   ·exact q
   ·rw [List.getElem?_eq_none q] at hx; cases hx
  simp only [if_true, hlt, hx, Option.map_some]
  show some (f (mEnt enc x)) = _
  rw [hf]
 ·simp [e]
theorem set_same {β : Type} : ∀ {L : List β} {j : Nat} {x : β}, L[j]? = some x → L.set j x = L
 | [], j, x, h => by simp at h
 | y :: r, 0, x, h => by simp at h; subst h; rfl
 | y :: r, j + 1, x, h => by simp at h; simp [set_same h]
theorem mEs_push {L : ML α} {a : α} {v : Value} {c : Nat} : (mEs enc L).push { key := enc a, val := v, born := c } = mEs enc (L ++ [(a, v, c)]) := by
 unfold mEs
 simp [mEnt]
theorem updateA (k : KeyOk P t enc) {tm te : TypeId} (hu : P.underlying tm = some (.map t te)) (a : α) (L : ML α) (c : Nat) (v : Value) :
  prun P (updateIn tm (mEs enc L) c (enc a) v) = some (mEs enc (putA a v c L), clkA a c L) := by
 unfold updateIn
 simp only [pr_bind, pr_under hu, Option.bind_some, k.chk, k.find]
 have hg := find_get a L 0
 cases hf : findA a L 0 with
 | none =>
  obtain ⟨p, _, _, u⟩ := find_no hf
  simp only [pr_pure, mEs_push, u, clkA, p]
  rfl
 | some q =>
  obtain ⟨i, w⟩ := q
  rw [hf] at hg
  obtain ⟨j, x, h1, h2, h3, h4, _, _, _, h8⟩ := find_at hf
  have hij : i = j := by omega
  subst hij
  have hkey : (((mEs enc L)[i]?).map (·.key)).getD (enc a) = enc a := by
   simp only [mEs, List.getElem?_toArray, List.getElem?_map, h2, Option.map_some, Option.getD_some, mEnt, h3]
  simp only [hkey, Instr.keyThatStays, k.bits, if_true, pr_bind, pr_pure, Option.bind_some]
  rw [h8, mEs_modify (y := (x.1, v, x.2.2)) h2 (by simp [mEnt, h3])]
  simp only [Option.map_some] at hg
  rw [show clkA a c L = c by unfold clkA; rw [← hg]; rfl]
theorem entryA (k : KeyOk P t enc) {tm te : TypeId} (hu : P.underlying tm = some (.map t te)) {z : Value} (hz : prun P (zeroValue te) = some z) (a : α) (L : ML α) (c : Nat) :
  prun P (entryIn tm (mEs enc L) c (enc a)) = some (.tuple #[(getA a L).getD z, goInt (bornA a c L)], mEs enc (entA a z c L), clkA a c L) := by
 unfold entryIn
 simp only [pr_bind, pr_under hu, Option.bind_some, k.chk, k.find]
 have hg := find_get a L 0
 cases hf : findA a L 0 with
 | none =>
  obtain ⟨p, q, s, u⟩ := find_no hf
  simp only [pr_bind, hz, Option.bind_some, pr_pure, mEs_push, s, q, clkA, p]
  rfl
 | some q =>
  obtain ⟨i, w⟩ := q
  rw [hf] at hg
  obtain ⟨j, x, h1, h2, h3, h4, _, h6, h7, h8⟩ := find_at hf
  have hij : i = j := by omega
  subst hij
  have hkey : (((mEs enc L)[i]?).map (·.key)).getD (enc a) = enc a := by
   simp only [mEs, List.getElem?_toArray, List.getElem?_map, h2, Option.map_some, Option.getD_some, mEnt, h3]
  have hborn : (((mEs enc L)[i]?).map (fun x => (x.born : Int))).getD 0 = (x.2.2 : Int) := by
   simp only [mEs, List.getElem?_toArray, List.getElem?_map, h2, Option.map_some, Option.getD_some, mEnt]
  simp only [hkey, hborn, Instr.keyThatStays, k.bits, if_true, pr_bind, pr_pure, Option.bind_some]
  rw [h7, mEs_modify (y := x) h2 (by simp [mEnt, h3]), set_same h2, h6]
  simp only [Option.map_some] at hg
  rw [show clkA a c L = c by unfold clkA; rw [← hg]; rfl, ← hg]
  rfl
theorem storeA (L : ML α) (b : Nat) (v : Value) (hb : ∃ x ∈ L, x.2.2 = b) : prun P (entryStoreIn (mEs enc L) (goInt b) v) = some (mEs enc (stoA b v L)) := by
 unfold entryStoreIn
 have hi : prun P (asInt (goInt b)) = some (b : Int) := rfl
 simp only [pr_bind, hi, Option.bind_some]
 have key : ∀ (L : ML α), (∃ x ∈ L, x.2.2 = b) → ∃ i x, (L.map (mEnt enc)).findIdx? (fun e => (e.born : Int) == (b : Int)) = some i ∧ L[i]? = some x ∧ stoA b v L = L.set i (x.1, v, x.2.2) := by
  intro L
  induction L with
  | nil => rintro ⟨x, h, _⟩; cases h
  | cons y r ih =>
   intro ⟨x, hx, hxb⟩
   simp only [List.map_cons, List.findIdx?_cons, stoA]
   by_cases e : b = y.2.2
   ·subst e
    refine ⟨0, y, by simp [mEnt], rfl, by simp⟩
   ·rcases List.mem_cons.1 hx with rfl | hx
    ·exact absurd hxb.symm e
    ·obtain ⟨i, z, h1, h2, h3⟩ := ih ⟨x, hx, hxb⟩
     have hne : ((mEnt enc y).born : Int) ≠ (b : Int) := by
      intro q
      have : y.2.2 = b := Int.ofNat_inj.1 q
      exact e this.symm
     refine ⟨i + 1, z, by simp [hne, h1], by simpa using h2, by simp [e, h3]⟩
 obtain ⟨i, x, h1, h2, h3⟩ := key L hb
 have hidx : (mEs enc L).findIdx? (fun e => (e.born : Int) == (b : Int)) = some i := by
  unfold mEs; rw [List.findIdx?_toArray]; exact h1
 rw [hidx]
 simp only [pr_pure]
 rw [mEs_modify (y := (x.1, v, x.2.2)) h2 (by simp [mEnt]), h3]
theorem keyInt {t : TypeId} (hu : P.underlying t = some (.int .i64)) : KeyOk P t (fun x : Int => Value.int .i64 x) where
 fl := fun _ => rfl
 chk := fun a e => by
  show prun P (Instr.checkKey e (9999 + 1) t (.int .i64 a)) = _
  rw [Instr.checkKey, pr_bind, pr_under hu, Option.bind_some]
  rfl
 now := ⟨_, hu, .inl fun a b => by
  simp only [Instr.sameNow, if_true]
  by_cases h : a = b <;> simp [h]⟩
 bits := fun a => by simp [Instr.sameBits]
/-! Maps whose values point. -/
def MLR (r : Ren) : ML α → ML α → Prop
 | [], [] => True
 | x :: l, y :: l' => (y.1 = x.1 ∧ y.2.2 = x.2.2 ∧ VR r x.2.1 y.2.1) ∧ MLR r l l'
 | _, _ => False
theorem EsR_ml {r : Ren} : ∀ {L : ML α} {l' : List MapEntry}, EsR r (L.map (mEnt enc)) l' → ∃ L', l' = L'.map (mEnt enc) ∧ MLR r L L'
 | [], [], _ => ⟨[], rfl, True.intro⟩
 | x :: L, y :: l', h => by
  obtain ⟨L', e, k⟩ := EsR_ml (L := L) (l' := l') h.2
  obtain ⟨key, val, born⟩ := y
  have h1 : key = enc x.1 := h.1.1
  have h2 : born = x.2.2 := h.1.2.1
  subst h1 h2
  exact ⟨(x.1, val, x.2.2) :: L', by rw [e]; rfl, ⟨rfl, rfl, h.1.2.2⟩, k⟩
 | [], _ :: _, h => h.elim
 | _ :: _, [], h => h.elim
theorem ml_EsR {r : Ren} : ∀ {L L' : ML α}, MLR r L L' → EsR r (L.map (mEnt enc)) (L'.map (mEnt enc))
 | [], [], _ => True.intro
 | x :: L, y :: L', h => ⟨⟨by show enc y.1 = enc x.1; rw [h.1.1], h.1.2.1, h.1.2.2⟩, ml_EsR h.2⟩
 | [], _ :: _, h => h.elim
 | _ :: _, [], h => h.elim
theorem MLR.get {r : Ren} (a : α) : ∀ {L L' : ML α}, MLR r L L' → (getA a L = none ∧ getA a L' = none) ∨ ∃ v v', getA a L = some v ∧ getA a L' = some v' ∧ VR r v v'
 | [], [], _ => .inl ⟨rfl, rfl⟩
 | x :: L, y :: L', h => by
  simp only [getA, h.1.1]
  split
  ·exact .inr ⟨_, _, rfl, rfl, h.1.2.2⟩
  ·exact MLR.get a h.2
 | [], _ :: _, h => h.elim
 | _ :: _, [], h => h.elim
theorem MLR.born {r : Ren} (a : α) (c : Nat) : ∀ {L L' : ML α}, MLR r L L' → bornA a c L' = bornA a c L
 | [], [], _ => rfl
 | x :: L, y :: L', h => by simp only [bornA, h.1.1, h.1.2.1, MLR.born a c h.2]
 | [], _ :: _, h => h.elim
 | _ :: _, [], h => h.elim
theorem MLR.ent {r : Ren} (a : α) {z : Value} (hz : VR r z z) (c : Nat) : ∀ {L L' : ML α}, MLR r L L' → MLR r (entA a z c L) (entA a z c L')
 | [], [], _ => ⟨⟨rfl, rfl, hz⟩, True.intro⟩
 | x :: L, y :: L', h => by
  simp only [entA, h.1.1]
  split
  ·exact h
  ·exact ⟨h.1, MLR.ent a hz c h.2⟩
 | [], _ :: _, h => h.elim
 | _ :: _, [], h => h.elim
theorem MLR.sto {r : Ren} (b : Nat) {v v' : Value} (hv : VR r v v') : ∀ {L L' : ML α}, MLR r L L' → MLR r (stoA b v L) (stoA b v' L')
 | [], [], _ => True.intro
 | x :: L, y :: L', h => by
  simp only [stoA, h.1.2.1]
  split
  ·exact ⟨⟨h.1.1, rfl, hv⟩, h.2⟩
  ·exact ⟨h.1, MLR.sto b hv h.2⟩
 | [], _ :: _, h => h.elim
 | _ :: _, [], h => h.elim
theorem MLR.bornIn {r : Ren} {b : Nat} : ∀ {L L' : ML α}, MLR r L L' → (∃ e ∈ L, e.2.2 = b) → ∃ e ∈ L', e.2.2 = b
 | [], [], _, h => h
 | x :: L, y :: L', h, ⟨e, he, hb⟩ => by
  rcases List.mem_cons.1 he with rfl | he
  ·exact ⟨y, by simp, h.1.2.1.trans hb⟩
  ·obtain ⟨u, hu, q⟩ := MLR.bornIn h.2 ⟨e, he, hb⟩
   exact ⟨u, by simp [hu], q⟩
 | [], _ :: _, h, _ => h.elim
 | _ :: _, [], h, _ => h.elim
section
variable {base lo : Nat} {r : Ren} {H : Hp} {w : World}
theorem mq_at (h : Rel P r base H w) {b c : Nat} {L : ML α} {loc : Loc} (e : r b = some loc) (hg : H.t.get b = some (.mq (mEs enc L) c)) : ∃ L', w.heap[loc.blk]? = some (.map (mEs enc L') c) ∧ MLR r L L' ∧ loc.blk < w.heap.size := by
 obtain ⟨es', ho, hes⟩ := h.cont _ _ _ e hg
 have hl : (mEs enc L).toList = L.map (mEnt enc) := by simp [mEs]
 rw [hl] at hes
 obtain ⟨L', e1, k⟩ := EsR_ml hes
 have : es' = mEs enc L' := by unfold mEs; rw [← e1]
 subst this
 refine ⟨L', ho, k, ?_⟩
 rcases Nat.lt_or_ge loc.blk w.heap.size with q | q
 ·exact q
 ·rw [Array.getElem?_eq_none q] at ho; cases ho
theorem mq_put (h : Rel P r base H w) {b c c' : Nat} {L L2 L2' : ML α} {loc : Loc} (e : r b = some loc) (hg : H.t.get b = some (.mq (mEs enc L) c)) (hlb : lo ≤ b) (hk : MLR r L2 L2') :
  (setObj loc.blk (.map (mEs enc L2') c')).run P w = .ok () { w with heap := w.heap.setIfInBounds loc.blk (.map (mEs enc L2') c') } ∧ Post P lo base r H w r { H with t := H.t.set b (.mq (mEs enc L2) c') } { w with heap := w.heap.setIfInBounds loc.blk (.map (mEs enc L2') c') } := by
 obtain ⟨L', ho, _, hlt⟩ := mq_at h e hg
 refine ⟨by simp [setObj, Sem.run, ho], ?_⟩
 refine Post.change h e ⟨_, hg, by simp, rfl⟩ hlb (by simp) (fun q hq => ?_) ⟨rfl, rfl, rfl⟩ ?_
 ·show (w.heap.setIfInBounds loc.blk _)[q]? = _
  rw [Array.getElem?_setIfInBounds, if_neg (fun e => hq e.symm)]
 ·refine ⟨mEs enc L2', ?_, ?_⟩
  ·show (w.heap.setIfInBounds loc.blk _)[loc.blk]? = _
   rw [Array.getElem?_setIfInBounds, if_pos rfl, if_pos hlt]
  ·have h1 : (mEs enc L2).toList = L2.map (mEnt enc) := by simp [mEs]
   have h2 : (mEs enc L2').toList = L2'.map (mEnt enc) := by simp [mEs]
   rw [h1, h2]
   exact ml_EsR hk
theorem mq_look (h : Rel P r base H w) (k : KeyOk P t enc) {tm te : TypeId} (hu : P.underlying tm = some (.map t te)) {z : Value} (hz : prun P (zeroValue te) = some z) (hf : flat z = true) {b c : Nat} {a : α} {L : ML α} (hg : H.t.get b = some (.mq (mEs enc L) c)) {m' k' : Value} (hm : VR r (.map (some b)) m') (hk : VR r (enc a) k') :
  ∃ v', (Instr.lookup tm m' k' false).run P w = .ok v' w ∧ VR r ((getA a L).getD z) v' := by
 rw [flat_same (k.fl a) hk]
 cases hm with
 | mapv e =>
  rename_i loc
  obtain ⟨L', ho, hml, _⟩ := mq_at h e hg
  refine ⟨(getA a L').getD z, ?_, ?_⟩
  ·rw [lookup_run hu ho]
   have := prun_run _ (lookupA k hu hz a L' false) w
   simpa using this
  ·rcases hml.get a with ⟨e1, e2⟩ | ⟨v, v', e1, e2, hv⟩
   ·rw [e1, e2]; exact flat_vr hf
   ·rw [e1, e2]; exact hv
theorem mq_entry (h : Rel P r base H w) (k : KeyOk P t enc) {tm te : TypeId} (hu : P.underlying tm = some (.map t te)) {z : Value} (hz : prun P (zeroValue te) = some z) (hf : flat z = true) {b c : Nat} {a : α} {L : ML α} (hg : H.t.get b = some (.mq (mEs enc L) c)) (hlb : lo ≤ b) {m' k' : Value} (hm : VR r (.map (some b)) m') (hk : VR r (enc a) k') :
  ∃ v' w', (Instr.mapEntry tm m' k').run P w = .ok v' w' ∧ VR r (.tuple #[(getA a L).getD z, goInt (bornA a c L)]) v' ∧ Post P lo base r H w r { H with t := H.t.set b (.mq (mEs enc (entA a z c L)) (clkA a c L)) } w' := by
 rw [flat_same (k.fl a) hk]
 cases hm with
 | mapv e =>
  rename_i loc
  obtain ⟨L', ho, hml, _⟩ := mq_at h e hg
  obtain ⟨hrun, hpost⟩ := mq_put (lo := lo) (c' := clkA a c L) h e hg hlb (hml.ent a (flat_vr hf) c)
  have hc : clkA a c L' = clkA a c L := by
   unfold clkA
   rcases hml.get a with ⟨e1, e2⟩ | ⟨v, v', e1, e2, hv⟩ <;> rw [e1, e2] <;> rfl
  refine ⟨.tuple #[(getA a L').getD z, goInt (bornA a c L')], _, ?_, ?_, hpost⟩
  ·rw [entry_run hu ho (entryA k hu hz a L' c), hc]
   simp only [Sem.run_bind, hrun, Result.andThen_ok, Sem.run_pure]
  ·refine .tuple rfl fun i u u' e1 e2 => ?_
   match i with
   | 0 =>
    simp at e1 e2
    subst e1 e2
    rcases hml.get a with ⟨e1, e2⟩ | ⟨v, v', e1, e2, hv⟩
    ·rw [e1, e2]; exact flat_vr hf
    ·rw [e1, e2]; exact hv
   | 1 =>
    simp at e1 e2
    subst e1 e2
    rw [hml.born]
    exact flat_vr rfl
   | i + 2 => simp at e1
theorem mq_store (h : Rel P r base H w) {tm : TypeId} {b c st : Nat} {L : ML α} {v : Value} (hg : H.t.get b = some (.mq (mEs enc L) c)) (hlb : lo ≤ b) (hb : ∃ e ∈ L, e.2.2 = st) {m' s' v' : Value} (hm : VR r (.map (some b)) m') (hs : VR r (goInt st) s') (hv : VR r v v') :
  ∃ w', (Instr.entryStore tm m' s' v').run P w = .ok () w' ∧ Post P lo base r H w r { H with t := H.t.set b (.mq (mEs enc (stoA st v L)) c) } w' := by
 rw [flat_same (rfl : flat (goInt st) = true) hs]
 cases hm with
 | mapv e =>
  rename_i loc
  obtain ⟨L', ho, hml, _⟩ := mq_at h e hg
  obtain ⟨hrun, hpost⟩ := mq_put (lo := lo) (c' := c) h e hg hlb (hml.sto st hv)
  exact ⟨_, by rw [entryStore_run ho (storeA L' st v' (hml.bornIn hb))]; exact hrun, hpost⟩
end
end
end
end
end Go.Ax


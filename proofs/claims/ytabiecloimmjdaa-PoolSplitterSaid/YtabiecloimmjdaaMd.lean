import Derived.Test.YtabiecloimmjdaaMc
import Derived.Maps.RangeRun
import Derived.Test.YtabiecloimmjdaaChecked
set_option linter.all false
/-! Code whose outcome hangs on what is drawn, 2: lowered code, step by step. -/
namespace Go.Ax
open Go Go.RowKit
noncomputable section
section
variable (P : Program) (kn : Kn) (lo n : Nat) (rd : Bool)
def CallV (P : Program) (lo : Nat) (t : Target) (args : List Value) (H : Hp) (Q : Value → Hp → Prop) : Prop :=
 ∀ (r : Ren) (base : Nat) (w : World) (t' : Target) (args' : Array Value), lo ≤ H.next → Rel P r base H w → TgR r t t' → LR r args args'.toList →
  ∃ v H' r' w' v', Q v H' ∧ Post P lo base r H w r' H' w' ∧ VR r' v v' ∧ (invoke t' args').run P w = .ok (.value v') w'
def wMqL (S : Rg) (H : Hp) (K : Value → Hp → Prop) (o : Oper) : Prop :=
 match o.op with
 | .makeMap _ none => K (.map (some H.next)) (H.new (.mq #[] 0))
 | .lookup t x y false => ∃ (α : Type) (_ : DecidableEq α) (enc : α → Value) (kt et : TypeId) (a : α) (L : ML α) (b c : Nat) (z : Value), KeyOk P kt enc ∧ P.underlying t = some (.map kt et) ∧ prun P (zeroValue et) = some z ∧ flat z = true ∧
   evS S x = some (.map (some b)) ∧ evS S y = some (enc a) ∧ H.t.get b = some (.mq (mEs enc L) c) ∧ K ((getA a L).getD z) H
 | .mapEntry t x y => ∃ (α : Type) (_ : DecidableEq α) (enc : α → Value) (kt et : TypeId) (a : α) (L : ML α) (b c : Nat) (z : Value), KeyOk P kt enc ∧ P.underlying t = some (.map kt et) ∧ prun P (zeroValue et) = some z ∧ flat z = true ∧
   evS S x = some (.map (some b)) ∧ evS S y = some (enc a) ∧ H.t.get b = some (.mq (mEs enc L) c) ∧ lo ≤ b ∧ K (.tuple #[(getA a L).getD z, goInt (bornA a c L)]) { H with t := H.t.set b (.mq (mEs enc (entA a z c L)) (clkA a c L)) }
 | _ => False
def wMqS (S : Rg) (H : Hp) (K : Value → Hp → Prop) (o : Oper) : Prop :=
 match o.op with
 | .entryStore _ x y u => ∃ (α : Type) (_ : DecidableEq α) (enc : α → Value) (L : ML α) (b c st : Nat) (v : Value), evS S x = some (.map (some b)) ∧ evS S y = some (goInt st) ∧ evS S u = some v ∧ H.t.get b = some (.mq (mEs enc L) c) ∧ lo ≤ b ∧ (∃ e ∈ L, e.2.2 = st) ∧
   K undef { H with t := H.t.set b (.mq (mEs enc (stoA st v L)) c) }
 | _ => False
def wRIM (S : Rg) (H : Hp) (K : Value → Hp → Prop) : RI → Prop
 | .call c _ => match targetS S c with
  | some (t, vs) => ∃ Q : Value → Hp → Prop, (CallM P lo t vs H Q ∨ CallV P lo t vs H Q) ∧ ∀ v H', Q v H' → K v H'
  | none => False
 | .rng x => match evS S x with
  | some (.map none) => ∀ H1, H.new (.it none 0 #[] 0) = H1 → K (ptr H.next) H1
  | some (.map (some m)) => ∃ es c, H.t.get m = some (.mp es c) ∧ ∀ H1, H.new (.it (some m) c #[] c) = H1 → K (ptr H.next) H1
  | _ => False
 | .nxt x => match evS S x with
  | some (.pointer (some ⟨b, 0, none⟩)) =>
   (∃ s se la, H.t.get b = some (.it none s se la) ∧ K (.tuple #[.bool false]) H) ∨
   ∃ m s se la es c, H.t.get b = some (.it (some m) s se la) ∧ H.t.get m = some (.mp es c) ∧ (∀ e ∈ es.toList, e.born < s ∧ flat e.key = true ∧ flat e.val = true) ∧ s ≤ la ∧ lo ≤ b ∧
    ((leftOf es se).size = 0 → K (.tuple #[.bool false]) H) ∧
    ∀ e ∈ (leftOf es se).toList, ∀ H1, H.up b (.it (some m) s (se.push e.born) c) = H1 → K (.tuple #[.bool true, e.key, e.val]) H1
  | _ => False
 | .ent x => match evS S x with
  | some (.pointer (some ⟨b, 0, none⟩)) => ∃ m s se la es e, H.t.get b = some (.it (some m) s (Array.push se e.born) la) ∧ H.t.get m = some (.mp es la) ∧ e ∈ es.toList ∧ (es.toList.map (·.born)).Nodup ∧ flat e.key = true ∧ flat e.val = true ∧ K (.tuple #[e.key, e.val]) H
  | _ => False
 | .mem o => wRI P kn lo n S H (fun v H' _ => K v H') (.mem o) ∨ wMqL P lo S H K o
 | .mst o => wRI P kn lo n S H (fun v H' _ => K v H') (.mst o) ∨ wMqS lo S H K o
 | ri => wRI P kn lo n S H (fun v H' _ => K v H') ri
def wROM (S : Rg) (H : Hp) (o : RO) (K : Rg → Hp → Prop) : Prop :=
 match o.guard with
 | none => wRIM P kn lo n S H (fun v H' => K (putS S o.dst v) H') o.ri
 | some (g, want) => match lk S g with
  | some (.bool true) => bif want then wRIM P kn lo n S H (fun v H' => K (putS S o.dst v) H') o.ri else K (putS S o.dst undef) H
  | some (.bool false) => bif want then K (putS S o.dst undef) H else wRIM P kn lo n S H (fun v H' => K (putS S o.dst v) H') o.ri
  | some (.tuple _) => K (putS S o.dst undef) H
  | _ => False
def wOpsM : List RO → Rg → Hp → (Rg → Hp → Prop) → Prop
 | [], S, H, K => K S H
 | o :: r, S, H, K => wROM P kn lo n S H o fun S' H' => wOpsM r S' H' K
def KD (ops : List RO) (V : Nat → Value) (done : Nat → Bool) (S S' : Rg) : Prop :=
 (∀ i o d, ops[i]? = some o → o.dst = some d → done i = true → lk S' d = some (V i)) ∧ ∀ j v, lk S j = some v → (∀ o ∈ ops, o.dst ≠ some j) → lk S' j = some v
def endS (V : Nat → Value) : List RO → Nat → Rg → Rg
 | [], _, S => S
 | o :: r, i, S => endS V r (i + 1) (putS S o.dst (V i))
def also (done : Nat → Bool) (i : Nat) : Nat → Bool := fun j => bif Nat.beq j i then true else done j
def wDI1 (ops : List RO) (V : Nat → Value) (HP : (Nat → Bool) → Hp → Prop) (S : Rg) (i m : Nat) (o : RO) : Prop :=
 ∀ (done : Nat → Bool) (S' : Rg) (H' : Hp), done i = false → (∀ j, m.testBit j = true → done j = true) → HP done H' → KD ops V done S S' → wROM P kn lo n S' H' o fun S2 H2 => S2 = putS S' o.dst (V i) ∧ HP (also done i) H2
def wDIs (ops : List RO) (V : Nat → Value) (HP : (Nat → Bool) → Hp → Prop) (S : Rg) (ms : List Nat) : List RO → Nat → Prop
 | [], _ => True
 | o :: r, i => wDI1 P kn lo n ops V HP S i (ms.getD (ops.length - 1 - i) 0) o ∧ wDIs ops V HP S ms r (i + 1)
def wDI (ms : List Nat) (ops : List RO) (S : Rg) (H : Hp) (K : Rg → Hp → Prop) : Prop :=
 ∃ (V : Nat → Value) (HP : (Nat → Bool) → Hp → Prop), (ops.filterMap (·.dst)).Nodup ∧ HP (fun _ => false) H ∧ wDIs P kn lo n ops V HP S ms ops 0 ∧ ∀ done H', (∀ i, i < ops.length → done i = true) → HP done H' → K (endS V ops 0 S) H'
def wCM : RC → Rg → Hp → (Exit → Rg → Hp → Prop) → Prop
 | .skip, S, H, K => K .normal S H
 | .exit id, S, H, K => K (.exit id) S H
 | .ret, S, H, K => K .ret S H
 | .seq x y, S, H, K => wCM x S H fun e S' H' => match e with | .normal => wCM y S' H' K | e => K e S' H'
 | .cond o x y, S, H, K => match evS S o with
  | some (.bool b) => (b = true → wCM x S H K) ∧ (b = false → wCM y S H K)
  | _ => False
 | .block id b, S, H, K => wCM b S H fun e S' H' => match e with | .exit j => (bif Nat.beq j id then K .normal S' H' else K (.exit j) S' H') | e => K e S' H'
 | .scp b, S, H, K => wCM b S H K
 | .reg ops, S, H, K => wOpsM P kn lo n ops S H fun S' H' => K .normal S' H'
 | .dreg ops masks, S, H, K => wDraw P kn lo n masks ops [] S H (fun S' H' => K .normal S' H') ∨ (RoLow lo H ∧ wDrawR P kn lo n masks ops [] S H fun S' H' => K .normal S' H') ∨ wDI P kn lo n masks ops S H fun S' H' => K .normal S' H'
 | .other c, S, H, K => TriM P lo n rd c S H K
end
section
variable {P : Program} {kn : Kn} {lo n : Nat} {rd : Bool}
theorem wROM_parts {ops : Array Oper} {ord : Bool} {A : Fr} {S : Rg} {H : Hp} {K : Rg → Hp → Prop} {o : Oper} {ro : RO} (hl : lowRO P n ops.toList ord o = some ro) (hA : Knows S A.T) (hn : A.n = n) (h : wROM P kn lo n S H ro K) :
  (∀ v, A.put o.dst v = some { A with T := putTr A.T o.dst v }) ∧
  ((wantedA ops A o = some false ∧ K (putS S o.dst undef) H) ∨ (wantedA ops A o = some true ∧ ∃ ri, lowRI P ops.toList ord o = some ri ∧ wRIM P kn lo n S H (fun v H' => K (putS S o.dst v) H') ri)) := by
 unfold lowRO at hl
 split at hl <;> first | (cases hl; done) | skip
 rename_i ri hri
 obtain ⟨hd, hl⟩ := bif_some hl
 refine ⟨put_ok (by rw [hn]; exact hd), ?_⟩
 split at hl
 ·rename_i hg
  cases hl
  simp only [wROM] at h
  exact .inr ⟨by unfold wantedA; rw [hg], ri, hri, h⟩
 ·rename_i j w hg
  split at hl <;> first | (cases hl; done) | skip
  rename_i g hj
  split at hl <;> first | (cases hl; done) | skip
  rename_i d hgd
  cases hl
  have hj' : ops[j]? = some g := by simpa using hj
  simp only [wROM] at h
  split at h <;> first | exact h.elim | skip
  ·rename_i hb
   have hw : wantedA ops A o = some (true == w) := by unfold wantedA; rw [hg]; simp only [hj', hgd, hA d _ hb]
   cases w with
   | true => exact .inr ⟨by rw [hw]; rfl, ri, hri, h⟩
   | false => exact .inl ⟨by rw [hw]; rfl, h⟩
  ·rename_i hb
   have hw : wantedA ops A o = some (false == w) := by unfold wantedA; rw [hg]; simp only [hj', hgd, hA d _ hb]
   cases w with
   | true => exact .inl ⟨by rw [hw]; rfl, h⟩
   | false => exact .inr ⟨by rw [hw]; rfl, ri, hri, h⟩
  ·rename_i vs hb
   exact .inl ⟨by unfold wantedA; rw [hg]; simp only [hj', hgd, hA d _ hb], h⟩
theorem low_rng {ops : List Oper} {ord : Bool} {o : Oper} {x : Operand} (h : lowRI P ops ord o = some (.rng x)) : ∃ t k e, o.op = .range t x ∧ P.underlying t = some (.map k e) := by
 unfold lowRI at h
 split at h <;> rename_i hop <;> (repeat' (first | (cases h; done) | (unfold cond at h) | (split at h)))
 all_goals first
  | (cases h; done)
  | (rename_i hu; cases h; exact ⟨_, _, _, hop, hu⟩)
theorem low_nxt {ops : List Oper} {ord : Bool} {o : Oper} {x : Operand} (h : lowRI P ops ord o = some (.nxt x)) : o.op = .next x false := by
 unfold lowRI at h
 split at h <;> rename_i hop <;> (repeat' (first | (cases h; done) | (unfold cond at h) | (split at h)))
 all_goals first
  | (cases h; done)
  | (cases h; exact hop)
theorem low_ent {ops : List Oper} {ord : Bool} {o : Oper} {x : Operand} (h : lowRI P ops ord o = some (.ent x)) : o.op = .entry x := by
 unfold lowRI at h
 split at h <;> rename_i hop <;> (repeat' (first | (cases h; done) | (unfold cond at h) | (split at h)))
 all_goals first
  | (cases h; done)
  | (cases h; exact hop)
theorem low_mem {ops : List Oper} {ord : Bool} {o x : Oper} (h : lowRI P ops ord o = some (.mem x)) : x = clean o := by
 unfold lowRI at h
 split at h <;> rename_i hop <;> (repeat' (first | (cases h; done) | (unfold cond at h) | (split at h)))
 all_goals first
  | (cases h; done)
  | (cases h; rfl)
theorem low_mst {ops : List Oper} {ord : Bool} {o x : Oper} (h : lowRI P ops ord o = some (.mst x)) : x = clean o := by
 unfold lowRI at h
 split at h <;> rename_i hop <;> (repeat' (first | (cases h; done) | (unfold cond at h) | (split at h)))
 all_goals first
  | (cases h; done)
  | (cases h; rfl)
theorem aOp_call {A : Fr} {S : Rg} {H : Hp} {o : Oper} {c : Call} {t : Target} {vs : List Value} (hb : ∀ b, c.callee ≠ .builtin b) (hop : o.op = .call c) (hA : Knows S A.T) (ht : targetS S c = some (t, vs)) : aOp P lo A H o = some (.call t vs, .full) := by
 have e : pureOp P A o = none := by
  unfold pureOp; rw [hop]
  cases hcal : c.callee with
  | builtin b => exact absurd hcal (hb b)
  | _ => simp only [hcal]
 unfold aOp
 rw [e]
 unfold heapOp
 rw [hop]
 cases hcal : c.callee with
 | builtin b => exact absurd hcal (hb b)
 | _ => simp only [hcal, target_of hA ht]
theorem rangeMap_R {base : Nat} {r : Ren} {H : Hp} {w : World} (h : Rel P r base H w) (hlo : lo ≤ H.next) {t k e : TypeId} (hu : P.underlying t = some (.map k e)) {v v' : Value} (hv : VR r v v') {ob : Ob}
  (ho : (v = .map none ∧ ob = .it none 0 #[] 0) ∨ ∃ m es c, v = .map (some m) ∧ H.t.get m = some (.mp es c) ∧ ob = .it (some m) c #[] c) :
  ∃ r1 v1 w1, (Instr.range t v').run P w = .ok v1 w1 ∧ VR r1 (ptr H.next) v1 ∧ Post P lo base r H w r1 (H.new ob) w1 := by
 rcases ho with ⟨rfl, rfl⟩ | ⟨m, es, c, rfl, hg, rfl⟩
 ·cases hv
  refine ⟨_, .pointer (some ⟨w.heap.size, 0, none⟩), { w with heap := w.heap.push (.mapIter none 0 #[] 0) }, ?_, ptr_new r H.next w none, Post.fresh h hlo rfl ⟨rfl, rfl, rfl⟩ ⟨rfl, rfl⟩⟩
  simp only [Instr.range, Sem.run_bind, run_underlying hu, Result.andThen_ok, Sem.run_pure]
  rfl
 ·cases hv with
  | mapv hm =>
   rename_i loc
   have hob : w.heap[loc.blk]? = some (.map es c) := h.cont _ _ _ hm hg
   refine ⟨_, .pointer (some ⟨w.heap.size, 0, none⟩), { w with heap := w.heap.push (.mapIter (some loc.blk) c #[] c) }, ?_, ptr_new r H.next w none, Post.fresh h hlo rfl ⟨rfl, rfl, rfl⟩ ⟨rfl, loc, Ren.le_add _ h.none_next _ _ hm, rfl⟩⟩
   simp only [Instr.range, Sem.run_bind, run_underlying hu, Result.andThen_ok, Sem.run_pure, getObj, Sem.run, hob, Result.andThen]
   rfl
theorem next_R {base : Nat} {r : Ren} {H : Hp} {w : World} (h : Rel P r base H w) {b m s la c : Nat} {se : Array Nat} {es : Array MapEntry} {v' : Value} (hv : VR r (.pointer (some ⟨b, 0, none⟩)) v') (hb : H.t.get b = some (.it (some m) s se la)) (hm : H.t.get m = some (.mp es c))
  (hold : ∀ e ∈ es.toList, e.born < s) (hsc : s ≤ la) (hlb : lo ≤ b) (ty : TypeId) :
  ((leftOf es se).size = 0 ∧ (Instr.next v' false ty).run P w = .ok (.tuple #[.bool false]) w) ∨
  ∃ e ∈ (leftOf es se).toList, ∃ w1, (Instr.next v' false ty).run P w = .ok (.tuple #[.bool true, e.key, e.val]) w1 ∧ Post P lo base r H w r (H.up b (.it (some m) s (se.push e.born) c)) w1 := by
 cases hv with
 | ptr hr =>
  rename_i loc
  obtain ⟨hd, l, hl, hob⟩ := h.cont _ _ _ hr hb
  have hom : w.heap[l.blk]? = some (.map es c) := h.cont _ _ _ hl hm
  have hlt : loc.blk < w.heap.size := by
   rcases Nat.lt_or_ge loc.blk w.heap.size with q | q
   ·exact q
   ·rw [Array.getElem?_eq_none q] at hob; cases hob
  rw [hd]
  rcases run_next_at (P := P) w ty loc.blk l.blk s la se es c hob hom hold hsc with q | ⟨e, he, w1, hw, hrun⟩
  ·exact .inl q
  ·refine .inr ⟨e, he, _, hrun, ?_⟩
   have hheap : w1.heap = w.heap := by rcases hw with rfl | rfl <;> rfl
   have hstr : w1.os = w.os ∧ w1.tape = w.tape ∧ w1.output = w.output := by rcases hw with rfl | rfl <;> exact ⟨rfl, rfl, rfl⟩
   refine Post.change h hr ⟨_, hb, by simp, rfl⟩ hlb (by show (w1.heap.setIfInBounds _ _).size = _; rw [hheap]; simp) (fun q hq => ?_) hstr ?_
   ·show (w1.heap.setIfInBounds loc.blk _)[q]? = _
    rw [hheap, Array.getElem?_setIfInBounds, if_neg (fun e => hq e.symm)]
   ·refine ⟨hd, l, hl, ?_⟩
    show (w1.heap.setIfInBounds loc.blk _)[loc.blk]? = _
    rw [hheap, Array.getElem?_setIfInBounds, if_pos rfl, if_pos hlt]
theorem next_none {base : Nat} {r : Ren} {H : Hp} {w : World} (h : Rel P r base H w) {b s la : Nat} {se : Array Nat} {v' : Value} (hv : VR r (.pointer (some ⟨b, 0, none⟩)) v') (hb : H.t.get b = some (.it none s se la)) (ty : TypeId) :
  (Instr.next v' false ty).run P w = .ok (.tuple #[.bool false]) w := by
 cases hv with
 | ptr hr =>
  rename_i loc
  obtain ⟨hd, hob⟩ := h.cont _ _ _ hr hb
  rw [hd]
  simp only [Instr.next, getObj, Sem.run_bind, Sem.run, hob, Result.andThen]
  rfl
theorem entry_R {base : Nat} {r : Ren} {H : Hp} {w : World} (h : Rel P r base H w) {b m s la : Nat} {se : Array Nat} {es : Array MapEntry} {e : MapEntry} {v' : Value} (hv : VR r (.pointer (some ⟨b, 0, none⟩)) v') (hb : H.t.get b = some (.it (some m) s (se.push e.born) la)) (hm : H.t.get m = some (.mp es la))
  (he : e ∈ es.toList) (hn : (es.toList.map (·.born)).Nodup) : (Instr.entry v').run P w = .ok (.tuple #[e.key, e.val]) w := by
 cases hv with
 | ptr hr =>
  rename_i loc
  obtain ⟨hd, l, hl, hob⟩ := h.cont _ _ _ hr hb
  have hom : w.heap[l.blk]? = some (.map es la) := h.cont _ _ _ hl hm
  rw [hd]
  exact run_entry_at w loc.blk l.blk s se es la e hob hom he hn
section
variable {base : Nat} {r : Ren} {H : Hp} {w : World} {A : Fr} {tmps : Array Value} {ds : List Deferred} {rdv : Option Nat} {cs : List Frame} {k : List Item} {ops : Array Oper} {i : Nat} {rest : List Nat} {o : Oper} {S : Rg} {K : Exit → Rg → Hp → Prop}
theorem go_on (hlo : lo ≤ H.next) (hF : FrR r A tmps ds rdv) (hn : A.n = n) (hr : A.round.isSome = rd) (hS : Knows S A.T) (hput : ∀ v, A.put o.dst v = some { A with T := putTr A.T o.dst v })
  {r1 : Ren} {H1 : Hp} {w1 : World} {v v' : Value} (hpost : Post P lo base r H w r1 H1 w1) (hv : VR r1 v v')
  (hs : Steps P (lone (mkF A.fn tmps (.inRegion ops (i :: rest) :: k) ds .normal rdv) cs w) (lone (mkF A.fn (putT tmps o.dst v') (.inRegion ops rest :: k) ds .normal rdv) cs w1))
  (hrest : OpsM P lo n rd ops rest (putS S o.dst v) H1 K) :
  ∃ e S' H' T', K e S' H' ∧ Knows S' T' ∧ Ends P lo base r H w (lone (mkF A.fn tmps (.inRegion ops (i :: rest) :: k) ds .normal rdv) cs w) .normal rdv (fun _ => cs) k A e { A with T := T' } H' none := by
 obtain ⟨hF1, hs1, _⟩ := put_R (hF.mono hpost.le) (hput v) hv
 obtain ⟨e, S', H', T', a, b, q⟩ := hrest base r1 w1 _ _ ds rdv cs k (Nat.le_trans hlo hpost.next) hpost.rel hF1 hn hr (knows_put hS o.dst v)
 exact ⟨e, S', H', T', a, b, Ends.of_steps hs (Ends.after hlo hpost hs1 q)⟩
theorem call_on (hlo : lo ≤ H.next) (hrel : Rel P r base H w) (hF : FrR r A tmps ds rdv) (hn : A.n = n) (hr : A.round.isSome = rd) (hS : Knows S A.T) (hput : ∀ v, A.put o.dst v = some { A with T := putTr A.T o.dst v }) (ho : ops[i]? = some o) (hw : Region.wanted o (yielded ops tmps) = true)
  {t : Target} {vs : List Value} (hop : aOp P lo A H o = some (.call t vs, .full)) {Q : Value → Hp → Prop} (hc : CallM P lo t vs H Q) (hrest : ∀ v H1, Q v H1 → OpsM P lo n rd ops rest (putS S o.dst v) H1 K) :
  ∃ e S' H' T', K e S' H' ∧ Knows S' T' ∧ Ends P lo base r H w (lone (mkF A.fn tmps (.inRegion ops (i :: rest) :: k) ds .normal rdv) cs w) .normal rdv (fun _ => cs) k A e { A with T := T' } H' none := by
 obtain ⟨hSx, hdef⟩ := aOp_R hrel hlo hF.T hop
 have hd : rdv = none ∨ ∀ c, o.op ≠ .defer c := .inr (hdef.resolve_right fun ⟨d, hd⟩ => by cases hd)
 obtain ⟨t', args', hrun, ht, ha⟩ := hSx
 obtain ⟨nx, fr0, hi, hfo, hb⟩ := hc r base w t' args' hlo hrel ht ha
 obtain ⟨v, H1, r1, w1, hq, hpost, v', hv, hsteps⟩ := hb (mkF A.fn tmps (.inRegion ops (i :: rest) :: k) ds .normal rdv) cs
 have henter : step P (lone (mkF A.fn tmps (.inRegion ops (i :: rest) :: k) ds .normal rdv) cs w) = .next (lone fr0 (mkF A.fn tmps (.inRegion ops (i :: rest) :: k) ds .normal rdv :: cs) w) := by
  rw [hi] at hrun
  cases nx <;> simp only [frameOf] at hfo <;> cases hfo
  ·exact mv_enter ho hw hd hrun
  ·exact mv_round ho hw hd hrun
 rw [finish_mk v' ho] at hsteps
 exact go_on hlo hF hn hr hS hput hpost hv (Steps.head henter hsteps) (hrest v H1 hq)
end
theorem CallM.low {lo' : Nat} {t : Target} {args : List Value} {H : Hp} {Q : Value → Hp → Prop} (h : CallM P lo' t args H Q) (hl : lo ≤ lo') (hn : lo' ≤ H.next) : CallM P lo t args H Q := by
 intro r base w t' args' hlo hrel ht ha
 obtain ⟨nx, fr0, a, b, c⟩ := h r base w t' args' hn hrel ht ha
 refine ⟨nx, fr0, a, b, fun c0 rest => ?_⟩
 obtain ⟨v, H', r', w', q, hp, x⟩ := c c0 rest
 exact ⟨v, H', r', w', q, hp.low hl, x⟩
theorem wROM_step (s : Snd P kn) {ops : Array Oper} {ord : Bool} {i : Nat} {rest : List Nat} {o : Oper} {ro : RO} {Q : Rg → Hp → Prop} {S : Rg} {H : Hp} {K : Exit → Rg → Hp → Prop} (ho : ops[i]? = some o) (hro : lowRO P n ops.toList ord o = some ro) (h : wROM P kn lo n S H ro Q)
  (ih : ∀ {S' H'}, Q S' H' → OpsM P lo n rd ops rest S' H' K) : OpsM P lo n rd ops (i :: rest) S H K := by
  intro base r w A tmps ds rdv cs k hlo hrel hF hn hr hS
  obtain ⟨hput, hcase⟩ := wROM_parts hro hS hn h
  rcases hcase with ⟨hw, hk⟩ | ⟨hw, ri, hri, hk⟩
  ·exact go_on hlo hF hn hr hS hput (Post.refl hrel) (undef_R r) (Steps.one (mv_passed ho (wanted_R hF.T hw))) (ih hk)
  ·have hwr := wanted_R hF.T hw
   have gen : wRI P kn lo n S H (fun v H' _ => Q (putS S o.dst v) H') ri → ∃ e S' H' T', K e S' H' ∧ Knows S' T' ∧ Ends P lo base r H w (lone (mkF A.fn tmps (.inRegion ops (i :: rest) :: k) ds .normal rdv) cs w) .normal rdv (fun _ => cs) k A e { A with T := T' } H' none := by
    intro hk
    rcases wRI_sound hri hS hk with ⟨v, H1, kd, hop, _, hk⟩ | ⟨H1, kd, hop, hk⟩ | ⟨t, vs, v, H1, hop, _, hc, hk⟩ | ⟨t, vs, v, H1, b, hop, _, _, hc, _, hk⟩
    ·obtain ⟨⟨r1, v', w1, hrun, hv, hpost⟩, hdef⟩ := aOp_R hrel hlo hF.T hop
     have hd : rdv = none ∨ ∀ c, o.op ≠ .defer c := .inr (hdef.resolve_right fun ⟨d, hd⟩ => by cases hd)
     exact go_on hlo hF hn hr hS hput hpost hv (Steps.one (mv_value ho hwr hd hrun)) (ih hk)
    ·obtain ⟨⟨w1, hrun, hpost⟩, hdef⟩ := aOp_R hrel hlo hF.T hop
     have hd : rdv = none ∨ ∀ c, o.op ≠ .defer c := .inr (hdef.resolve_right fun ⟨d, hd⟩ => by cases hd)
     exact go_on hlo hF hn hr hS hput hpost (undef_R r) (Steps.one (mv_skipped ho hwr hd hrun)) (ih hk)
    ·refine call_on hlo hrel hF hn hr hS hput ho hwr hop (Q := fun u H2 => u = v ∧ H2 = H1) ?_ fun v1 H2 ⟨e1, e2⟩ => by subst e1 e2; exact ih hk
     cases ord with
     | true => exact CallM.of s hc
     | false => exact (CallM.of s hc).low hlo (Nat.le_refl _)
    ·exact call_on hlo hrel hF hn hr hS hput ho hwr hop (CallM.of s hc) fun v1 H2 ⟨e1, e2⟩ => by subst e1 e2; exact ih hk
   have nodef : ∀ {x : Op}, o.op = x → (∀ c, x ≠ .defer c) → rdv = none ∨ ∀ c, o.op ≠ .defer c := fun e q => .inr fun c => by rw [e]; exact q c
   cases ri with
   | call c ord =>
    obtain ⟨hop, hnb⟩ := low_call hri
    simp only [wRIM] at hk
    split at hk <;> first | exact hk.elim | skip
    rename_i t vs ht
    obtain ⟨Q, hc | hc, hq⟩ := hk
    ·exact call_on hlo hrel hF hn hr hS hput ho hwr (aOp_call hnb hop hS ht) hc fun v H1 q => ih (hq v H1 q)
    ·obtain ⟨⟨t', args', hrun, ht', ha'⟩, _⟩ := aOp_R hrel hlo hF.T (aOp_call (lo := lo) (H := H) hnb hop hS ht)
     obtain ⟨v, H1, r1, w1, v', hqv, hpost, hv, hi⟩ := hc r base w t' args' hlo hrel ht' ha'
     exact go_on hlo hF hn hr hS hput hpost hv (Steps.one (mv_value ho hwr (nodef hop (fun c e => by cases e)) (hrun.trans hi))) (ih (hq v H1 hqv))
   | rng x =>
    obtain ⟨t, kt, et, hop, hu⟩ := low_rng hri
    simp only [wRIM] at hk
    have fin : ∀ (v : Value) (ob : Ob), evS S x = some v → ((v = .map none ∧ ob = .it none 0 #[] 0) ∨ ∃ m es c, v = .map (some m) ∧ H.t.get m = some (.mp es c) ∧ ob = .it (some m) c #[] c) →
      Q (putS S o.dst (ptr H.next)) (H.new ob) → ∃ e S' H' T', K e S' H' ∧ Knows S' T' ∧ Ends P lo base r H w (lone (mkF A.fn tmps (.inRegion ops (i :: rest) :: k) ds .normal rdv) cs w) .normal rdv (fun _ => cs) k A e { A with T := T' } H' none := by
     intro v ob hx hob hk
     obtain ⟨r1, v1, w1, hrun, hv1, hpost⟩ := rangeMap_R (lo := lo) hrel hlo hu (evR hF.T (ev_of hS hx)) hob
     refine go_on hlo hF hn hr hS hput hpost hv1 (Steps.one (mv_value ho hwr (nodef hop (fun c e => by cases e)) ?_)) (ih hk)
     unfold execOp; rw [hop]
     first | (simp only [Sem.run_bind, hrun, Result.andThen_ok, Sem.run_pure]; done) | (show (Instr.range t (evT tmps x) >>= fun v => pure (Next.value v)).run P w = _; rw [Sem.run_bind, hrun]; rfl)
    split at hk <;> first | exact hk.elim | skip
    ·rename_i hx
     exact fin _ _ hx (.inl ⟨rfl, rfl⟩) (hk _ rfl)
    ·rename_i m hx
     obtain ⟨es, c, hg, hk⟩ := hk
     exact fin _ _ hx (.inr ⟨m, es, c, rfl, hg, rfl⟩) (hk _ rfl)
   | nxt x =>
    have hop := low_nxt hri
    simp only [wRIM] at hk
    split at hk <;> first | exact hk.elim | skip
    rename_i b hx
    have hv := evR hF.T (ev_of hS hx)
    have ex : ∀ {v1 : Value} {w1 : World}, (Instr.next (evT tmps x) false o.type).run P w = .ok v1 w1 → (execOp (evT tmps) o).run P w = .ok (.value v1) w1 := fun hrun => by
     unfold execOp; rw [hop]
     first | (simp only [Sem.run_bind, hrun, Result.andThen_ok, Sem.run_pure]; done) | (show (Instr.next (evT tmps x) false o.type >>= fun v => pure (Next.value v)).run P w = _; rw [Sem.run_bind, hrun]; rfl)
    rcases hk with ⟨sn, se, la, hb, hk⟩ | ⟨m, sn, se, la, es, c, hb, hm, hfl, hsc, hlb, hk0, hk1⟩
    ·exact go_on hlo hF hn hr hS hput (Post.refl hrel) (flatT_vr (v := .tuple #[.bool false]) rfl) (Steps.one (mv_value ho hwr (nodef hop (fun c e => by cases e)) (ex (next_none hrel hv hb _)))) (ih hk)
    ·rcases next_R (lo := lo) hrel hv hb hm (fun e he => (hfl e he).1) hsc hlb o.type with ⟨h0, hrun⟩ | ⟨e, he, w1, hrun, hpost⟩
     ·exact go_on hlo hF hn hr hS hput (Post.refl hrel) (flatT_vr (v := .tuple #[.bool false]) rfl) (Steps.one (mv_value ho hwr (nodef hop (fun c e => by cases e)) (ex hrun))) (ih (hk0 h0))
     ·have hfe := hfl e (mem_left he).1
      have hff : flatT (.tuple #[.bool true, e.key, e.val]) = true := by
       show (flat (.bool true) && (flat e.key && (flat e.val && true))) = true
       rw [hfe.2.1, hfe.2.2]
       rfl
      exact go_on hlo hF hn hr hS hput hpost (flatT_vr hff) (Steps.one (mv_value ho hwr (nodef hop (fun c e => by cases e)) (ex hrun))) (ih (hk1 e he _ rfl))
   | ent x =>
    have hop := low_ent hri
    simp only [wRIM] at hk
    split at hk <;> first | exact hk.elim | skip
    rename_i b hx
    have hv := evR hF.T (ev_of hS hx)
    obtain ⟨m, sn, se, la, es, e, hb, hm, he, hnd, hf1, hf2, hk⟩ := hk
    have hrun := entry_R hrel hv hb hm he hnd
    refine go_on hlo hF hn hr hS hput (Post.refl hrel) (flatT_vr (v := .tuple #[e.key, e.val]) (by simp [flatT, hf1, hf2])) (Steps.one (mv_value ho hwr (nodef hop (fun c e => by cases e)) ?_)) (ih hk)
    unfold execOp; rw [hop]
    first | (simp only [Sem.run_bind, hrun, Result.andThen_ok, Sem.run_pure]; done) | (show (Instr.entry (evT tmps x) >>= fun v => pure (Next.value v)).run P w = _; rw [Sem.run_bind, hrun]; rfl)
   | mem o0 =>
    simp only [wRIM] at hk
    rcases hk with hk | hk
    ·exact gen hk
    ·have := low_mem hri
     subst this
     have hex : ∀ {x : Op}, (clean o).op = x → o.op = x := fun e => e
     unfold wMqL at hk
     split at hk <;> first | exact hk.elim | skip
     ·rename_i t hop
      have hop := hex hop
      have hpost : Post P lo base r H w (r.add H.next ⟨w.heap.size, 0, none⟩) (H.new (.mq #[] 0)) { w with heap := w.heap.push (.map #[] 0) } := Post.fresh hrel hlo rfl ⟨rfl, rfl, rfl⟩ ⟨#[], rfl, True.intro⟩
      refine go_on hlo hF hn hr hS hput hpost (.mapv (Ren.add_same r H.next _)) (Steps.one (mv_value ho hwr (nodef hop (fun c e => by cases e)) ?_)) (ih hk)
      unfold execOp; rw [hop]
      rfl
     ·rename_i t x y hop
      have hop := hex hop
      obtain ⟨α, dec, enc, kt, et, a, L, b, c, z, k1, k2, k3, k4, k5, k6, k7, hk⟩ := hk
      obtain ⟨v', hrun, hv⟩ := mq_look hrel k1 k2 k3 k4 k7 (evR hF.T (ev_of hS k5)) (evR hF.T (ev_of hS k6))
      refine go_on hlo hF hn hr hS hput (Post.refl hrel) hv (Steps.one (mv_value ho hwr (nodef hop (fun c e => by cases e)) ?_)) (ih hk)
      unfold execOp; rw [hop]
      first | (simp only [Sem.run_bind, hrun, Result.andThen_ok, Sem.run_pure]; done) | (show (Instr.lookup t (evT tmps x) (evT tmps y) false >>= fun v => pure (Next.value v)).run P w = _; rw [Sem.run_bind, hrun]; rfl)
     ·rename_i t x y hop
      have hop := hex hop
      obtain ⟨α, dec, enc, kt, et, a, L, b, c, z, k1, k2, k3, k4, k5, k6, k7, k8, hk⟩ := hk
      obtain ⟨v', w', hrun, hv, hpost⟩ := mq_entry hrel k1 k2 k3 k4 k7 k8 (evR hF.T (ev_of hS k5)) (evR hF.T (ev_of hS k6))
      refine go_on hlo hF hn hr hS hput hpost hv (Steps.one (mv_value ho hwr (nodef hop (fun c e => by cases e)) ?_)) (ih hk)
      unfold execOp; rw [hop]
      first | (simp only [Sem.run_bind, hrun, Result.andThen_ok, Sem.run_pure]; done) | (show (Instr.mapEntry t (evT tmps x) (evT tmps y) >>= fun v => pure (Next.value v)).run P w = _; rw [Sem.run_bind, hrun]; rfl)
   | mst o0 =>
    simp only [wRIM] at hk
    rcases hk with hk | hk
    ·exact gen hk
    ·have := low_mst hri
     subst this
     have hex : ∀ {x : Op}, (clean o).op = x → o.op = x := fun e => e
     unfold wMqS at hk
     split at hk <;> first | exact hk.elim | skip
     rename_i t x y u hop
     have hop := hex hop
     obtain ⟨α, dec, enc, L, b, c, st, v, k1, k2, k3, k4, k5, k6, hk⟩ := hk
     obtain ⟨w', hrun, hpost⟩ := mq_store (tm := t) hrel k4 k5 k6 (evR hF.T (ev_of hS k1)) (evR hF.T (ev_of hS k2)) (evR hF.T (ev_of hS k3))
     refine go_on hlo hF hn hr hS hput hpost (undef_R r) (Steps.one (mv_skipped ho hwr (nodef hop (fun c e => by cases e)) ?_)) (ih hk)
     unfold execOp; rw [hop]
     first | (simp only [Sem.run_bind, hrun, Result.andThen_ok, Sem.run_pure]; done) | (show (Instr.entryStore t (evT tmps x) (evT tmps y) (evT tmps u) >>= fun _ => pure Next.none).run P w = _; rw [Sem.run_bind, hrun]; rfl)
   | _ => exact gen hk
theorem wOpsM_sound (s : Snd P kn) {ops : Array Oper} : ∀ (rest pre : List Oper) {rl : List RO} {S : Rg} {H : Hp} {K : Exit → Rg → Hp → Prop}, ops.toList = pre ++ rest → lowROs P n ops.toList (fun _ => true) rest pre.length = some rl → wOpsM P kn lo n rl S H (fun S' H' => K .normal S' H') →
  OpsM P lo n rd ops (List.range' pre.length rest.length) S H K
 | [], pre, rl, S, H, K, he, hl, h => by
  simp only [lowROs] at hl; cases hl
  exact OpsM.nil h
 | o :: rest, pre, rl, S, H, K, he, hl, h => by
  simp only [lowROs] at hl
  split at hl <;> first | (cases hl; done) | skip
  rename_i ro hro
  split at hl <;> first | (cases hl; done) | skip
  rename_i l hrest
  cases hl
  simp only [wOpsM] at h
  have he2 : ops.toList = (pre ++ [o]) ++ rest := by rw [he]; simp
  have ho : ops[pre.length]? = some o := by
   have : ops.toList[pre.length]? = some o := by rw [he]; simp
   simpa using this
  have ih := fun {S' : Rg} {H' : Hp} (h' : wOpsM P kn lo n l S' H' fun S' H' => K .normal S' H') => wOpsM_sound s rest (pre ++ [o]) (rl := l) he2 (by simpa using hrest) h'
  simp only [List.length_append, List.length_singleton] at ih
  exact wROM_step s ho hro h ih
theorem lowROs_get {P : Program} {n : Nat} {ops : List Oper} {ord : Nat → Bool} : ∀ (l : List Oper) (k : Nat) {rl : List RO}, lowROs P n ops ord l k = some rl → rl.length = l.length ∧ ∀ i o, l[i]? = some o → ∃ ro, rl[i]? = some ro ∧ lowRO P n ops (ord (k + i)) o = some ro
 | [], _, rl, h => by simp only [lowROs] at h; cases h; exact ⟨rfl, fun i o e => by simp at e⟩
 | x :: l, k, rl, h => by
  simp only [lowROs] at h
  split at h <;> first | (cases h; done) | skip
  rename_i ro hro
  split at h <;> first | (cases h; done) | skip
  rename_i q hq
  cases h
  obtain ⟨a, b⟩ := lowROs_get l (k + 1) hq
  refine ⟨by simp [a], fun i o e => ?_⟩
  cases i with
  | zero => simp at e; subst e; exact ⟨ro, rfl, hro⟩
  | succ i =>
   obtain ⟨r', c, d⟩ := b i o (by simpa using e)
   exact ⟨r', by simpa using c, by rw [show k + (i + 1) = k + 1 + i by omega]; exact d⟩
theorem wDIs_get {P : Program} {kn : Kn} {lo n : Nat} {ops : List RO} {V : Nat → Value} {HP : (Nat → Bool) → Hp → Prop} {S : Rg} {ms : List Nat} : ∀ (l : List RO) (k : Nat), wDIs P kn lo n ops V HP S ms l k → ∀ i o, l[i]? = some o → wDI1 P kn lo n ops V HP S (k + i) (ms.getD (ops.length - 1 - (k + i)) 0) o
 | [], _, _, i, o, e => by simp at e
 | x :: l, k, h, i, o, e => by
  cases i with
  | zero => simp at e; subst e; exact h.1
  | succ i => rw [show k + (i + 1) = k + 1 + i by omega]; exact wDIs_get l (k + 1) h.2 i o (by simpa using e)
theorem endS_of {V : Nat → Value} {S' : Rg} : ∀ (l : List RO) (k : Nat) (S : Rg), (l.filterMap (·.dst)).Nodup → (∀ i o d, l[i]? = some o → o.dst = some d → lk S' d = some (V (k + i))) → (∀ j v, lk S j = some v → (∀ o ∈ l, o.dst ≠ some j) → lk S' j = some v) → ∀ j v, lk (endS V l k S) j = some v → lk S' j = some v
 | [], k, S, _, _, h2, j, v, h => h2 j v h (fun o ho => by cases ho)
 | o :: l, k, S, hn, h1, h2, j, v, h => by
  simp only [endS] at h
  have hn' : (l.filterMap (·.dst)).Nodup := by
   rw [List.filterMap_cons] at hn
   split at hn
   ·exact hn
   ·exact (List.nodup_cons.1 hn).2
  refine endS_of l (k + 1) _ hn' (fun i o' d e1 e2 => by rw [show k + 1 + i = k + (i + 1) by omega]; exact h1 (i + 1) o' d (by simpa using e1) e2) (fun j v e q => ?_) j v h
  cases hd : o.dst with
  | none =>
   rw [hd] at e
   exact h2 j v e fun o' ho' => by
    rcases List.mem_cons.1 ho' with rfl | ho'
    ·rw [hd]; simp
    ·exact q o' ho'
  | some d =>
   rw [hd] at e
   simp only [putS, lk, beq_eq] at e
   by_cases hdj : d = j
   ·subst hdj
    simp only [decide_true, cond_true, Option.some.injEq] at e
    subst e
    exact h1 0 o d rfl hd
   ·rw [decide_eq_false hdj] at e
    exact h2 j v e fun o' ho' => by
     rcases List.mem_cons.1 ho' with rfl | ho'
     ·rw [hd]; simpa using hdj
     ·exact q o' ho'
theorem filterMap_nodup_inj {l : List RO} (h : (l.filterMap (·.dst)).Nodup) : ∀ (i j : Nat) oi oj d, l[i]? = some oi → l[j]? = some oj → oi.dst = some d → oj.dst = some d → i = j := by
 induction l with
 | nil => intro i j oi oj d e; simp at e
 | cons a l ih =>
  rw [List.filterMap_cons] at h
  have hmem : ∀ (j : Nat) oj d, l[j]? = some oj → oj.dst = some d → d ∈ l.filterMap (·.dst) := fun j oj d e hd => List.mem_filterMap.2 ⟨oj, List.mem_of_getElem? e, hd⟩
  intro i j oi oj d ei ej hi hj
  cases i with
  | zero =>
   cases j with
   | zero => rfl
   | succ j =>
    simp at ei ej; subst ei
    rw [hi] at h
    exact absurd (hmem j oj d ej hj) (List.nodup_cons.1 h).1
  | succ i =>
   cases j with
   | zero =>
    simp at ei ej; subst ej
    rw [hj] at h
    exact absurd (hmem i oi d ei hi) (List.nodup_cons.1 h).1
   | succ j =>
    simp at ei ej
    have h' : (l.filterMap (·.dst)).Nodup := by
     split at h
     ·exact h
     ·exact (List.nodup_cons.1 h).2
    exact congrArg (· + 1) (ih h' i j oi oj d ei ej hi hj)
theorem wDI_sound (s : Snd P kn) {id : Nat} {ops : Array Oper} {ord : Nat → Bool} {rl : List RO} {S : Rg} {H : Hp} {K : Exit → Rg → Hp → Prop} (hreg : regOk ops = true) (hl : lowROs P n ops.toList ord ops.toList 0 = some rl) (h : wDI P kn lo n (ancR ops.toList 0 []) rl S H fun S' H' => K .normal S' H') :
  TriM P lo n rd (.region id ops true) S H K := by
 obtain ⟨V, HP, hnd, h0, hops, hend⟩ := h
 obtain ⟨hlen, hget⟩ := lowROs_get ops.toList 0 hl
 have hlen : rl.length = ops.size := by simpa using hlen
 have hR := regOk_spec hreg
 have key : ∀ (fuel t : Nat) (L : Array Bool) (S' : Rg) (H' : Hp), L.size = ops.size → todo ops L ≤ fuel → (∀ (i : Nat) o, ops[i]? = some o → Done L i → ∀ e ∈ o.after, Region.binds .any e = true → Done L e.on) → HP (fun i => L.getD i false) H' → KD rl V (fun i => L.getD i false) S S' →
   OpsM P lo n rd ops (Region.linearise.go .any ops fuel t L []) S' H' K := by
  have fin : ∀ (L : Array Bool) (S' : Rg) (H' : Hp), (∀ i, i < ops.size → Done L i) → HP (fun i => L.getD i false) H' → KD rl V (fun i => L.getD i false) S S' → OpsM P lo n rd ops [] S' H' K := by
   intro L S' H' hall hHP hKD
   have hk := hend _ H' (fun i hi => hall i (by rw [← hlen]; exact hi)) hHP
   have hsub := endS_of (V := V) (S' := S') rl 0 S hnd (fun i o d e1 e2 => by
    have hi : i < rl.length := by
     rcases Nat.lt_or_ge i rl.length with q | q
     ·exact q
     ·rw [List.getElem?_eq_none q] at e1; cases e1
    rw [Nat.zero_add]
    exact hKD.1 i o d e1 e2 (hall i (by rw [← hlen]; exact hi))) hKD.2
   exact fun base r w A tmps ds rdv cs k hlo hrel hF hn hr hS => OpsM.nil hk base r w A tmps ds rdv cs k hlo hrel hF hn hr fun j v e => hS j v (hsub j v e)
  intro fuel
  induction fuel with
  | zero =>
   intro t L S' H' hL hf hcl hHP hKD
   simp only [Region.linearise.go, List.reverse_nil]
   exact fin L S' H' (todo_zero (by omega)) hHP hKD
  | succ fuel ih =>
   intro t L S' H' hL hf hcl hHP hKD
   have hgo : Region.linearise.go .any ops (fuel + 1) t L [] = match (Region.ready .any ops L)[t % (Region.ready .any ops L).length]? with
    | some i => Region.linearise.go .any ops fuel (t / (Region.ready .any ops L).length) (L.setIfInBounds i true) [i]
    | none => [] := by
    simp only [Region.linearise.go]
    rfl
   cases hi : (Region.ready .any ops L)[t % (Region.ready .any ops L).length]? with
   | none =>
    have hnil : Region.ready .any ops L = [] := by
     cases hr : Region.ready .any ops L with
     | nil => rfl
     | cons x xs =>
      rw [hr] at hi
      have hlt : t % (x :: xs).length < (x :: xs).length := Nat.mod_lt _ (by simp)
      rw [List.getElem?_eq_getElem hlt] at hi
      cases hi
    rw [hgo, hi]
    exact fin L S' H' (none_ready hR hL hnil) hHP hKD
   | some i =>
    have hmem := List.mem_of_getElem? hi
    obtain ⟨hlt, hun, o, ho, hr⟩ := ready_iff.1 hmem
    have hLi : i < L.size := by rw [hL]; exact hlt
    have hunD : L.getD i false = false := by
     have : L[i]? = some (L[i]'hLi) := Array.getElem?_eq_getElem hLi
     simp only [Array.getD_eq_getD_getElem?, this, Option.getD_some] at hun ⊢
     exact hun
    have hun' : ¬ Done L i := by unfold Done; rw [hunD]; simp
    rw [hgo, hi]
    simp only
    rw [linearise_go_acc, List.reverse_singleton, List.singleton_append]
    obtain ⟨ro, hrl, hro⟩ := hget i o (by simpa using ho)
    have hanc : ∀ j, Anc ops i j → Done L j := by
     have cl : ∀ {a b}, Anc ops a b → Done L a → Done L b := by
      intro a b ha
      induction ha with
      | edge ho he hb => exact fun hj => hcl _ _ ho hj _ he hb
      | more ho he hb _ ih => exact fun hj => ih (hcl _ _ ho hj _ he hb)
     intro j ha
     cases ha with
     | edge ho' he hb => rw [ho] at ho'; cases ho'; exact hr _ he hb
     | more ho' he hb ha => rw [ho] at ho'; cases ho'; exact cl ha (hr _ he hb)
    have hm := ancR_all ops
    have h1 := wDIs_get rl 0 hops i ro hrl
    rw [Nat.zero_add, hlen] at h1
    have hmask : ∀ j, ((ancR ops.toList 0 []).getD (ops.size - 1 - i) 0).testBit j = true → L.getD j false = true := by
     intro j hj
     have hlt' : ops.size - 1 - i < (ancR ops.toList 0 []).length := by rw [hm.1]; omega
     have hg := List.getElem?_eq_getElem hlt'
     rw [List.getD_eq_getElem?_getD, hg, Option.getD_some] at hj
     exact hanc j (hm.2 i _ hlt hg j hj)
    refine wROM_step s ho hro (h1 _ S' H' hunD hmask hHP hKD) fun {S2 H2} q => ?_
    obtain ⟨rfl, hHP2⟩ := q
    have hset : (fun j => (L.setIfInBounds i true).getD j false) = also (fun j => L.getD j false) i := by
     funext j
     unfold also
     by_cases e : j = i
     ·subst e
      rw [Nat.beq_refl, cond_true]
      exact (done_set hLi).2 (.inl rfl)
     ·have : Nat.beq j i = false := by
       cases hb : Nat.beq j i with
       | false => rfl
       | true => exact absurd (Nat.eq_of_beq_eq_true hb) e
      rw [this, cond_false]
      simp only [Array.getD_eq_getD_getElem?, Array.getElem?_setIfInBounds]
      rw [if_neg (fun q => e q.symm)]
    refine ih _ _ _ _ (by simp [hL]) (by have := todo_set hLi hlt hun'; omega) ?_ (by rw [hset]; exact hHP2) ?_
    ·intro j oj hoj hdj e he hb
     rcases (done_set hLi).1 hdj with rfl | hdj
     ·rw [ho] at hoj; cases hoj
      exact (done_set hLi).2 (.inr (hr _ he hb))
     ·exact (done_set hLi).2 (.inr (hcl _ _ hoj hdj _ he hb))
    ·rw [hset]
     refine ⟨fun j oj d e1 e2 e3 => ?_, fun j v e q => ?_⟩
     ·by_cases e : j = i
      ·subst e
       rw [hrl] at e1; cases e1
       rw [e2]
       simp only [putS, lk, Nat.beq_refl, cond_true]
      ·have hd : L.getD j false = true := by
        unfold also at e3
        have : Nat.beq j i = false := by
         cases hb : Nat.beq j i with
         | false => rfl
         | true => exact absurd (Nat.eq_of_beq_eq_true hb) e
        rw [this, cond_false] at e3
        exact e3
       cases hod : ro.dst with
       | none => exact hKD.1 j oj d e1 e2 hd
       | some d' =>
        have hne : d' ≠ d := fun q => e (filterMap_nodup_inj hnd j i oj ro d e1 hrl e2 (by rw [hod, q]))
        have hb : Nat.beq d' d = false := by
         cases hb : Nat.beq d' d with
         | false => rfl
         | true => exact absurd (Nat.eq_of_beq_eq_true hb) hne
        simp only [putS, lk, hb, cond_false]
        exact hKD.1 j oj d e1 e2 hd
     ·cases hod : ro.dst with
      | none => exact hKD.2 j v e q
      | some d' =>
       have hne : d' ≠ j := fun x => q ro (List.mem_of_getElem? hrl) (by rw [hod, x])
       have hb : Nat.beq d' j = false := by
        cases hb : Nat.beq d' j with
        | false => rfl
        | true => exact absurd (Nat.eq_of_beq_eq_true hb) hne
       simp only [putS, lk, hb, cond_false]
       exact hKD.2 j v e q
 intro base r w A tmps ds rdv cs k hlo hrel hF hn hr hS
 have hst := key ops.size (w.tape w.drawn (.order A.fn id)) (Array.replicate ops.size false) S H (by simp) (by
  unfold todo; have := List.countP_le_length (p := fun i => !(Array.replicate ops.size false).getD i false) (l := List.range ops.size); simpa using this)
  (fun i o ho hd => by unfold Done at hd; simp [Array.getD_eq_getD_getElem?, Array.getElem?_replicate] at hd; split at hd <;> simp at hd)
  (by
   have : (fun i => (Array.replicate ops.size false).getD i false) = fun _ => false := by
    funext i
    simp only [Array.getD_eq_getD_getElem?, Array.getElem?_replicate]
    split <;> rfl
   rw [this]; exact h0)
  ⟨fun i o d _ _ hd => by simp [Array.getD_eq_getD_getElem?, Array.getElem?_replicate] at hd; split at hd <;> simp at hd, fun j v e _ => e⟩
 have hrel' : Rel P r base H { w with drawn := w.drawn + 1 } := ⟨hrel.dom, hrel.cont, hrel.inj, hrel.top⟩
 have hp0 : Post P lo base r H w r H { w with drawn := w.drawn + 1 } := ⟨.refl r, hrel', Nat.le_refl _, fun _ _ e => .inl e, fun k hk q => rfl, fun _ _ => rfl, ⟨rfl, rfl, rfl, Nat.le_refl _⟩⟩
 obtain ⟨e, S1, H1, T1, a, b, q⟩ := hst base r { w with drawn := w.drawn + 1 } A tmps ds rdv cs k hlo hrel' hF hn hr hS
 refine ⟨e, S1, H1, T1, a, b, Ends.of_steps (Steps.one mv_draw) ?_⟩
 simp only [Region.schedule, s.hm, Bool.true_or, if_true]
 exact Ends.after hlo hp0 (Same.refl A) q
theorem wCM_sound (s : Snd P kn) : ∀ (c : Code) {rc : RC} {S : Rg} {H : Hp} {K : Exit → Rg → Hp → Prop}, low P n c = some rc → wCM P kn lo n rd rc S H K → TriM P lo n rd c S H K
 | .skip, rc, S, H, K, hl, h => by simp only [low] at hl; cases hl; exact TriM.skip h
 | .label l, rc, S, H, K, hl, h => by simp only [low] at hl; cases hl; exact TriM.label h
 | .exit id, rc, S, H, K, hl, h => by simp only [low] at hl; cases hl; exact TriM.exit h
 | .ret, rc, S, H, K, hl, h => by simp only [low] at hl; cases hl; exact TriM.ret h
 | .seq x y, rc, S, H, K, hl, h => by
  simp only [low] at hl
  split at hl <;> first | (cases hl; done) | skip
  rename_i a ha
  split at hl <;> first | (cases hl; done) | skip
  rename_i b hb
  cases hl
  simp only [wCM] at h
  refine TriM.seq ((wCM_sound s x ha h).mono fun e S' H' q => ?_)
  cases e with
  | normal => exact wCM_sound s y hb q
  | _ => exact q
 | .cond o x y, rc, S, H, K, hl, h => by
  simp only [low] at hl
  split at hl <;> first | (cases hl; done) | skip
  rename_i a ha
  split at hl <;> first | (cases hl; done) | skip
  rename_i b hb
  cases hl
  simp only [wCM] at h
  split at h <;> first | exact h.elim | skip
  rename_i t ht
  cases t with
  | true => exact TriM.cond ht (wCM_sound s x ha (h.1 rfl))
  | false => exact TriM.cond ht (wCM_sound s y hb (h.2 rfl))
 | .block id b, rc, S, H, K, hl, h => by
  simp only [low] at hl
  split at hl <;> first | (cases hl; done) | skip
  rename_i a ha
  cases hl
  simp only [wCM] at h
  exact TriM.block (wCM_sound s b ha h)
 | .region id ops draw, rc, S, H, K, hl, h => by
  cases draw with
  | true =>
   have hl0 := hl
   simp only [low] at hl
   simp only [cond_true] at hl
   obtain ⟨hreg, hl⟩ := bif_some hl
   split at hl <;> first | (cases hl; done) | skip
   rename_i l hro
   cases hl
   simp only [wCM] at h
   rcases h with h | h | h
   ·exact TriM.of s (wC_sound rd (.region id ops true) hl0 (by simp only [wC]; exact .inl h))
   ·exact TriM.of s (wC_sound rd (.region id ops true) hl0 (by simp only [wC]; exact .inr h))
   ·exact wDI_sound s hreg hro h
  | false =>
   simp only [low] at hl
   simp only [cond_false] at hl
   split at hl <;> first | (cases hl; done) | skip
   rename_i l hro
   cases hl
   simp only [wCM] at h
   refine TriM.region ?_
   have := wOpsM_sound (rd := rd) s (ops := ops) ops.toList [] (by simp) hro h
   simpa [List.range_eq_range'] using this
 | .loop b, rc, S, H, K, hl, h => by simp only [low] at hl; cases hl; exact h
 | .rangeFunc fo ps a b, rc, S, H, K, hl, h => by simp only [low] at hl; cases hl; exact h
 | .scope b, rc, S, H, K, hl, h => by
  simp only [low] at hl
  split at hl <;> first | (cases hl; done) | skip
  rename_i a ha
  cases hl
  simp only [wCM] at h
  exact TriM.scope (wCM_sound s b ha h)
 | .goto l, rc, S, H, K, hl, h => by simp only [low] at hl; cases hl
 | .refuse w, rc, S, H, K, hl, h => by simp only [low] at hl; cases hl
theorem loopM_low {α : Type} {c b : Code} {fn : Func} {n : Nat} {R : RC} {rd : Bool} {S : Rg} {H : Hp} {K : Exit → Rg → Hp → Prop} (s : Snd P kn) (hc : c = .loop b) (hn : fn.ntmps = n) (hL : low P fn.ntmps b = some R) (SS : α → Rg) (I : Nat → α → Hp → Prop)
  (k : Nat) (a : α) (hI : I k a H) (hS : Subs (SS a) S)
  (hb : ∀ k a H, I k a H → wCM P kn lo n rd R (SS a) H fun e S' H' => match e with | .normal => ∃ k' a', k' < k ∧ I k' a' H' ∧ Subs (SS a') S' | e => K e S' H') :
  TriM P lo n rd c S H K := by
 subst hc hn
 refine TriM.loop (fun k S H => ∃ a, I k a H ∧ Subs (SS a) S) (fun k S H q => ?_) k S H ⟨a, hI, hS⟩
 obtain ⟨a, q, hs⟩ := q
 refine TriM.forget ((wCM_sound s _ hL (hb k a H q)).mono fun e S' H' r => ?_) hs.get
 cases e with
 | normal => obtain ⟨k', a', x, y, z⟩ := r; exact ⟨k', x, a', y, z⟩
 | _ => exact r
def FnM (P : Program) (lo : Nat) (f : FuncId) (args : List Value) (H : Hp) (Q : Value → Hp → Prop) : Prop :=
 (∃ fn c, P.funcs[f]? = some fn ∧ fn.body = some c) ∧ ∀ (r : Ren) (base : Nat) (w : World) (args' : Array Value), lo ≤ H.next → Rel P r base H w → LR r args args'.toList →
  ∀ c rest, ∃ v H' r' w', Q v H' ∧ Post P lo base r H w r' H' w' ∧ ∃ v', VR r' v v' ∧ Steps P (lone (Frame.enter P f args' .normal) (c :: rest) w) (lone (c.finish v') rest w')
theorem fnM_of_tri {f : FuncId} {fn : Func} {c : Code} {args : List Value} {H : Hp} {Q : Value → Hp → Prop} (hf : P.funcs[f]? = some fn) (hc : fn.body = some c) (hl : args.length ≤ fn.ntmps)
  (h : TriM P lo fn.ntmps false c (argS args 0) H fun e S' H' => (match e with | .normal => True | .ret => True | _ => False) ∧ ∃ vs, resS P S' H' fn.results.toList = some vs ∧ Q (retV vs) H') : FnM P lo f args H Q := by
 refine ⟨⟨fn, c, hf, hc⟩, fun r base w args' hlo hrel hargs c0 rest => ?_⟩
 have hent : Frame.enter P f args' .normal = mkF f (args' ++ Array.replicate (fn.ntmps - args'.size) undef) [.code c] [] .normal none := by
  simp [Frame.enter, mkF, hf, hc]
 have hT := enter_tmps hargs fn.ntmps hl
 obtain ⟨e, S1, H1, T1, ⟨he, vs, hres, hq⟩, hk, r1, w1, tm, ds, pc1, hpost, hF, hS, hp1, hArr, _⟩ := h base r w { fn := f, n := fn.ntmps, T := trOf args 0 .nil, defers := [], round := none } _ [] none (c0 :: rest) [] hlo hrel ⟨hT, .nil, rfl⟩ rfl rfl (knows_args args)
 simp only at hArr
 rw [← hent] at hArr
 have hu : unwindV P lo (fun _ _ _ _ => none) fn 1 { fn := f, n := fn.ntmps, T := T1, defers := [], round := none } H1 none = some (.ret (retV vs), H1) := by
  rw [unwindV]
  simp only [res_of (A := { fn := f, n := fn.ntmps, T := T1, defers := [], round := none }) hk hres]
  match vs with
  | [] => rfl
  | [v] => rfl
  | v :: u :: r => rfl
 have hD : DefN P lo (fun _ _ _ _ => none) := fun f cap args H p e H' p' h => by cases h
 have fin : ∀ (todo : List Item), Steps P (lone (Frame.enter P f args' .normal) (c0 :: rest) w) (lone { mkF f tm todo ds .normal none with mode := .returning } (c0 :: rest) w1) → ∃ v H' r' w', Q v H' ∧ Post P lo base r H w r' H' w' ∧ ∃ v', VR r' v v' ∧ Steps P (lone (Frame.enter P f args' .normal) (c0 :: rest) w) (lone (c0.finish v') rest w') := by
  intro todo hs
  obtain ⟨r', w', fr', q1, q2, q3, q4, q5⟩ := unwind_R hD hf 1 r1 w1 _ H1 ds none none _ H1 hu (Nat.le_trans hlo hpost.next) hpost.rel hF.D rfl { mkF f tm todo ds .normal none with mode := .returning } (c0 :: rest) hF.T rfl rfl rfl
  obtain ⟨v', hv, ⟨a, b, d⟩⟩ := q5
  exact ⟨retV vs, H1, r', w', hq, hpost.trans hlo q1, v', hv, (hs.trans q4).trans (Steps.one (step_leave_returned ⟨a, b, by rw [q3]; rfl, d⟩))⟩
 cases e with
 | normal => exact fin [] (hArr.trans (Steps.one mv_end))
 | ret =>
  obtain ⟨kx, hs⟩ := hArr
  exact fin _ (hs.trans (Steps.one mv_ret))
 | _ => exact he.elim
theorem fnM_low {f : FuncId} {fn : Func} {R : RC} {n : Nat} {rs : List ResultVar} {args : List Value} {H : Hp} {Q : Value → Hp → Prop} (s : Snd P kn) (hf : P.funcs[f]? = some fn) (hb : fn.body = some (at_ fn [])) (hn : fn.ntmps = n) (hz : fn.results.toList = rs) (hL : low P fn.ntmps (at_ fn []) = some R) (hl : args.length ≤ n)
  (h : wCM P kn lo n false R (argS args 0) H fun e S' H' => (match e with | .normal => True | .ret => True | _ => False) ∧ ∃ vs, resS P S' H' rs = some vs ∧ Q (retV vs) H') : FnM P lo f args H Q := by
 subst hn hz
 exact fnM_of_tri hf hb hl (wCM_sound s _ hL h)
theorem FnM.of (s : Snd P kn) {f : FuncId} {args : List Value} {H : Hp} {v : Value} {H' : Hp} (hb : ∃ fn c, P.funcs[f]? = some fn ∧ fn.body = some c) (h : FnX P kn lo f args H v H') : FnM P lo f args H fun u H1 => u = v ∧ H1 = H' := by
 obtain ⟨N, h⟩ := h
 refine ⟨hb, fun r base w args' hlo hrel hargs c0 rest => ?_⟩
 obtain ⟨_, hback⟩ := fn_back (evCall_R s.hm s.hN s.hk N N).1 (evCall_old P kn N N).2 s.hm s.hN ((evCall_R s.hm s.hN s.hk N N).2 lo) (h N N (Nat.le_refl _) (Nat.le_refl _)) hlo hrel hargs
 obtain ⟨r', w', hp, v', hv, hs⟩ := hback c0 rest
 exact ⟨v, H', r', w', ⟨rfl, rfl⟩, hp, v', hv, hs⟩
theorem FnM.mono {f : FuncId} {args : List Value} {H : Hp} {Q Q' : Value → Hp → Prop} (h : FnM P lo f args H Q) (hq : ∀ v H', Q v H' → Q' v H') : FnM P lo f args H Q' :=
 ⟨h.1, fun r base w args' hlo hrel hargs c0 rest => by
  obtain ⟨v, H', r', w', q, x⟩ := h.2 r base w args' hlo hrel hargs c0 rest
  exact ⟨v, H', r', w', hq _ _ q, x⟩⟩
theorem callM_func (hN : NoCount P) {f : FuncId} {cap : Array Value} {args : List Value} {H : Hp} {Q : Value → Hp → Prop} (h : FnM P lo f (args ++ cap.toList) H Q) : CallM P lo (.fn (.func f) cap) args H Q := by
 obtain ⟨⟨fn, c, h1, h2⟩, h⟩ := h
 intro r base w t' args' hlo hrel ht ha
 obtain ⟨f', cap', rfl, hf, hcap⟩ := ht
 cases hf
 exact ⟨.enter f (args' ++ cap'), _, callFunc_R hN h1 h2 _ _, rfl, h r base w (args' ++ cap') hlo hrel (by simpa using LR.append ha hcap)⟩
theorem callM_args (hN : NoCount P) {f : FuncId} {args : List Value} {a : Value} {H : Hp} {Q : Value → Hp → Prop} (h : FnM P lo f (a :: args) H Q) : CallM P lo (.fn (.func f) #[]) (a :: args) H Q :=
 callM_func hN (by simpa using h)
theorem SpecN.of {f : FuncId} {args : List Value} {H : Hp} {v : Value} {H' : Hp} (h : FnM P lo f args H fun u H1 => u = v ∧ H1 = H') : SpecN P lo f args H v H' := by
 refine ⟨h.1, fun r base w args' hrel hargs hlo c0 rest => ?_⟩
 obtain ⟨u, H1, r', w', ⟨rfl, rfl⟩, hp, x⟩ := h.2 r base w args' hlo hrel hargs c0 rest
 exact ⟨r', w', hp, x⟩
end
end
end Go.Ax

/-! Steps of plain regions whose calls come to several ends (written by program, out of AxN). -/
namespace Go.Ax
open Go Go.RowKit
section
variable {P : Program} {kn : Kn} {lo n : Nat} {r : List RO} {S : Rg} {H : Hp} {K : Rg → Hp → Prop} {d : Option Nat} {x y : Operand} {rd : Bool} {a b : Int}
theorem wM_seq {ops : List RO} {c : RC} {K : Exit → Rg → Hp → Prop} (h : wOpsM P kn lo n ops S H fun S' H' => wCM P kn lo n rd c S' H' K) : wCM P kn lo n rd (.seq (.reg ops) c) S H K := h
theorem wM_reg {ops : List RO} {K : Exit → Rg → Hp → Prop} (h : wOpsM P kn lo n ops S H fun S' H' => K .normal S' H') : wCM P kn lo n rd (.reg ops) S H K := h
theorem wM_skip {K : Exit → Rg → Hp → Prop} (h : K .normal S H) : wCM P kn lo n rd .skip S H K := h
theorem wM_ret {K : Exit → Rg → Hp → Prop} (h : K .ret S H) : wCM P kn lo n rd .ret S H K := h
theorem wM_blk {id : Nat} {ops : List RO} {K : Exit → Rg → Hp → Prop} (h : wOpsM P kn lo n ops S H fun S' H' => K .normal S' H') : wCM P kn lo n rd (.block id (.reg ops)) S H K := h
theorem wM_bseq {id : Nat} {ops : List RO} {c : RC} {K : Exit → Rg → Hp → Prop} (h : wOpsM P kn lo n ops S H fun S' H' => wCM P kn lo n rd c S' H' K) : wCM P kn lo n rd (.seq (.block id (.reg ops)) c) S H K := h
theorem wM_exit {id : Nat} {K : Exit → Rg → Hp → Prop} (h : K (.exit id) S H) : wCM P kn lo n rd (.exit id) S H K := h
theorem wM_end (h : K S H) : wOpsM P kn lo n [] S H K := h
theorem wM_cond {o : Operand} {x y : RC} {t : Bool} {K : Exit → Rg → Hp → Prop} (ho : evS S o = some (.bool t)) (h1 : t = true → wCM P kn lo n rd x S H K) (h2 : t = false → wCM P kn lo n rd y S H K) : wCM P kn lo n rd (.cond o x y) S H K := by
 simp only [wCM, ho]; exact ⟨h1, h2⟩
theorem wM_call {c : Call} {t : Target} {vs : List Value} {ord : Bool} {Q : Value → Hp → Prop} (ht : targetS S c = some (t, vs)) (hc : CallM P lo t vs H Q) (h : ∀ v H', Q v H' → wOpsM P kn lo n r (putS S d v) H' K) : wOpsM P kn lo n (⟨d, none, .call c ord⟩ :: r) S H K := by
 simp only [wOpsM, wROM, wRIM, ht]; exact ⟨Q, .inl hc, h⟩
theorem wM_callf (s : Snd P kn) {c : Call} {t : Target} {vs : List Value} {ord : Bool} {v : Value} {H' : Hp} (ht : targetS S c = some (t, vs)) (hc : CallsX P kn lo t vs H v H') (h : wOpsM P kn lo n r (putS S d v) H' K) : wOpsM P kn lo n (⟨d, none, .call c ord⟩ :: r) S H K :=
 wM_call ht (CallM.of s hc) fun v1 H1 ⟨e1, e2⟩ => by subst e1 e2; exact h
theorem wM_box {e : TypeId} {v : Value} (hx : evS S x = some v) (h : ∀ H1, Keep H H1 [] → H1.next = H.next + 1 → Cl H1 H.next v.cells.toList → wOpsM P kn lo n r (putS S d (.pointer (some ⟨H.next, 0, none⟩))) H1 K) : wOpsM P kn lo n (⟨d, none, .box e x⟩ :: r) S H K := by
 simp only [wOpsM, wROM, wRIM, wRI, hx]
 intro H1 hH1
 obtain ⟨k1, n1, c1⟩ := new_facts hH1
 exact h H1 k1 n1 c1
theorem wM_mov {v : Value} (hx : evS S x = some v) (h : wOpsM P kn lo n r (putS S d v) H K) : wOpsM P kn lo n (⟨d, none, .mov x⟩ :: r) S H K := by
 show match evS S x with | some v => wOpsM P kn lo n r (putS S d v) H K | none => False
 rw [hx]; exact h
theorem wM_addo {b o off : Nat} (hx : evS S x = some (.pointer (some ⟨b, o, none⟩))) (h : wOpsM P kn lo n r (putS S d (.pointer (some ⟨b, o + off, none⟩))) H K) : wOpsM P kn lo n (⟨d, none, .addo x off⟩ :: r) S H K := by
 simp only [wOpsM, wROM, wRIM, wRI, hx]; exact h
theorem wM_ld {b o m : Nat} {cs : List Value} {v : Value} (hx : evS S x = some (.pointer (some ⟨b, o, none⟩))) (hc : Rd H b cs) (hv : cs[o]? = some v) (h : wOpsM P kn lo n r (putS S d v) H K) : wOpsM P kn lo n (⟨d, none, .ld x m⟩ :: r) S H K := by
 simp only [wOpsM, wROM, wRIM, wRI, hx]; exact ⟨cs, v, hc.of, hv, h⟩
theorem wM_pur {o : Oper} {v : Value} (hd : defd S o.op.operands.toList = true) (hv : pureOp P (frS n S) o = some v) (h : wOpsM P kn lo n r (putS S d v) H K) : wOpsM P kn lo n (⟨d, none, .pur o⟩ :: r) S H K := ⟨hd, v, hv, h⟩
theorem wM_sta {b o m : Nat} {cs : List Value} {v : Value} (hx : evS S x = some (.pointer (some ⟨b, o, none⟩))) (hy : evS S y = some v) (hc : Cl H b cs) (hl : lo ≤ b) (hm : v.cells.toList.length = m) (h1 : v.cells.toList.all one = true) (ho : o + m ≤ cs.length)
  (h : ∀ H1, Keep H H1 [b] → H1.next = H.next → Cl H1 b (putRow cs o v.cells.toList) → wOpsM P kn lo n r (putS S d undef) H1 K) : wOpsM P kn lo n (⟨d, none, .sta x y m⟩ :: r) S H K := by
 simp only [wOpsM, wROM, wRIM, wRI, hx, hy]
 obtain ⟨_, e, l, g⟩ := id hc
 exact ⟨cs, e, l, g, hl, hm, h1, ho, fun H1 hH1 => by obtain ⟨a, b, c⟩ := up_facts hc hH1; exact h H1 a b c⟩
theorem wM_lda {b o m : Nat} {cs q : List Value} (hx : evS S x = some (.pointer (some ⟨b, o, none⟩))) (hc : Rd H b cs) (hv : row m cs o = some q) (h : wOpsM P kn lo n r (putS S d (.agg q.toArray)) H K) : wOpsM P kn lo n (⟨d, none, .lda x m⟩ :: r) S H K := by
 simp only [wOpsM, wROM, wRIM, wRI, hx]; exact ⟨cs, q, hc.of, hv, h⟩
theorem wM_len {a : Option Addr} {m c : Nat} (hx : evS S x = some (.slice a m c)) (h : wOpsM P kn lo n r (putS S d (.int .i64 (m : Int))) H K) : wOpsM P kn lo n (⟨d, none, .len x⟩ :: r) S H K := by
 simp only [wOpsM, wROM, wRIM, wRI, hx]; exact h
theorem wM_rem {a b : Int} (hx : evS S x = some (.int .i64 a)) (hy : evS S y = some (.int .i64 b)) (h0 : 0 ≤ a) (h1 : 0 < b) (h2 : InR a) (h3 : InR b) (h : wOpsM P kn lo n r (putS S d (.int .i64 (a % b))) H K) : wOpsM P kn lo n (⟨d, none, .ari .rem x y⟩ :: r) S H K := by
 simp only [wOpsM, wROM, wRIM, wRI, hx, hy]; exact ⟨h0, h1, h2, h3, h⟩
theorem wM_add {a b : Int} (hx : evS S x = some (.int .i64 a)) (hy : evS S y = some (.int .i64 b)) (h2 : InR (a + b)) (h : wOpsM P kn lo n r (putS S d (.int .i64 (a + b))) H K) : wOpsM P kn lo n (⟨d, none, .ari .add x y⟩ :: r) S H K := by
 simp only [wOpsM, wROM, wRIM, wRI, hx, hy]; exact ⟨h2, h⟩
theorem wM_idx {b o len cap size k : Nat} {kd : IntKind} {j : Int} (hx : evS S x = some (.slice (some ⟨b, o, none⟩) len cap)) (hy : evS S y = some (.int kd j)) (hj : j = (k : Int)) (hk : k < len) (h : wOpsM P kn lo n r (putS S d (.pointer (some ⟨b, o + k * size, none⟩))) H K) : wOpsM P kn lo n (⟨d, none, .idx x y size⟩ :: r) S H K := by
 simp only [wOpsM, wROM, wRIM, wRI, hx, hy]; exact ⟨k, hj, hk, h⟩
theorem wM_sub {a b : Int} (hx : evS S x = some (.int .i64 a)) (hy : evS S y = some (.int .i64 b)) (h2 : InR (a - b)) (h : wOpsM P kn lo n r (putS S d (.int .i64 (a - b))) H K) : wOpsM P kn lo n (⟨d, none, .ari .sub x y⟩ :: r) S H K := by
 simp only [wOpsM, wROM, wRIM, wRI, hx, hy]; exact ⟨h2, h⟩
theorem wM_g {g : Nat} {t : Bool} {ri : RI} (hg : lk S g = some (.bool t)) (h : wOpsM P kn lo n (⟨d, none, ri⟩ :: r) S H K) : wOpsM P kn lo n (⟨d, some (g, t), ri⟩ :: r) S H K := by
 cases t <;> (simp only [wOpsM, wROM, hg] at h ⊢; exact h)
theorem wM_mm {small : Bool} {a b : Int} (hx : evS S x = some (.int .i64 a)) (hy : evS S y = some (.int .i64 b)) (h : wOpsM P kn lo n r (putS S d (.int .i64 (bif small then min a b else max a b))) H K) : wOpsM P kn lo n (⟨d, none, .mm small x y⟩ :: r) S H K := by
 simp only [wOpsM, wROM, wRIM, wRI, hx, hy]; exact h
theorem wM_st {b o : Nat} {cs : List Value} {v : Value} (hx : evS S x = some (.pointer (some ⟨b, o, none⟩))) (hy : evS S y = some v) (hc : Cl H b cs) (hl : lo ≤ b) (hv : v.cells.toList = [v]) (h1 : one v = true) (ho : o < cs.length)
  (h : ∀ H1, Keep H H1 [b] → H1.next = H.next → Cl H1 b (cs.set o v) → wOpsM P kn lo n r (putS S d undef) H1 K) : wOpsM P kn lo n (⟨d, none, .st x y⟩ :: r) S H K := by
 simp only [wOpsM, wROM, wRIM, wRI, hx, hy]
 obtain ⟨_, e, l, g⟩ := id hc
 exact ⟨cs, e, l, g, hl, hv, h1, ho, fun H1 hH1 => by obtain ⟨a, b, c⟩ := up_facts hc hH1; exact h H1 a b c⟩
theorem wM_gs {g : Nat} {t : Bool} {ri : RI} (hg : lk S g = some (.bool (!t))) (h : wOpsM P kn lo n r (putS S d undef) H K) : wOpsM P kn lo n (⟨d, some (g, t), ri⟩ :: r) S H K := by
 cases t <;> (simp only [wOpsM, wROM, hg, Bool.not_true, Bool.not_false, cond_true, cond_false] at h ⊢; exact h)
theorem wM_alc {e : TypeId} {z : List Value} (h : ∀ H1, Keep H H1 [] → H1.next = H.next + 1 → Cl H1 H.next z → wOpsM P kn lo n r (putS S d (.pointer (some ⟨H.next, 0, none⟩))) H1 K) : wOpsM P kn lo n (⟨d, none, .alc e z⟩ :: r) S H K := by
 simp only [wOpsM, wROM, wRIM, wRI]
 intro H1 hH1
 obtain ⟨k1, n1, c1⟩ := new_facts hH1
 exact h H1 k1 n1 c1
theorem wM_memh {o : Oper} {v : Value} {H' : Hp} {k : Kd} (hd : defd S o.op.operands.toList = true) (hp : pureOp P (frS n S) o = none) (hh : heapOp P lo (frS n S) H o = some (.val v H', k)) (hb : ∀ b, k = .read b → b < H.next)
  (h : wOpsM P kn lo n r (putS S d v) H' K) : wOpsM P kn lo n (⟨d, none, .mem o⟩ :: r) S H K := .inl ⟨hd, .inr ⟨hp, v, H', k, hh, hb, h⟩⟩
theorem wM_c_lss (hx : evS S x = some (.int .i64 a)) (hy : evS S y = some (.int .i64 b)) (h : wOpsM P kn lo n r (putS S d (.bool (decide (a < b)))) H K) : wOpsM P kn lo n (⟨d, none, .cmp .lss x y⟩ :: r) S H K := by
 simp only [wOpsM, wROM, wRIM, wRI, hx, hy]; exact h
theorem wM_b_lss (hx : evS S x = some (.int .i64 a)) (hy : evS S y = some (.int .i64 b)) (h : ∀ t, (decide (a < b)) = t → wOpsM P kn lo n r (putS S d (.bool t)) H K) : wOpsM P kn lo n (⟨d, none, .cmpb .lss x y⟩ :: r) S H K := by
 simp only [wOpsM, wROM, wRIM, wRI, hx, hy]; exact h
theorem wM_b_gtr (hx : evS S x = some (.int .i64 a)) (hy : evS S y = some (.int .i64 b)) (h : ∀ t, (decide (a > b)) = t → wOpsM P kn lo n r (putS S d (.bool t)) H K) : wOpsM P kn lo n (⟨d, none, .cmpb .gtr x y⟩ :: r) S H K := by
 simp only [wOpsM, wROM, wRIM, wRI, hx, hy]; exact h
theorem wM_b_eql (hx : evS S x = some (.int .i64 a)) (hy : evS S y = some (.int .i64 b)) (h : ∀ t, (a == b) = t → wOpsM P kn lo n r (putS S d (.bool t)) H K) : wOpsM P kn lo n (⟨d, none, .cmpb .eql x y⟩ :: r) S H K := by
 simp only [wOpsM, wROM, wRIM, wRI, hx, hy]; exact h
theorem wM_c_neq (hx : evS S x = some (.int .i64 a)) (hy : evS S y = some (.int .i64 b)) (h : wOpsM P kn lo n r (putS S d (.bool (a != b))) H K) : wOpsM P kn lo n (⟨d, none, .cmp .neq x y⟩ :: r) S H K := by
 simp only [wOpsM, wROM, wRIM, wRI, hx, hy]; exact h
theorem wM_b_neq (hx : evS S x = some (.int .i64 a)) (hy : evS S y = some (.int .i64 b)) (h : ∀ t, (a != b) = t → wOpsM P kn lo n r (putS S d (.bool t)) H K) : wOpsM P kn lo n (⟨d, none, .cmpb .neq x y⟩ :: r) S H K := by
 simp only [wOpsM, wROM, wRIM, wRI, hx, hy]; exact h
end
end Go.Ax

/-! Code whose outcome hangs on what is drawn, 4: ranges over functions. -/
namespace Go.Ax
open Go Go.RowKit
noncomputable section
section
variable {P : Program} {kn : Kn} {lo n : Nat}
def TriMR (P : Program) (lo n : Nat) (c : Code) (S : Rg) (H : Hp) (K : Exit → Rg → Hp → List Deferred → Prop) : Prop :=
 ∀ (base : Nat) (r : Ren) (w : World) (A : Fr) (tmps : Array Value) (ds : List Deferred) (cs : List Frame) (k : List Item),
  lo ≤ H.next → Rel P r base H w → FrR r A tmps ds none → A.n = n → A.round = none → (P.funcs[A.fn]?).isSome = true → Knows S A.T →
  ∃ e S' H' T' D, K e S' H' D ∧ Knows S' T' ∧ Ends P lo base r H w (lone (mkF A.fn tmps (.code c :: k) ds .normal none) cs w) .normal none (fun _ => cs) k A e { A with T := T', defers := D ++ A.defers } H' none
theorem TriMR.of {c : Code} {S : Rg} {H : Hp} {K : Exit → Rg → Hp → List Deferred → Prop} (h : TriM P lo n false c S H fun e S' H' => K e S' H' []) : TriMR P lo n c S H K := by
 intro base r w A tmps ds cs k hlo hrel hF hn hr _ hS
 obtain ⟨e, S', H', T', a, b, q⟩ := h base r w A tmps ds none cs k hlo hrel hF hn (by rw [hr]; rfl) hS
 exact ⟨e, S', H', T', [], a, b, q⟩
theorem TriMR.mono {c : Code} {S : Rg} {H : Hp} {K K' : Exit → Rg → Hp → List Deferred → Prop} (h : TriMR P lo n c S H K) (hk : ∀ e S' H' D, K e S' H' D → K' e S' H' D) : TriMR P lo n c S H K' := by
 intro base r w A tmps ds cs k hlo hrel hF hn hr hf hS
 obtain ⟨e, S', H', T', D, a, b⟩ := h base r w A tmps ds cs k hlo hrel hF hn hr hf hS
 exact ⟨e, S', H', T', D, hk _ _ _ _ a, b⟩
theorem TriMR.seq {x y : Code} {S : Rg} {H : Hp} {K : Exit → Rg → Hp → List Deferred → Prop} (h : TriMR P lo n x S H fun e S' H' D => match e with | .normal => TriMR P lo n y S' H' (fun e S2 H2 D2 => K e S2 H2 (D2 ++ D)) | e => K e S' H' D) : TriMR P lo n (.seq x y) S H K := by
 intro base r w A tmps ds cs k hlo hrel hF hn hr hf hS
 obtain ⟨e, S1, H1, T1, D1, a, b, q⟩ := h base r w A tmps ds cs (.code y :: k) hlo hrel hF hn hr hf hS
 cases e with
 | normal =>
  obtain ⟨r1, w1, tm1, ds1, pc1, post, hF1, hsm, hp1, harr, _⟩ := q
  have harr : Steps P _ (lone (mkF A.fn tm1 (.code y :: k) ds1 .normal none) cs w1) := harr
  obtain ⟨e2, S2, H2, T2, D2, a2, b2, q2⟩ := a base r1 w1 { A with T := T1, defers := D1 ++ A.defers } tm1 ds1 cs k (Nat.le_trans hlo post.next) post.rel hF1 hn hr hf b
  refine ⟨e2, S2, H2, T2, D2 ++ D1, a2, b2, ?_⟩
  rw [List.append_assoc]
  exact Ends.of_steps (Steps.one mv_seq) (Ends.of_steps harr (Ends.after hlo post hsm q2))
 | _ => exact ⟨_, S1, H1, T1, D1, a, b, Ends.of_steps (Steps.one mv_seq) (q.left (fun id _ => by simp [exitTo]) (by simp))⟩
theorem TriMR.block {id : Nat} {b : Code} {S : Rg} {H : Hp} {K : Exit → Rg → Hp → List Deferred → Prop} (h : TriMR P lo n b S H fun e S' H' D => match e with | .exit j => (bif Nat.beq j id then K .normal S' H' D else K (.exit j) S' H' D) | e => K e S' H' D) : TriMR P lo n (.block id b) S H K := by
 intro base r w A tmps ds cs k hlo hrel hF hn hr hf hS
 obtain ⟨e, S1, H1, T1, D1, a, b, q⟩ := h base r w A tmps ds cs (.inBlock id :: k) hlo hrel hF hn hr hf hS
 cases e with
 | normal =>
  refine ⟨.normal, S1, H1, T1, D1, a, b, Ends.of_steps (Steps.one mv_block) ?_⟩
  obtain ⟨r1, w1, tm1, ds1, pc1, p1, p2, p3, p4, p5, p6⟩ := q
  exact ⟨r1, w1, tm1, ds1, pc1, p1, p2, p3, p4, Steps.trans p5 (Steps.one mv_inBlock), p6⟩
 | exit j =>
  simp only at a
  cases hj : Nat.beq j id with
  | true =>
   rw [hj] at a
   have hji : j = id := Nat.eq_of_beq_eq_true hj
   subst hji
   obtain ⟨r', w', tmps', ds', pc', h1, h2, h3, h4, ⟨kx, hk, hs⟩, h6⟩ := q
   have hk' : exitTo j kx = some k := by rw [hk]; simp [exitTo]
   exact ⟨.normal, S1, H1, T1, D1, a, b, Ends.of_steps (Steps.one mv_block) ⟨r', w', tmps', ds', pc', h1, h2, h3, h4, hs.trans (Steps.one (mv_exit hk')), h6⟩⟩
  | false =>
   rw [hj] at a
   refine ⟨.exit j, S1, H1, T1, D1, a, b, Ends.of_steps (Steps.one mv_block) (q.left (fun id' hid => ?_) (by simp))⟩
   cases hid
   have hne : id ≠ j := by rintro rfl; simp at hj
   simp [exitTo, hne]
 | _ => exact ⟨_, S1, H1, T1, D1, a, b, Ends.of_steps (Steps.one mv_block) (q.left (fun id' hid => by cases hid) (by simp))⟩
theorem TriMR.scope {c : Code} {S : Rg} {H : Hp} {K : Exit → Rg → Hp → List Deferred → Prop} (h : TriMR P lo n c S H K) : TriMR P lo n (.scope c) S H K := by
 intro base r w A tmps ds cs k hlo hrel hF hn hr hf hS
 obtain ⟨e, S1, H1, T1, D1, a, b, q⟩ := h base r w A tmps ds cs (.inScope c :: k) hlo hrel hF hn hr hf hS
 cases e with
 | normal =>
  refine ⟨.normal, S1, H1, T1, D1, a, b, Ends.of_steps (Steps.one mv_scope) ?_⟩
  obtain ⟨r1, w1, tm1, ds1, pc1, p1, p2, p3, p4, p5, p6⟩ := q
  exact ⟨r1, w1, tm1, ds1, pc1, p1, p2, p3, p4, Steps.trans p5 (Steps.one mv_inScope), p6⟩
 | _ => exact ⟨_, S1, H1, T1, D1, a, b, Ends.of_steps (Steps.one mv_scope) (q.left (fun id _ => by simp [exitTo]) (by simp))⟩

theorem yieldM (hm : P.follows .mixedOrders = true) {H : Hp} {l : Nat} {S S1 : Rg} {ps : List Tmp} {asg body : Code} {rc : Nat} {pe : Option Code} {args : List Value} {Q : Bool → Hp → Prop} (hl : Lp P H l .ready pe n S ps asg body rc) (hll : lo ≤ l) (hps : ps.all (fun t => Nat.blt t n) = true) (hb : bindS ps args S = some S1)
  (h : TriM P lo n true asg S1 H fun e S2 H1 => (match e with | .normal => True | _ => False) ∧ Lp P H1 l .ready pe n S ps asg body rc ∧ ∀ H2, SetLp H1 l .busy pe H2 → TriM P lo n true body S2 H2 fun e S3 H3 => Lp P H3 l .busy pe n S ps asg body rc ∧
   (match e with | .normal => ∀ H4, SetLp H3 l .ready none H4 → Q true H4 | .ret => ∀ H4, SetLp H3 l .done (some .ret) H4 → Q false H4 | .exit id => ∀ H4, SetLp H3 l .done (some (.exit id)) H4 → Q false H4 | _ => False)) :
  CallM P lo (.fn (.yield l) #[]) args H fun v H' => ∃ b, v = .bool b ∧ Q b H' := by
 obtain ⟨fn, T, hget, hfn, hk⟩ := hl
 obtain ⟨T1, hst, hk1⟩ := set_tmps ps args S S1 T hk hb
 intro r base w t' args' hlo hrel ht hargs
 obtain ⟨f', cap', rfl, hf, hcap⟩ := ht
 cases hf with
 | yield hloc =>
 rename_i loc
 obtain ⟨R, c1, c2, c3, c4, c5, c6, c7, c8, l9, c9, c10⟩ := hrel.cont _ _ _ hloc hget
 subst c3 c4 c6 c7 c8
 have hT := setTmps_R hst c5 (fun t ht => by have := List.all_eq_true.1 hps t ht; simpa [Nat.blt_eq] using this) hargs
 have hsz : args'.size = R.params.size := by
  have a := setTmps_len hst
  have b := hargs.1
  simp at a b
  omega
 have htm : (R.params.zip args').foldl (fun tmps (t, a) => tmps.setIfInBounds t a) R.tmps = (R.params.toList.zip args'.toList).foldl (fun tmps (x : Tmp × Value) => tmps.setIfInBounds x.1 x.2) R.tmps := by
  rw [← Array.foldl_toList, Array.toList_zip]
 refine ⟨.round loc.blk R.fn _ R.assign R.body, _, run_yield c1 hsz, rfl, ?_⟩
 rw [htm]
 generalize (R.params.toList.zip args'.toList).foldl (fun tmps (x : Tmp × Value) => tmps.setIfInBounds x.1 x.2) R.tmps = tm at hT
 intro c rest
 obtain ⟨e, S2, H1, T2, ⟨he, hl1, hbody⟩, hk2, q⟩ := h base r w { fn := R.fn, n, T := T1, defers := [], round := some l } tm [] (some loc.blk) (c :: rest) [.beginRound, .code R.body] hlo hrel ⟨hT, .nil, ⟨loc, hloc, rfl⟩⟩ rfl rfl hk1
 cases e <;> simp only at he
 obtain ⟨r1, w1, tm1, ds1, pc1, hp1, hF1, hS1, hpp1, hArr1, _⟩ := q
 have hArr1 : Steps P (lone (Frame.round loc.blk R.fn tm R.assign R.body .normal) (c :: rest) w) (lone (mkF R.fn tm1 [.beginRound, .code R.body] ds1 .normal (some loc.blk)) (c :: rest) w1) := hArr1
 obtain ⟨fn1, Ta, hget1, hfn1, hka⟩ := hl1
 have hloc1 := hp1.le _ _ hloc
 obtain ⟨R1, d1, d2, d3, d4, d5, d6, d7, d8, l9', d9, d10⟩ := hp1.rel.cont _ _ _ hloc1 hget1
 have hbeg := run_beginRound (P := P) d1 d2
 have hlt1 := (hp1.rel.at hloc1 hget1 rfl).2
 have hp2 := Post.change (lo := lo) hp1.rel hloc1 ⟨_, hget1, by simp, rfl⟩ hll (o := .lp .busy _ fn1 n Ta _ _ _ rc) (w' := w1.putObj loc.blk (.loop { R1 with state := .busy })) World.putObj_size (fun k hk => World.putObj_heap_other hk) ⟨rfl, rfl, rfl⟩
  ⟨{ R1 with state := .busy }, World.putObj_heap_same hlt1, rfl, d3, d4, d5, d6, d7, d8, l9', d9, d10⟩
 have hlo1 : lo ≤ H1.next := Nat.le_trans hlo hp1.next
 obtain ⟨e, S3, H3, T3, ⟨hl3, hq⟩, hk3, q⟩ := hbody _ (setLp_up hget1) base r1 _ { fn := R.fn, n, T := T2, defers := [], round := some l } tm1 ds1 (some loc.blk) (c :: rest) [] hlo1 hp2.rel hF1 rfl rfl hk2
 obtain ⟨r3, w3, tm3, ds3, pc3, hp3, hF3, hS3, _, hArr3, _⟩ := q
 have hp13 := (hp1.trans hlo hp2).trans hlo hp3
 have hloc3 := hp3.le _ _ hloc1
 have hM : Steps P (lone (Frame.round loc.blk R.fn tm R.assign R.body .normal) (c :: rest) w) (lone (mkF R.fn tm1 [.code R.body] ds1 .normal (some loc.blk)) (c :: rest) (w1.putObj loc.blk (.loop { R1 with state := .busy }))) :=
  hArr1.trans (Steps.one (mv_beginRound hbeg))
 obtain ⟨fn3, Tb, hget3, hfn3, hkb⟩ := hl3
 obtain ⟨R3, q1, q2, q3, q4, q5, q6, q7, q8, l9'', q9, q10⟩ := hp3.rel.cont _ _ _ hloc3 hget3
 have hlt3 := (hp3.rel.at hloc3 hget3 rfl).2
 have hds : ds3 = [] := by
  have := hF3.D
  cases this
  rfl
 subst hds
 have put : ∀ (st : LoopState) (pe : Option Code), Post P lo base r H w r3 { H3 with t := H3.t.set l (.lp st pe fn3 n Tb R.params.toList R.assign R.body rc) } (w3.putObj loc.blk (.loop { R3 with state := st, pending := pe })) := fun st pe =>
  hp13.trans hlo (Post.change (lo := lo) hp3.rel hloc3 ⟨_, hget3, by simp, rfl⟩ hll (o := .lp st pe fn3 n Tb R.params.toList R.assign R.body rc) (w' := w3.putObj loc.blk (.loop { R3 with state := st, pending := pe })) World.putObj_size (fun k hk => World.putObj_heap_other hk) ⟨rfl, rfl, rfl⟩
   ⟨{ R3 with state := st, pending := pe }, World.putObj_heap_same hlt3, rfl, rfl, q4, q5, q6, q7, q8, l9'', q9, q10⟩)
 cases e with
 | normal => exact ⟨.bool true, _, r3, _, ⟨true, rfl, hq _ (setLp_up hget3)⟩, put .ready none, _, .bool true, (hM.trans hArr3).trans (Steps.one (mv_round_end (run_endRound none q1)))⟩
 | ret =>
  obtain ⟨kx, hs⟩ := hArr3
  exact ⟨.bool false, _, r3, _, ⟨false, rfl, hq _ (setLp_up hget3)⟩, put .done (some .ret), _, .bool false, (hM.trans hs).trans (Steps.one (mv_round_ret (run_endRound (some .ret) q1)))⟩
 | exit id =>
  obtain ⟨kx, hx, hs⟩ := hArr3
  exact ⟨.bool false, _, r3, _, ⟨false, rfl, hq _ (setLp_up hget3)⟩, put .done (some (.exit id)), _, .bool false, (hM.trans hs).trans (Steps.one (mv_round_exit (hx.trans rfl) (run_endRound (some (.exit id)) q1)))⟩
 | _ => exact hq.elim

theorem TriMR.range {fo : Operand} {ps : Array Tmp} {asg body : Code} {S : Rg} {H : Hp} {K : Exit → Rg → Hp → List Deferred → Prop} {fn : Fn} {first cap : Array Value} (hfo : evS S fo = some (.func fn first cap))
  (h : ∀ H1, Keep H H1 [] → H1.next = H.next + 2 → H1.t.get H.next = some (.dfr (some [])) → Lp P H1 (H.next + 1) .ready none n S ps.toList asg body H.next →
   ∃ Q : Value → Hp → Prop, CallM P lo (.fn fn cap) (first.toList ++ [.func (.yield (H.next + 1)) #[] #[]]) H1 Q ∧ ∀ v H2, Q v H2 → ∃ st pe S', Lp P H2 (H.next + 1) st pe n S' ps.toList asg body H.next ∧ st ≠ .busy ∧
    ∀ H3, SetLp H2 (H.next + 1) .exhausted pe H3 → match pe with | none => K .normal S H3 [{ target := .collected H.next, args := #[] }] | some (.exit id) => K (.exit id) S H3 [{ target := .collected H.next, args := #[] }] | some .ret => K .ret S H3 [{ target := .collected H.next, args := #[] }] | _ => False) :
  TriMR P lo n (.rangeFunc fo ps asg body) S H K := by
 intro base r w A tmps ds cs k hlo hrel hF hn hrd hfn hS
 have kv := evR hF.T (ev_of hS hfo)
 generalize hg : evT tmps fo = u at kv
 cases kv with
 | func kfn s1 k1 s2 k2 =>
  rename_i fn' A2 B2
  have post1 : Post P lo base r H w (r.add H.next ⟨w.heap.size, 0, none⟩) (H.new (.dfr (some []))) (w.alloc (.deferred (some []))) :=
   Post.fresh hrel hlo (x := .deferred (some [])) rfl ⟨rfl, rfl, rfl⟩ ⟨[], rfl, .nil⟩
  have e0 : (r.add H.next ⟨w.heap.size, 0, none⟩) H.next = some ⟨w.heap.size, 0, none⟩ := Ren.add_same _ _ _
  have hlo1 : lo ≤ (H.new (.dfr (some []))).next := Nat.le_trans hlo (Nat.le_succ _)
  generalize hr1 : r.add H.next ⟨w.heap.size, 0, none⟩ = r1 at post1 e0
  have hn1 := post1.rel.none_next
  have hle2 := Ren.le_add (⟨(w.alloc (.deferred (some []))).heap.size, 0, none⟩ : Loc) hn1
  have post2 := Post.fresh post1.rel hlo1 (o := .lp .ready none A.fn A.n A.T ps.toList asg body H.next)
   (x := .loop { state := .ready, pending := none, fn := A.fn, tmps, params := ps, assign := asg, body, defers := w.heap.size }) (lz := none)
   (w' := (w.alloc (.deferred (some []))).alloc (.loop { state := .ready, pending := none, fn := A.fn, tmps, params := ps, assign := asg, body, defers := w.heap.size })) rfl ⟨rfl, rfl, rfl⟩
   ⟨_, rfl, rfl, rfl, rfl, (hF.T.mono post1.le).mono hle2, rfl, rfl, rfl, _, hle2 _ _ e0, rfl⟩
  have e1 : (r1.add (H.new (.dfr (some []))).next ⟨(w.alloc (.deferred (some []))).heap.size, 0, none⟩) (H.next + 1) = some ⟨w.heap.size + 1, 0, none⟩ := by
   have := Ren.add_same r1 (H.new (.dfr (some []))).next ⟨(w.alloc (.deferred (some []))).heap.size, 0, none⟩
   rw [World.size_alloc] at this ⊢
   exact this
  have e00 := hle2 _ _ e0
  have post := post1.trans hlo post2
  clear post2 hle2
  generalize hr2 : r1.add (H.new (.dfr (some []))).next ⟨(w.alloc (.deferred (some []))).heap.size, 0, none⟩ = r2 at post e1 e00
  obtain ⟨Q, hcall, hQ⟩ := h ((H.new (.dfr (some []))).new (.lp .ready none A.fn A.n A.T ps.toList asg body H.next))
   ⟨by show H.next ≤ H.next + 1 + 1; omega, fun b hb _ => by simp only [Hp.new, Tr.get_set]; rw [if_neg (by omega), if_neg (by omega)], fun b cs hb hg => by
    have hb : b < H.next + 1 + 1 := hb
    simp only [Hp.new, Tr.get_set] at hg
    by_cases e1 : b = H.next + 1
    ·rw [if_pos e1] at hg; cases hg
    ·rw [if_neg e1] at hg
     by_cases e2 : b = H.next
     ·rw [if_pos e2] at hg; cases hg
     ·rw [if_neg e2] at hg; exact ⟨by omega, hg⟩⟩ rfl (by simp only [Hp.new, Tr.get_set]; rw [if_neg (by omega), if_pos trivial]) ⟨A.fn, A.T, by simp only [Hp.new, Tr.get_set]; rw [if_pos trivial, hn], hfn, hS⟩
  generalize hH2 : (H.new (.dfr (some []))).new (.lp .ready none A.fn A.n A.T ps.toList asg body H.next) = H2 at post hcall
  generalize hw2 : (w.alloc (.deferred (some []))).alloc (.loop { state := .ready, pending := none, fn := A.fn, tmps, params := ps, assign := asg, body, defers := w.heap.size }) = w2 at post
  have henter := run_enterLoop_outer (P := P) (w := w) A.fn tmps ps asg body
  rw [hw2] at henter
  have hargs : LR r2 (first.toList ++ [.func (.yield (H.next + 1)) #[] #[]]) (A2 ++ #[Value.func (.yield (w.heap.size + 1)) #[] #[]]).toList := by
   have a := (LR_toArray.2 ⟨s1, k1⟩).mono post.le
   have b : LR r2 [.func (.yield (H.next + 1)) #[] #[]] [.func (.yield (w.heap.size + 1)) #[] #[]] :=
    LR.cons (.func (.yield e1) rfl (fun i v v' q => by simp at q) rfl (fun i v v' q => by simp at q)) LR.nil
   have := LR.append a b
   simpa using this
  have hres : (resolve (evT tmps) (rangeCall fo (w.heap.size + 1)) 0).run P w2 = .ok { target := .fn fn' B2, args := A2 ++ #[Value.func (.yield (w.heap.size + 1)) #[] #[]] } w2 := by
   have hcst : ∀ c, evT tmps (.const c) = c := fun _ => rfl
   simp [resolve, Deferred.ofValue, hg, hcst]
  have hlo2 : lo ≤ H2.next := Nat.le_trans hlo post.next
  obtain ⟨nx, fr0, hi, hfo', hrest⟩ := hcall r2 base w2 (.fn fn' B2) _ hlo2 post.rel ⟨_, _, rfl, kfn.mono post.le, (LR_toArray.2 ⟨s2, k2⟩).mono post.le⟩ hargs
  obtain ⟨v, H3, r3, w3, hq, post3, v', hv, hsteps⟩ := hrest (mkF A.fn tmps (.inRangeFunc (w.heap.size + 1) :: k) ([{ target := .collected w.heap.size, args := #[] }] ++ ds) .normal none) cs
  have hstep := mv_rangeFunc (k := k) (ds := ds) (kind := .normal) (cs := cs) henter hres hi hfo'
  have pp := post.trans hlo post3
  have hF1 : FrR r3 ({ fn := A.fn, n := A.n, T := A.T, defers := { target := .collected H.next, args := #[] } :: A.defers, round := A.round } : Fr) tmps ([{ target := .collected w.heap.size, args := #[] }] ++ ds) none := by
   have := hF.mono pp.le
   refine ⟨this.T, ?_, this.R⟩
   exact DsR.cons ⟨⟨_, post3.le _ _ e00, rfl⟩, LR.nil⟩ this.D
  obtain ⟨st, pe, S', ⟨fn3, T3, hget, hfn3, hk3⟩, hst, hK⟩ := hQ v H3 hq
  have hl3 : r3 (H.next + 1) = some ⟨w.heap.size + 1, 0, none⟩ := post3.le _ _ e1
  obtain ⟨R, c1, c2, c3, c4, c5, c6, c7, c8, l9, c9, c10⟩ := post3.rel.cont _ _ _ hl3 hget
  have hend' : (Instr.endLoop (w.heap.size + 1)).run P w3 = .ok pe (w3.putObj (w.heap.size + 1) (.loop { R with state := .exhausted })) := by
   rw [run_endLoop c1 (by rw [c2]; exact hst), c3]
  have hlt : w.heap.size + 1 < w3.heap.size := (post3.rel.at hl3 hget rfl).2
  have post4 := Post.change (lo := lo) post3.rel hl3 ⟨_, hget, by simp, rfl⟩ (by omega) (o := .lp .exhausted pe fn3 n T3 ps.toList asg body H.next) (w' := w3.putObj (w.heap.size + 1) (.loop { R with state := .exhausted })) (World.putObj_size) (fun k hk => World.putObj_heap_other hk) ⟨rfl, rfl, rfl⟩
   ⟨{ R with state := .exhausted }, World.putObj_heap_same hlt, rfl, c3, c4, c5, c6, c7, c8, l9, c9, c10⟩
  have pq := pp.trans hlo post4
  rw [finish_range] at hsteps
  have hall := (Steps.head hstep hsteps).trans (Steps.one (mv_endRangeFunc (k := k) hend'))
  have hK := hK _ (setLp_up (st := .exhausted) (pe := pe) hget)
  cases pe with
  | none => exact ⟨.normal, S, _, A.T, [{ target := .collected H.next, args := #[] }], hK, hS, r3, _, tmps, _, none, pq, hF1, ⟨rfl, rfl, rfl⟩, rfl, hall, fun _ => rfl⟩
  | some c =>
   cases c <;> simp only at hK
   ·exact ⟨.exit _, S, _, A.T, [{ target := .collected H.next, args := #[] }], hK, hS, r3, _, tmps, _, none, pq, hF1, ⟨rfl, rfl, rfl⟩, rfl, ⟨_, rfl, hall⟩, fun _ => rfl⟩
   ·exact ⟨.ret, S, _, A.T, [{ target := .collected H.next, args := #[] }], hK, hS, r3, _, tmps, _, none, pq, hF1, ⟨rfl, rfl, rfl⟩, rfl, ⟨_, hall⟩, fun _ => rfl⟩
theorem fnM_of_triR {f : FuncId} {fn : Func} {c : Code} {args : List Value} {H : Hp} {Q : Value → Hp → Prop} (hf : P.funcs[f]? = some fn) (hc : fn.body = some c) (hl : args.length ≤ fn.ntmps)
  (h : TriMR P lo fn.ntmps c (argS args 0) H fun e S' H' D => (match e with | .normal => True | .ret => True | _ => False) ∧
   ((D = [] ∧ ∃ vs, resS P S' H' fn.results.toList = some vs ∧ Q (retV vs) H') ∨
    ∃ r, D = [{ target := .collected r, args := #[] }] ∧ lo ≤ r ∧ H'.t.get r = some (.dfr (some [])) ∧ ∀ H2, H2.next = H'.next → Keep H' H2 [r] → ∃ vs, resS P S' H2 fn.results.toList = some vs ∧ Q (retV vs) H2)) : FnM P lo f args H Q := by
 refine ⟨⟨fn, c, hf, hc⟩, fun r base w args' hlo hrel hargs c0 rest => ?_⟩
 have hent : Frame.enter P f args' .normal = mkF f (args' ++ Array.replicate (fn.ntmps - args'.size) undef) [.code c] [] .normal none := by
  simp [Frame.enter, mkF, hf, hc]
 have hT := enter_tmps hargs fn.ntmps hl
 obtain ⟨e, S1, H1, T1, D, ⟨he, hcase⟩, hk, r1, w1, tm, ds, pc1, hpost, hF, hS, hp1, hArr, _⟩ := h base r w { fn := f, n := fn.ntmps, T := trOf args 0 .nil, defers := [], round := none } _ [] (c0 :: rest) [] hlo hrel ⟨hT, .nil, rfl⟩ rfl rfl (by rw [hf]; rfl) (knows_args args)
 simp only at hArr
 rw [← hent] at hArr
 have last : ∀ g H2 vs, resS P S1 H2 fn.results.toList = some vs → unwindV P lo (fun _ _ _ _ => none) fn (g + 1) { fn := f, n := fn.ntmps, T := T1, defers := [], round := none } H2 none = some (.ret (retV vs), H2) := by
  intro g H2 vs hres
  rw [unwindV]
  simp only [res_of (A := { fn := f, n := fn.ntmps, T := T1, defers := [], round := none }) hk hres]
  match vs with
  | [] => rfl
  | [v] => rfl
  | v :: u :: r => rfl
 have hu : ∃ v H2, Q v H2 ∧ unwindV P lo (fun _ _ _ _ => none) fn 2 { fn := f, n := fn.ntmps, T := T1, defers := D ++ [], round := none } H1 none = some (.ret v, H2) := by
  rcases hcase with ⟨rfl, vs, hres, hq⟩ | ⟨rr, rfl, hlr, hg, hcase⟩
  ·exact ⟨_, _, hq, last 1 H1 vs hres⟩
  ·obtain ⟨vs, hres, hq⟩ := hcase { H1 with t := H1.t.set rr (.dfr none) } rfl (keep_set (fun cs e => by cases e))
   refine ⟨_, _, hq, ?_⟩
   rw [unwindV]
   simp only [List.append_nil, hg, Nat.ble_eq_true_of_le hlr, cond_true, List.nil_append]
   exact last 0 _ vs hres
 obtain ⟨v, H2, hq, hu⟩ := hu
 have hD : DefN P lo (fun _ _ _ _ => none) := fun f cap args H p e H' p' h => by cases h
 have fin : ∀ (todo : List Item), Steps P (lone (Frame.enter P f args' .normal) (c0 :: rest) w) (lone { mkF f tm todo ds .normal none with mode := .returning } (c0 :: rest) w1) → ∃ v H' r' w', Q v H' ∧ Post P lo base r H w r' H' w' ∧ ∃ v', VR r' v v' ∧ Steps P (lone (Frame.enter P f args' .normal) (c0 :: rest) w) (lone (c0.finish v') rest w') := by
  intro todo hs
  obtain ⟨r', w', fr', q1, q2, q3, q4, q5⟩ := unwind_R hD hf 2 r1 w1 _ H1 ds none none _ H2 hu (Nat.le_trans hlo hpost.next) hpost.rel hF.D rfl { mkF f tm todo ds .normal none with mode := .returning } (c0 :: rest) hF.T rfl rfl rfl
  obtain ⟨v', hv, ⟨a, b, d⟩⟩ := q5
  exact ⟨v, H2, r', w', hq, hpost.trans hlo q1, v', hv, (hs.trans q4).trans (Steps.one (step_leave_returned ⟨a, b, by rw [q3]; rfl, d⟩))⟩
 cases e with
 | normal => exact fin [] (hArr.trans (Steps.one mv_end))
 | ret =>
  obtain ⟨kx, hs⟩ := hArr
  exact fin _ (hs.trans (Steps.one mv_ret))
 | _ => exact he.elim
end
end
end Go.Ax

/-! Maps whose keys and values are flat: the operations, and ranges over them. -/
namespace Go.Ax
open Go Go.RowKit
noncomputable section
section
variable {P : Program} {kn : Kn} {lo n : Nat} {α : Type} [DecidableEq α] {enc : α → Value}
def Mpa (enc : α → Value) (H : Hp) (b : Nat) (L : ML α) (c : Nat) : Prop := b < H.next ∧ H.t.get b = some (.mp (mEs enc L) c)
def Ita (H : Hp) (r m c : Nat) (D : ML α) : Prop := r < H.next ∧ H.t.get r = some (.it (some m) c (D.map (·.2.2)).toArray c)
theorem Keep.mpa {H H1 : Hp} {l : List Nat} (k : Keep H H1 l) {b : Nat} {L : ML α} {c : Nat} (h : Mpa enc H b L c) (hb : b ∉ l) : Mpa enc H1 b L c := ⟨Nat.lt_of_lt_of_le h.1 k.le, by rw [k.same b h.1 hb]; exact h.2⟩
theorem Keep.mpa0 {H H1 : Hp} (k : Keep H H1 []) {b : Nat} {L : ML α} {c : Nat} (h : Mpa enc H b L c) : Mpa enc H1 b L c := k.mpa h (by simp)
theorem Keep.ita {H H1 : Hp} {l : List Nat} (k : Keep H H1 l) {r m c : Nat} {D : ML α} (h : Ita H r m c D) (hb : r ∉ l) : Ita H1 r m c D := ⟨Nat.lt_of_lt_of_le h.1 k.le, by rw [k.same r h.1 hb]; exact h.2⟩
theorem keep_put {H : Hp} {b : Nat} {o : Ob} (ho : ∀ cs, o ≠ .ro cs) : Keep H { H with t := H.t.set b o } [b] ∧ ({ H with t := H.t.set b o } : Hp).t.get b = some o := ⟨keep_set ho, by simp only [Tr.get_set, if_true]⟩
theorem keep_new {H : Hp} {o : Ob} (ho : ∀ cs, o ≠ .ro cs) : Keep H (H.new o) [] ∧ (H.new o).next = H.next + 1 ∧ (H.new o).t.get H.next = some o := by
 refine ⟨⟨Nat.le_succ _, fun b hb _ => ?_, fun b cs hb hg => ?_⟩, rfl, ?_⟩
 ·simp only [Hp.new, Tr.get_set]; rw [if_neg (by omega)]
 ·have hb : b < H.next + 1 := hb
  simp only [Hp.new, Tr.get_set] at hg
  split at hg
  ·cases hg; exact absurd rfl (ho cs)
  ·exact ⟨by omega, hg⟩
 ·simp only [Hp.new, Tr.get_set, if_true]
theorem defd2 {S : Rg} {x y : Operand} {a b : Value} (hx : evS S x = some a) (hy : evS S y = some b) : defd S [x, y] = true := by simp [defd, hx, hy]
theorem defd3 {S : Rg} {x y z : Operand} {a b c : Value} (hx : evS S x = some a) (hy : evS S y = some b) (hz : evS S z = some c) : defd S [x, y, z] = true := by simp [defd, hx, hy, hz]
section
variable {tm tk te : TypeId} {S : Rg} {H : Hp} {x y : Operand} {b c : Nat} {L : ML α} {a : α} {z : Value} {dd : Option Tmp} {ty : TypeId} {p : String}
theorem heap_look (k : KeyOk P tk enc) (hu : P.underlying tm = some (.map tk te)) (hz : prun P (zeroValue te) = some z) (hx : evS S x = some (.map (some b))) (hy : evS S y = some (enc a)) (hm : Mpa enc H b L c) (ok : Bool) (hf : flatT (if ok then .tuple #[(getA a L).getD z, .bool (getA a L).isSome] else (getA a L).getD z) = true) :
  heapOp P lo (frS n S) H ⟨dd, .lookup tm x y ok, ty, p, #[], none⟩ = some (.val (if ok then .tuple #[(getA a L).getD z, .bool (getA a L).isSome] else (getA a L).getD z) H, .read b) := by
 unfold heapOp
 simp only [hu, ev_frS, hx, hy, hm.2, k.fl, cond_true, lookupA k hu hz, hf]
theorem heap_upd (k : KeyOk P tk enc) (hu : P.underlying tm = some (.map tk te)) {w : Operand} {v : Value} (hx : evS S x = some (.map (some b))) (hy : evS S y = some (enc a)) (hw : evS S w = some v) (hm : Mpa enc H b L c) (hl : lo ≤ b) (hf : flat v = true) :
  heapOp P lo (frS n S) H ⟨dd, .mapUpdate tm x y w, ty, p, #[], none⟩ = some (.skip { H with t := H.t.set b (.mp (mEs enc (putA a v c L)) (clkA a c L)) }, .store b) := by
 unfold heapOp
 simp only [ev_frS, hx, hy, hw, updateV, hu, hm.2, k.fl, hf, Nat.ble_eq_true_of_le hl, Bool.and_self, cond_true, updateA k hu]
end
section
variable {r : List RO} {S : Rg} {H : Hp} {K : Rg → Hp → Prop} {d : Option Nat} {x y : Operand}
variable {tm tk te : TypeId} {b c : Nat} {L : ML α} {a : α} {z : Value} {dd : Option Tmp} {ty : TypeId} {p : String}
theorem wM_rng {m : Nat} (hx : evS S x = some (.map (some m))) (hm : Mpa enc H m L c) (h : ∀ H1, Keep H H1 [] → H1.next = H.next + 1 → Ita H1 H.next m c ([] : ML α) → wOpsM P kn lo n r (putS S d (.pointer (some ⟨H.next, 0, none⟩))) H1 K) : wOpsM P kn lo n (⟨d, none, .rng x⟩ :: r) S H K := by
 obtain ⟨k1, k2, k3⟩ := keep_new (H := H) (o := .it (some m) c #[] c) (fun cs e => by cases e)
 simp only [wOpsM, wROM, wRIM, hx]
 exact ⟨_, c, hm.2, fun H1 e => by subst e; exact h _ k1 k2 ⟨by rw [k2]; omega, k3⟩⟩
theorem wM_nxt {r0 m : Nat} {D : ML α} (hx : evS S x = some (.pointer (some ⟨r0, 0, none⟩))) (hi : Ita H r0 m c D) (hm : Mpa enc H m L c) (hw : WfA L c) (hD : ∀ y ∈ D, y ∈ L) (hk : ∀ a, flat (enc a) = true) (hf : ∀ y ∈ L, flat y.2.1 = true) (hl : lo ≤ r0)
  (h0 : (∀ y ∈ L, y ∈ D) → wOpsM P kn lo n r (putS S d (.tuple #[.bool false])) H K)
  (h1 : ∀ y ∈ L, y ∉ D → ∀ H1, Keep H H1 [r0] → H1.next = H.next → Ita H1 r0 m c (D ++ [y]) → wOpsM P kn lo n r (putS S d (.tuple #[.bool true, enc y.1, y.2.1])) H1 K) : wOpsM P kn lo n (⟨d, none, .nxt x⟩ :: r) S H K := by
 have left : ∀ e, e ∈ (leftOf (mEs enc L) (D.map (·.2.2)).toArray).toList ↔ ∃ y ∈ L, e = mEnt enc y ∧ y.2.2 ∉ D.map (·.2.2) := by
  intro e
  unfold leftOf mEs
  simp only [List.filter_toArray, List.mem_filter, List.mem_map, Bool.not_eq_true', List.contains_toArray]
  constructor
  ·rintro ⟨⟨y, hy, rfl⟩, h⟩
   refine ⟨y, hy, rfl, fun hm => ?_⟩
   have : List.contains (List.map (fun x => x.2.2) D) (mEnt enc y).born = true := List.contains_iff_mem.2 (List.mem_map.2 hm)
   rw [this] at h; cases h
  ·rintro ⟨y, hy, rfl, h⟩
   refine ⟨⟨y, hy, rfl⟩, ?_⟩
   cases hc : List.contains (List.map (fun x => x.2.2) D) (mEnt enc y).born with
   | false => rfl
   | true => exact absurd (List.mem_map.1 (List.contains_iff_mem.1 hc)) h
 simp only [wOpsM, wROM, wRIM, hx]
 refine .inr ⟨m, c, _, c, _, c, hi.2, hm.2, fun e he => ?_, Nat.le_refl _, hl, fun hz => h0 fun y hy => ?_, fun e he H1 e1 => ?_⟩
 ·have he : e ∈ L.map (mEnt enc) := by simpa [mEs] using he
  obtain ⟨y, hy, rfl⟩ := List.mem_map.1 he
  exact ⟨hw.lt y hy, hk _, hf y hy⟩
 ·have hnil : ∀ e, e ∉ (leftOf (mEs enc L) (D.map (·.2.2)).toArray).toList := by
   intro e he
   have := List.length_pos_of_mem he
   simp at this
   omega
  have : y.2.2 ∈ D.map (·.2.2) := Classical.byContradiction fun q => hnil _ ((left _).2 ⟨y, hy, rfl, q⟩)
  obtain ⟨u, hu, he⟩ := List.mem_map.1 this
  have inj : ∀ {L : ML α}, (L.map (·.2.2)).Nodup → ∀ p q, p ∈ L → q ∈ L → p.2.2 = q.2.2 → p = q := by
   intro L
   induction L with
   | nil => intro _ p q hp; cases hp
   | cons a l ih =>
    intro hn p q hp hq e
    simp only [List.map_cons, List.nodup_cons] at hn
    rcases List.mem_cons.1 hp with rfl | hp' <;> rcases List.mem_cons.1 hq with rfl | hq'
    ·rfl
    ·exact absurd (List.mem_map.2 ⟨q, hq', e.symm⟩ : p.2.2 ∈ l.map (·.2.2)) hn.1
    ·exact absurd (List.mem_map.2 ⟨p, hp', e⟩ : q.2.2 ∈ l.map (·.2.2)) hn.1
    ·exact ih hn.2 p q hp' hq' e
  rw [← inj hw.borns u y (hD u hu) hy he]
  exact hu
 ·obtain ⟨y, hy, rfl, hb⟩ := (left e).1 he
  subst e1
  obtain ⟨k1, k2⟩ := keep_put (H := H) (b := r0) (o := .it (some m) c ((D.map (·.2.2)).toArray.push (mEnt enc y).born) c) (fun cs e => by cases e)
  refine h1 y hy (fun q => hb (List.mem_map.2 ⟨y, q, rfl⟩)) _ k1 rfl ⟨hi.1, ?_⟩
  have : ((D ++ [y]).map (·.2.2)).toArray = (D.map (·.2.2)).toArray.push (mEnt enc y).born := by simp [mEnt]
  rw [this]
  exact k2
theorem wM_ent {r0 m : Nat} {D : ML α} {e : α × Value × Nat} (hx : evS S x = some (.pointer (some ⟨r0, 0, none⟩))) (hi : Ita H r0 m c (D ++ [e])) (hm : Mpa enc H m L c) (hw : WfA L c) (he : e ∈ L) (hk : ∀ a, flat (enc a) = true) (hf : flat e.2.1 = true)
  (h : wOpsM P kn lo n r (putS S d (.tuple #[enc e.1, e.2.1])) H K) : wOpsM P kn lo n (⟨d, none, .ent x⟩ :: r) S H K := by
 simp only [wOpsM, wROM, wRIM, hx]
 refine ⟨m, c, (D.map (·.2.2)).toArray, c, mEs enc L, mEnt enc e, ?_, hm.2, ?_, ?_, hk _, hf, h⟩
 ·have : ((D ++ [e]).map (·.2.2)).toArray = (D.map (·.2.2)).toArray.push (mEnt enc e).born := by simp [mEnt]
  rw [← this]
  exact hi.2
 ·simp only [mEs]; exact List.mem_map.2 ⟨e, he, rfl⟩
 ·have : (mEs enc L).toList.map (·.born) = L.map (·.2.2) := by simp [mEs, mEnt, Function.comp_def]
  rw [this]; exact hw.borns
end
/-! Maps whose values point, step by step. -/
section
variable {r : List RO} {S : Rg} {H : Hp} {K : Rg → Hp → Prop} {d : Option Nat} {x y : Operand} {tm tk te : TypeId} {b c : Nat} {L : ML α} {a : α} {z : Value} {dd : Option Tmp} {ty : TypeId} {p : String}
end
/-! What has been given of a map. -/
open Classical in
theorem nodup_len {β : Type} : ∀ {D L : List β}, D.Nodup → (∀ x ∈ D, x ∈ L) → D.length ≤ L.length
 | [], _, _, _ => Nat.zero_le _
 | x :: D, L, hn, hs => by
  rw [List.nodup_cons] at hn
  have hx := hs x (by simp)
  have := nodup_len (D := D) (L := L.erase x) hn.2 fun y hy => (List.mem_erase_of_ne (fun e : y = x => hn.1 (e ▸ hy))).2 (hs y (by simp [hy]))
  rw [List.length_erase_of_mem hx] at this
  have := List.length_pos_of_mem hx
  simp only [List.length_cons]
  omega
open Classical in
theorem nodup_perm {β : Type} : ∀ {D L : List β}, D.Nodup → L.Nodup → (∀ x, x ∈ D ↔ x ∈ L) → D.Perm L
 | [], L, _, _, h => by
  have : L = [] := List.eq_nil_iff_forall_not_mem.2 fun x hx => by have := (h x).2 hx; cases this
  subst this; exact .nil
 | x :: D, L, hn, hl, h => by
  rw [List.nodup_cons] at hn
  have hx := (h x).1 (by simp)
  have := nodup_perm (D := D) (L := L.erase x) hn.2 (hl.erase x) fun y => by
   rw [hl.mem_erase_iff]
   constructor
   ·intro hy; exact ⟨fun e : y = x => hn.1 (e ▸ hy), (h y).1 (by simp [hy])⟩
   ·rintro ⟨h1, h2⟩
    rcases List.mem_cons.1 ((h y).2 h2) with e | e
    ·exact absurd e h1
    ·exact e
  exact (List.Perm.cons x this).trans (List.perm_cons_erase hx).symm
theorem WfA.nodup {L : ML α} {c : Nat} (h : WfA L c) : L.Nodup := by
 have := h.keys
 clear h
 induction L with
 | nil => exact List.nodup_nil
 | cons x l ih =>
  simp only [List.map_cons, List.nodup_cons] at this
  exact List.nodup_cons.2 ⟨fun hx => this.1 (List.mem_map.2 ⟨x, hx, rfl⟩), ih this.2⟩
end
end
end Go.Ax

/-! Lowered code with a range over a function, over the machine. -/
namespace Go.Ax
open Go Go.RowKit
noncomputable section
section
variable (P : Program) (kn : Kn) (lo n : Nat)
def wCMR : RC → Rg → Hp → (Exit → Rg → Hp → List Deferred → Prop) → Prop
 | .seq x y, S, H, K => wCMR x S H fun e S' H' D => match e with | .normal => wCMR y S' H' (fun e S2 H2 D2 => K e S2 H2 (D2 ++ D)) | e => K e S' H' D
 | .block id b, S, H, K => wCMR b S H fun e S' H' D => match e with | .exit j => (bif Nat.beq j id then K .normal S' H' D else K (.exit j) S' H' D) | e => K e S' H' D
 | .scp b, S, H, K => wCMR b S H K
 | .other c, S, H, K => TriMR P lo n c S H K
 | r, S, H, K => wCM P kn lo n false r S H fun e S' H' => K e S' H' []
end
section
variable {P : Program} {kn : Kn} {lo n : Nat}
theorem wCMR_sound (s : Snd P kn) : ∀ (c : Code) {rc : RC} {S : Rg} {H : Hp} {K : Exit → Rg → Hp → List Deferred → Prop}, low P n c = some rc → wCMR P kn lo n rc S H K → TriMR P lo n c S H K
 | .seq x y, rc, S, H, K, hl, h => by
  simp only [low] at hl
  split at hl <;> first | (cases hl; done) | skip
  rename_i a ha
  split at hl <;> first | (cases hl; done) | skip
  rename_i b hb
  cases hl
  simp only [wCMR] at h
  refine TriMR.seq ((wCMR_sound s x ha h).mono fun e S' H' D q => ?_)
  cases e with
  | normal => exact wCMR_sound s y hb q
  | _ => exact q
 | .block id b, rc, S, H, K, hl, h => by
  simp only [low] at hl
  split at hl <;> first | (cases hl; done) | skip
  rename_i a ha
  cases hl
  simp only [wCMR] at h
  exact TriMR.block (wCMR_sound s b ha h)
 | .scope b, rc, S, H, K, hl, h => by
  simp only [low] at hl
  split at hl <;> first | (cases hl; done) | skip
  rename_i a ha
  cases hl
  simp only [wCMR] at h
  exact TriMR.scope (wCMR_sound s b ha h)
 | .loop b, rc, S, H, K, hl, h => by simp only [low] at hl; cases hl; exact h
 | .rangeFunc fo ps a b, rc, S, H, K, hl, h => by simp only [low] at hl; cases hl; exact h
 | .skip, rc, S, H, K, hl, h => TriMR.of (wCM_sound s .skip hl (by simp only [low] at hl; cases hl; exact h))
 | .label l, rc, S, H, K, hl, h => TriMR.of (wCM_sound s (.label l) hl (by simp only [low] at hl; cases hl; exact h))
 | .exit id, rc, S, H, K, hl, h => TriMR.of (wCM_sound s (.exit id) hl (by simp only [low] at hl; cases hl; exact h))
 | .ret, rc, S, H, K, hl, h => TriMR.of (wCM_sound s .ret hl (by simp only [low] at hl; cases hl; exact h))
 | .cond o x y, rc, S, H, K, hl, h => TriMR.of (wCM_sound s (.cond o x y) hl (by
  simp only [low] at hl
  split at hl <;> first | (cases hl; done) | skip
  split at hl <;> first | (cases hl; done) | skip
  cases hl; exact h))
 | .region id ops true, rc, S, H, K, hl, h => TriMR.of (wCM_sound s (.region id ops true) hl (by
  simp only [low, cond_true] at hl
  obtain ⟨_, hl⟩ := bif_some hl
  split at hl <;> first | (cases hl; done) | skip
  cases hl; exact h))
 | .region id ops false, rc, S, H, K, hl, h => TriMR.of (wCM_sound s (.region id ops false) hl (by
  simp only [low, cond_false] at hl
  split at hl <;> first | (cases hl; done) | skip
  cases hl; exact h))
 | .goto l, rc, S, H, K, hl, h => by simp only [low] at hl; cases hl
 | .refuse w, rc, S, H, K, hl, h => by simp only [low] at hl; cases hl
theorem fnM_lowR {f : FuncId} {fn : Func} {R : RC} {n : Nat} {rs : List ResultVar} {args : List Value} {H : Hp} {Q : Value → Hp → Prop} (s : Snd P kn) (hf : P.funcs[f]? = some fn) (hb : fn.body = some (at_ fn [])) (hn : fn.ntmps = n) (hz : fn.results.toList = rs) (hL : low P fn.ntmps (at_ fn []) = some R) (hl : args.length ≤ n)
  (h : wCMR P kn lo n R (argS args 0) H fun e S' H' D => (match e with | .normal => True | .ret => True | _ => False) ∧
   ((D = [] ∧ ∃ vs, resS P S' H' rs = some vs ∧ Q (retV vs) H') ∨
    ∃ r, D = [{ target := .collected r, args := #[] }] ∧ lo ≤ r ∧ H'.t.get r = some (.dfr (some [])) ∧ ∀ H2, H2.next = H'.next → Keep H' H2 [r] → ∃ vs, resS P S' H2 rs = some vs ∧ Q (retV vs) H2)) : FnM P lo f args H Q := by
 subst hn hz
 exact fnM_of_triR hf hb hl (wCMR_sound s _ hL h)
theorem wMR_seq {a : RC} {c : RC} {S : Rg} {H : Hp} {K : Exit → Rg → Hp → List Deferred → Prop} (h : wCMR P kn lo n a S H fun e S' H' D => match e with | .normal => wCMR P kn lo n c S' H' (fun e S2 H2 D2 => K e S2 H2 (D2 ++ D)) | e => K e S' H' D) : wCMR P kn lo n (.seq a c) S H K := h
theorem wMR_reg {ops : List RO} {S : Rg} {H : Hp} {K : Exit → Rg → Hp → List Deferred → Prop} (h : wOpsM P kn lo n ops S H fun S' H' => K .normal S' H' []) : wCMR P kn lo n (.reg ops) S H K := h
theorem wMR_block {id : Nat} {b : RC} {S : Rg} {H : Hp} {K : Exit → Rg → Hp → List Deferred → Prop} (h : wCMR P kn lo n b S H fun e S' H' D => match e with | .exit j => (bif Nat.beq j id then K .normal S' H' D else K (.exit j) S' H' D) | e => K e S' H' D) : wCMR P kn lo n (.block id b) S H K := h
theorem wMR_other {c : Code} {S : Rg} {H : Hp} {K : Exit → Rg → Hp → List Deferred → Prop} (h : TriMR P lo n c S H K) : wCMR P kn lo n (.other c) S H K := h
theorem wMR_ret {S : Rg} {H : Hp} {K : Exit → Rg → Hp → List Deferred → Prop} (h : K .ret S H []) : wCMR P kn lo n .ret S H K := h
end
end
end Go.Ax

/-! From what a function comes to, whatever is drawn, to a call as the statements have it. -/
namespace Go.Ax
open Go Go.RowKit
section
variable {P : Program} {kn : Kn} {lo : Nat}
def FnC (P : Program) (lo : Nat) (f : FuncId) (args : List Value) (H : Hp) (Q : Value → Hp → Prop) : Prop :=
 ∀ (r : Ren) (base : Nat) (w : World) (args' : Array Value), lo ≤ H.next → Rel P r base H w → LR r args args'.toList →
  Calls P f args' w fun e w' => ∃ v H' r' v', e = .returned v' ∧ Q v H' ∧ Post P lo base r H w r' H' w' ∧ VR r' v v'
theorem fnC_of_tri {f : FuncId} {fn : Func} {c : Code} {args : List Value} {H : Hp} {Q : Value → Hp → Prop} (hf : P.funcs[f]? = some fn) (hc : fn.body = some c) (hl : args.length ≤ fn.ntmps)
  (h : TriM P lo fn.ntmps false c (argS args 0) H fun e S' H' => (match e with | .normal => True | .ret => True | _ => False) ∧ ∃ vs, resS P S' H' fn.results.toList = some vs ∧ Q (retV vs) H') : FnC P lo f args H Q := by
 intro r base w args' hlo hrel hargs cs
 have hent : Frame.enter P f args' .normal = mkF f (args' ++ Array.replicate (fn.ntmps - args'.size) undef) [.code c] [] .normal none := by
  simp [Frame.enter, mkF, hf, hc]
 have hT := enter_tmps hargs fn.ntmps hl
 obtain ⟨e, S1, H1, T1, ⟨he, vs, hres, hq⟩, hk, r1, w1, tm, ds, pc1, hpost, hF, hS, hp1, hArr, _⟩ := h base r w { fn := f, n := fn.ntmps, T := trOf args 0 .nil, defers := [], round := none } _ [] none cs [] hlo hrel ⟨hT, .nil, rfl⟩ rfl rfl (knows_args args)
 simp only at hArr
 rw [← hent] at hArr
 have hu : unwindV P lo (fun _ _ _ _ => none) fn 1 { fn := f, n := fn.ntmps, T := T1, defers := [], round := none } H1 none = some (.ret (retV vs), H1) := by
  rw [unwindV]
  simp only [res_of (A := { fn := f, n := fn.ntmps, T := T1, defers := [], round := none }) hk hres]
  match vs with
  | [] => rfl
  | [v] => rfl
  | v :: u :: r => rfl
 have hD : DefN P lo (fun _ _ _ _ => none) := fun f cap args H p e H' p' h => by cases h
 have fin : ∀ (todo : List Item), Steps P (lone (Frame.enter P f args' .normal) cs w) (lone { mkF f tm todo ds .normal none with mode := .returning } cs w1) →
   ∃ e w' fr, (∃ v H' r' v', e = .returned v' ∧ Q v H' ∧ Post P lo base r H w r' H' w' ∧ VR r' v v') ∧ Comes P (lone (Frame.enter P f args' .normal) cs w) (lone fr cs w') e ∧ fr.fn = f ∧ fr.leaving P w' e := by
  intro todo hs
  obtain ⟨r', w', fr', q1, q2, q3, q4, q5⟩ := unwind_R hD hf 1 r1 w1 _ H1 ds none none _ H1 hu (Nat.le_trans hlo hpost.next) hpost.rel hF.D rfl { mkF f tm todo ds .normal none with mode := .returning } cs hF.T rfl rfl rfl
  obtain ⟨v', hv, ⟨a, b, d⟩⟩ := q5
  exact ⟨.returned v', w', fr', ⟨retV vs, H1, r', v', rfl, hq, hpost.trans hlo q1, hv⟩, hs.trans q4, q2, a, b, by rw [q3]; rfl, d⟩
 cases e with
 | normal => exact fin [] (hArr.trans (Steps.one mv_end))
 | ret =>
  obtain ⟨kx, hs⟩ := hArr
  exact fin _ (hs.trans (Steps.one mv_ret))
 | _ => exact he.elim
theorem fnC_low {f : FuncId} {fn : Func} {R : RC} {n : Nat} {rs : List ResultVar} {args : List Value} {H : Hp} {Q : Value → Hp → Prop} (s : Snd P kn) (hf : P.funcs[f]? = some fn) (hb : fn.body = some (at_ fn [])) (hn : fn.ntmps = n) (hz : fn.results.toList = rs) (hL : low P fn.ntmps (at_ fn []) = some R) (hl : args.length ≤ n)
  (h : wCM P kn lo n false R (argS args 0) H fun e S' H' => (match e with | .normal => True | .ret => True | _ => False) ∧ ∃ vs, resS P S' H' rs = some vs ∧ Q (retV vs) H') : FnC P lo f args H Q := by
 subst hn hz
 exact fnC_of_tri hf hb hl (wCM_sound s _ hL h)
theorem open_callC {f : FuncId} {args : List Value} {H : Hp} {b : Bool} {w : World} {r : Ren} {args' : Array Value}
  (hrel : Rel P r w.heap.size H w) (hr : ∀ b loc, r b = some loc → b < H.next) (ha : LR r args args'.toList) (h : FnC P H.next f args H fun v _ => v = .bool b) :
  Calls P f args' w fun e w' => e = .returned (.bool b) ∧ Below w.heap.size w w' :=
 (h r w.heap.size w args' (Nat.le_refl _) hrel ha).mono fun e w' ⟨v, H', r', v', he, hq, hp, hv⟩ => by
  subst hq
  have := bool_same hv
  subst this
  exact ⟨he, hp.below hrel fun b loc e => .inl (hr b loc e)⟩
theorem closed_callC {f : FuncId} {b : Bool} (h : FnC P 0 f [] { next := 0, t := .nil } fun v _ => v = .bool b) (w : World) : Calls P f #[] w fun e w' => e = .returned (.bool b) ∧ Below w.heap.size w w' := by
 have hrel : Rel P (fun _ => none) w.heap.size { next := 0, t := .nil } w := ⟨fun _ _ e => (by cases e), fun _ _ _ e => (by cases e), fun _ _ _ _ e => (by cases e), Nat.le_refl _⟩
 exact open_callC (args' := #[]) hrel (fun _ _ e => by cases e) (by simpa using LR.nil) h
end
end Go.Ax

/-! Short names for operations. -/
namespace Go.Ax
open Go Go.RowKit Go.Proofs
abbrev oM (d x : Nat) : RO := ⟨some d, none, .mov (.tmp x)⟩
abbrev oN (d : Nat) (x : Int) : RO := ⟨some d, none, .mov (.const (.int .i64 x))⟩
abbrev oG (d g : Nat) (t : Bool) (x : Nat) : RO := ⟨some d, some (g, t), .mov (.tmp x)⟩
abbrev oE (d x i t : Nat) : RO := ⟨some d, none, .pur ⟨some d, .extract (.tmp x) i, t, "", #[], none⟩⟩
abbrev oC (d f : Nat) (a : Array Operand) (t : Array TypeId) : RO := ⟨some d, none, .call ⟨.value (.func f), a, t⟩ true⟩
abbrev oH (d g : Nat) (b : Bool) (f : Nat) (a : Array Operand) (t : Array TypeId) : RO := ⟨some d, some (g, b), .call ⟨.value (.func f), a, t⟩ true⟩
abbrev oA (d x y : Nat) : RO := ⟨some d, none, .pur ⟨some d, .pick (.tmp x) (.tmp y) (.const (.bool false)), 4, "", #[], none⟩⟩
abbrev oO (d x y : Nat) : RO := ⟨some d, none, .pur ⟨some d, .pick (.tmp x) (.const (.bool true)) (.tmp y), 4, "", #[], none⟩⟩
abbrev oI (d x y s : Nat) : RO := ⟨some d, none, .idx (.tmp x) (.tmp y) s⟩
abbrev oL (d x s : Nat) : RO := ⟨some d, none, .ld (.tmp x) s⟩
abbrev oB (d : Nat) (o : BinOp) (x : Nat) (c : Int) : RO := ⟨some d, none, .cmpb o (.tmp x) (.const (.int .i64 c))⟩
abbrev oBg (d g : Nat) (t : Bool) (o : BinOp) (x : Nat) (c : Int) : RO := ⟨some d, some (g, t), .cmpb o (.tmp x) (.const (.int .i64 c))⟩
abbrev oQ (d : Nat) (o : BinOp) (x : Nat) (c : Int) : RO := ⟨some d, none, .cmp o (.tmp x) (.const (.int .i64 c))⟩
abbrev oR (d : Nat) (o : BinOp) (x : Nat) (c : Int) : RO := ⟨some d, none, .ari o (.tmp x) (.const (.int .i64 c))⟩
abbrev oS (d : Nat) (o : BinOp) (x y : Nat) : RO := ⟨some d, none, .ari o (.tmp x) (.tmp y)⟩
abbrev oD (d x s : Nat) : RO := ⟨some d, none, .lda (.tmp x) s⟩
abbrev oJ (d x s : Nat) : RO := ⟨some d, none, .addo (.tmp x) s⟩
abbrev oK (d t x : Nat) : RO := ⟨some d, none, .box t (.tmp x)⟩
abbrev oF (d : Nat) : RO := ⟨some d, none, .mov (.const (.bool false))⟩
abbrev oU (d x : Nat) : RO := ⟨some d, none, .pur ⟨some d, .unOp .not 4 (.tmp x), 4, "", #[], none⟩⟩
abbrev oV (d g : Nat) (t : Bool) (x : Nat) : RO := ⟨some d, some (g, t), .pur ⟨some d, .unOp .not 4 (.tmp x), 4, "", #[], none⟩⟩
abbrev oIg (d g : Nat) (t : Bool) (x y s : Nat) : RO := ⟨some d, some (g, t), .idx (.tmp x) (.tmp y) s⟩
abbrev oLg (d g : Nat) (t : Bool) (x s : Nat) : RO := ⟨some d, some (g, t), .ld (.tmp x) s⟩
abbrev oW (d x : Nat) : RO := ⟨some d, none, .len (.tmp x)⟩
theorem res_t1 {P : Program} {S : Rg} {H : Hp} {a : Nat} {u : Value} (ha : lk S a = some u) : resS P S H [.tmp a] = some [u] := by
 simp only [resS, ha]
theorem res_tt {P : Program} {S : Rg} {H : Hp} {a b : Nat} {u v : Value} (ha : lk S a = some u) (hb : lk S b = some v) : resS P S H [.tmp a, .tmp b] = some [u, v] := by
 simp only [resS, ha, hb]
end Go.Ax

/-! What 'low' makes of functions of pool (written by program). -/
namespace Go.Ax
open Go Go.RowKit Go.Proofs
theorem N7 : Try.f7.ntmps = 291 := by kernel_rfl
theorem Z7 : Try.f7.results.toList = (#[(.tmp 14)] : Array ResultVar).toList := by kernel_rfl
theorem B7 : Try.f7.body = some (at_ Try.f7 []) := by kernel_rfl
noncomputable def R7 : RC := (.seq (.reg [oK 7 24 0, oF 14])
 (.seq (.seq (.reg [oD 32 7 2, oC 33 10 #[(.tmp 32), (.const (.slice none 0 0))] #[24, 35], oM 34 33, oG 35 34 false 1, ⟨some 36, some (34, false), (.len (.tmp 35))⟩, oBg 37 34 false .eql 36 0, oO 38 34 37, oM 39 38, oG 40 39 false 1, ⟨some 41, some (39, false), (.len (.tmp 40))⟩, oBg 42 39 false .gtr 41 60, oO 43 39 42])
 (.cond (.tmp 43) (.seq (.reg [oC 44 11 #[] #[], oM 14 44])
 .ret)
 .skip))
 (.seq (.reg [oD 46 7 2, oM 47 1, oM 48 2, oC 49 18 #[(.tmp 46), (.tmp 47), (.tmp 48)] #[24, 35, 3], oM 45 49, oE 50 45 0 37, oE 51 45 1 3, oE 52 45 2 29, oM 15 50, oM 16 51, oM 17 52])
 (.seq (.seq (.reg [oM 53 17, oQ 54 .neq 53 0])
 (.cond (.tmp 54) (.seq (.reg [oM 55 15, oW 56 55, oB 57 .eql 56 0, oM 58 57, oH 59 58 true 11 #[] #[], oA 60 58 59, oM 14 60])
 .ret)
 .skip))
 (.seq (.seq (.reg [oM 61 1, oC 62 26 #[(.tmp 61)] #[35], oU 63 62, oM 64 63, oG 65 64 false 2, oBg 66 64 false .lss 65 0, oO 67 64 66, oM 68 67, oG 69 68 false 2, oBg 70 68 false .gtr 69 1073741824, oO 71 68 70])
 (.cond (.tmp 71) (.seq (.reg [oF 14])
 .ret)
 .skip))
 (.seq (.reg [oM 72 3, ⟨some 73, none, (.pur ⟨some 73, (.convert 5 3 (.tmp 72)), 3, "", #[], none⟩)⟩, oM 74 1, oW 75 74, oS 76 .rem 73 75, oM 18 76])
 (.seq (.reg [oM 77 1, oM 78 18, oI 79 77 78 3, oD 80 79 3, ⟨some 19, none, (.alc 26 [(.int .i64 0), (.int .i64 0), (.int .i64 0)])⟩, ⟨none, none, (.sta (.tmp 19) (.tmp 80) 3)⟩])
 (.seq (.reg [oM 81 4, oJ 82 19 1, oL 83 82 1, oR 84 .add 83 1, ⟨some 85, none, .pur ⟨some 85, (.convert 3 43 (.tmp 84)), 43, "", #[], none⟩⟩, ⟨some 86, none, .pur ⟨some 86, (.binOp .rem 43 (.tmp 81) (.tmp 85) 43), 43, "", #[], none⟩⟩, ⟨some 87, none, (.pur ⟨some 87, (.convert 43 3 (.tmp 86)), 3, "", #[], none⟩)⟩, oM 20 87])
 (.seq (.dreg [oJ 88 19 2, oL 89 88 1, oJ 90 19 1, oL 91 90 1, oM 92 20, oS 93 .sub 91 92, oR 94 .mul 93 255, oS 95 .sub 89 94, ⟨some 96, none, (.mm false (.const (.int .i64 0)) (.tmp 95))⟩, oJ 97 19 2, oL 98 97 1, oM 99 20, oR 100 .mul 99 255, ⟨some 101, none, (.mm true (.tmp 98) (.tmp 100))⟩, oM 21 96, oM 22 101] [32767, 511, 7680, 2048, 0, 512, 0, 255, 127, 60, 28, 0, 4, 0, 1, 0])
 (.seq (.reg [oM 102 21, oM 103 5, oM 104 22, oM 105 21, oS 106 .sub 104 105, oR 107 .add 106 1, ⟨some 108, none, .pur ⟨some 108, (.convert 3 43 (.tmp 107)), 43, "", #[], none⟩⟩, ⟨some 109, none, .pur ⟨some 109, (.binOp .rem 43 (.tmp 103) (.tmp 108) 43), 43, "", #[], none⟩⟩, ⟨some 110, none, (.pur ⟨some 110, (.convert 43 3 (.tmp 109)), 3, "", #[], none⟩)⟩, oS 111 .add 102 110, oM 23 111])
 (.seq (.reg [⟨some 112, none, (.mem ⟨some 112, (.buildSlice 35 0 #[]), 35, "", #[], none⟩)⟩, oM 113 1, ⟨some 114, none, (.mem ⟨some 114, (.call ⟨(.builtin .append), #[(.tmp 112), (.tmp 113)], #[35, 35]⟩), 35, "", #[], none⟩)⟩, oM 24 114])
 (.seq (.reg [oM 115 24, oM 116 18, oJ 117 19 0, oL 118 117 1, oM 119 20, oM 120 23, ⟨some 121, none, (.pur ⟨some 121, (.build 26 #[(0, (.tmp 118)), (1, (.tmp 119)), (2, (.tmp 120))]), 26, "", #[], none⟩)⟩, oI 122 115 116 3, ⟨none, none, (.sta (.tmp 122) (.tmp 121) 3)⟩])
 (.seq (.reg [oM 123 24, oJ 124 19 0, oL 125 124 1, oJ 126 19 1, oL 127 126 1, oM 128 20, oS 129 .sub 127 128, oJ 130 19 2, oL 131 130 1, oM 132 23, oS 133 .sub 131 132, ⟨some 134, none, .pur ⟨some 134, (.build 26 #[(0, (.tmp 125)), (1, (.tmp 129)), (2, (.tmp 133))]), 26, "", #[], none⟩⟩, ⟨some 135, none, (.mem ⟨some 135, (.buildSlice 35 1 #[(0, (.tmp 134))]), 35, "", #[], none⟩)⟩, ⟨some 136, none, (.mem ⟨some 136, (.call ⟨(.builtin .append), #[(.tmp 123), (.tmp 135)], #[35, 35]⟩), 35, "", #[], none⟩)⟩, oM 24 136])
 (.seq (.reg [oD 138 7 2, oM 139 24, oM 140 2, oC 141 18 #[(.tmp 138), (.tmp 139), (.tmp 140)] #[24, 35, 3], oM 137 141, oE 142 137 0 37, oE 143 137 1 3, oE 144 137 2 29, oM 25 142, oM 26 143, oM 27 144])
 (.seq (.reg [oD 146 7 2, oM 147 1, oM 148 2, oM 149 6, ⟨some 150, none, (.pur ⟨some 150, (.convert 54 3 (.tmp 149)), 3, "", #[], none⟩)⟩, oS 151 .add 148 150, ⟨some 152, none, (.mm true (.const (.int .i64 1073741824)) (.tmp 151))⟩, oC 153 18 #[(.tmp 146), (.tmp 147), (.tmp 152)] #[24, 35, 3], oM 145 153, oE 154 145 0 37, oE 155 145 1 3, oE 156 145 2 29, oM 28 154, oM 29 155, oM 30 156])
 (.seq (.seq (.reg [oM 157 27, oB 158 .neq 157 0, oM 159 158, oG 160 159 false 30, oBg 161 159 false .neq 160 0, oO 162 159 161, oM 163 162, oG 164 163 false 25, ⟨some 165, some (163, false), (.len (.tmp 164))⟩, oG 166 163 false 15, ⟨some 167, some (163, false), (.len (.tmp 166))⟩, ⟨some 168, some (163, false), (.cmpb .neq (.tmp 165) (.tmp 167))⟩, oO 169 163 168, oM 170 169, oG 171 170 false 28, ⟨some 172, some (170, false), (.len (.tmp 171))⟩, oG 173 170 false 15, ⟨some 174, some (170, false), (.len (.tmp 173))⟩, ⟨some 175, some (170, false), (.cmpb .neq (.tmp 172) (.tmp 174))⟩, oO 176 170 175])
 (.cond (.tmp 176) (.seq (.reg [oF 14])
 .ret)
 .skip))
 (.seq (.seq (.reg [oN 31 0])
 (.block 0 (.other (at_ Try.f7 [1, 1, 1, 1, 1, 1, 1, 1, 1, 1, 1, 1, 1, 1, 1, 1, 0, 1, 0]))))
 (.seq (.reg [oC 290 11 #[] #[], oM 14 290])
 .ret))))))))))))))))))
theorem L7 : low Try.prog Try.f7.ntmps (at_ Try.f7 []) = some R7 := by kernel_rfl
theorem E7_1 : at_ Try.f7 [1, 1, 1, 1, 1, 1, 1, 1, 1, 1, 1, 1, 1, 1, 1, 1, 0, 1, 0] = .loop (at_ Try.f7 [1, 1, 1, 1, 1, 1, 1, 1, 1, 1, 1, 1, 1, 1, 1, 1, 0, 1, 0, 0]) := by kernel_rfl
noncomputable def R7x1 : RC := (.seq (.seq (.reg [oM 177 31, oM 178 15, oW 179 178, ⟨some 180, none, (.cmp .lss (.tmp 177) (.tmp 179))⟩])
 (.cond (.tmp 180) .skip
 (.exit 0)))
 (.seq (.block 1 (.seq (.seq (.dreg [oM 183 25, oM 184 31, oI 185 183 184 5, oJ 186 185 0, oL 187 186 1, oM 188 15, oM 189 31, oI 190 188 189 5, oJ 191 190 0, oL 192 191 1, ⟨some 193, none, (.cmpb .neq (.tmp 187) (.tmp 192))⟩, oM 194 193, oG 195 194 false 28, oG 196 194 false 31, oIg 197 194 false 195 196 5, ⟨some 198, some (194, false), (.addo (.tmp 197) 0)⟩, oLg 199 194 false 198 1, oG 200 194 false 15, oG 201 194 false 31, oIg 202 194 false 200 201 5, ⟨some 203, some (194, false), (.addo (.tmp 202) 0)⟩, oLg 204 194 false 203 1, ⟨some 205, some (194, false), (.cmpb .neq (.tmp 199) (.tmp 204))⟩, oO 206 194 205, oM 207 206, oG 208 207 false 28, oG 209 207 false 31, oIg 210 207 false 208 209 5, ⟨some 211, some (207, false), (.addo (.tmp 210) 3)⟩, oLg 212 207 false 211 1, oG 213 207 false 15, oG 214 207 false 31, oIg 215 207 false 213 214 5, ⟨some 216, some (207, false), (.addo (.tmp 215) 3)⟩, oLg 217 207 false 216 1, ⟨some 218, some (207, false), (.cmpb .lss (.tmp 212) (.tmp 217))⟩, oO 219 207 218] [68719476735, 34359738367, 16139681791, 7549747199, 3254779903, 33554431, 33554431, 536870911, 268435455, 134217727, 33554431, 33554431, 16777215, 8388607, 4194303, 1970175, 921599, 397311, 4095, 4095, 65535, 32767, 16383, 4095, 4095, 2047, 1023, 480, 224, 96, 0, 0, 15, 7, 3, 0, 0])
 (.cond (.tmp 219) (.seq (.reg [oF 14])
 .ret)
 .skip))
 (.seq (.dreg [oM 220 15, oM 221 31, oI 222 220 221 5, oJ 223 222 0, oL 224 223 1, oJ 225 19 0, oL 226 225 1, ⟨some 227, none, (.cmpb .eql (.tmp 224) (.tmp 226))⟩, oM 228 227, oG 229 228 true 25, oG 230 228 true 31, oIg 231 228 true 229 230 5, ⟨some 232, some (228, true), (.addo (.tmp 231) 1)⟩, oLg 233 228 true 232 1, oG 234 228 true 15, oG 235 228 true 31, oIg 236 228 true 234 235 5, ⟨some 237, some (228, true), (.addo (.tmp 236) 1)⟩, oLg 238 228 true 237 1, ⟨some 239, some (228, true), (.cmpb .gtr (.tmp 233) (.tmp 238))⟩, oG 240 228 true 239, oG 241 240 false 25, oG 242 240 false 31, oIg 243 240 false 241 242 5, ⟨some 244, some (240, false), (.addo (.tmp 243) 3)⟩, oLg 245 240 false 244 1, oG 246 240 false 15, oG 247 240 false 31, oIg 248 240 false 246 247 5, ⟨some 249, some (240, false), (.addo (.tmp 248) 3)⟩, oLg 250 240 false 249 1, ⟨some 251, some (240, false), (.cmpb .gtr (.tmp 245) (.tmp 250))⟩, ⟨some 252, some (228, true), (.pur ⟨some 252, (.pick (.tmp 240) (.const (.bool true)) (.tmp 251)), 4, "", #[], none⟩)⟩, oA 253 228 252, oM 254 253, oG 255 254 false 15, oG 256 254 false 31, oIg 257 254 false 255 256 5, ⟨some 258, some (254, false), (.addo (.tmp 257) 0)⟩, oLg 259 254 false 258 1, ⟨some 260, some (254, false), (.addo (.tmp 19) 0)⟩, oLg 261 254 false 260 1, ⟨some 262, some (254, false), (.cmpb .neq (.tmp 259) (.tmp 261))⟩, oG 263 254 false 262, oG 264 263 true 25, oG 265 263 true 31, oIg 266 263 true 264 265 5, ⟨some 267, some (263, true), (.addo (.tmp 266) 1)⟩, oLg 268 263 true 267 1, oG 269 263 true 15, oG 270 263 true 31, oIg 271 263 true 269 270 5, ⟨some 272, some (263, true), (.addo (.tmp 271) 1)⟩, oLg 273 263 true 272 1, ⟨some 274, some (263, true), (.cmpb .neq (.tmp 268) (.tmp 273))⟩, oG 275 263 true 274, oG 276 275 false 25, oG 277 275 false 31, oIg 278 275 false 276 277 5, ⟨some 279, some (275, false), (.addo (.tmp 278) 3)⟩, oLg 280 275 false 279 1, oG 281 275 false 15, oG 282 275 false 31, oIg 283 275 false 281 282 5, ⟨some 284, some (275, false), (.addo (.tmp 283) 3)⟩, oLg 285 275 false 284 1, ⟨some 286, some (275, false), (.cmpb .lss (.tmp 280) (.tmp 285))⟩, ⟨some 287, some (263, true), .pur ⟨some 287, (.pick (.tmp 275) (.const (.bool true)) (.tmp 286)), 4, "", #[], none⟩⟩, ⟨some 288, some (254, false), (.pur ⟨some 288, (.pick (.tmp 263) (.tmp 287) (.const (.bool false))), 4, "", #[], none⟩)⟩, oO 289 254 288] [590295810358705651711, 295147905179352825855, 147573952589676412927, 73786976294838206463, 34659702732243337215, 16212958658533785599, 6989586621679009791, 72057594037927935, 72057594037927935, 1152921504606846975, 576460752303423487, 288230376151711743, 72057594037927935, 72057594037927935, 36028797018963967, 18014398509481983, 8461841487364095, 3958241859993599, 1706442046308351, 17592186044415, 17592186044415, 281474976710655, 140737488355327, 70368744177663, 17592186044415, 17592186044415, 8796093022207, 4398046511103, 1133871366143, 34359738367, 549755813887, 274877906943, 137438953471, 34359738367, 34359738367, 17179869183, 8589934591, 4294967295, 2147483647, 1008730111, 471859199, 203423743, 2097151, 2097151, 33554431, 16777215, 8388607, 2097151, 2097151, 1048575, 524287, 246271, 115199, 49663, 511, 511, 8191, 4095, 2047, 511, 511, 255, 127, 32, 0, 15, 7, 3, 0, 0])
 (.cond (.tmp 289) (.seq (.reg [oF 14])
 .ret)
 .skip))))
 (.reg [oM 181 31, oR 182 .add 181 1, oM 31 182])))
theorem L7x1 : low Try.prog Try.f7.ntmps (at_ Try.f7 [1, 1, 1, 1, 1, 1, 1, 1, 1, 1, 1, 1, 1, 1, 1, 1, 0, 1, 0, 0]) = some R7x1 := by kernel_rfl
theorem N10 : Try.f10.ntmps = 14 := by kernel_rfl
theorem Z10 : Try.f10.results.toList = (#[(.tmp 4)] : Array ResultVar).toList := by kernel_rfl
theorem B10 : Try.f10.body = some (at_ Try.f10 []) := by kernel_rfl
noncomputable def R10 : RC := (.seq (.reg [oK 2 24 0, oF 4])
 (.seq (.reg [oJ 5 2 0, oL 6 5 1, oW 7 6, oB 8 .gtr 7 12, oM 9 8, oG 10 9 false 1, ⟨some 11, some (9, false), (.len (.tmp 10))⟩, oBg 12 9 false .gtr 11 132, oO 13 9 12, oM 4 13])
 .ret))
theorem L10 : low Try.prog Try.f10.ntmps (at_ Try.f10 []) = some R10 := by kernel_rfl
theorem N11 : Try.f11.ntmps = 107 := by kernel_rfl
theorem Z11 : Try.f11.results.toList = (#[(.tmp 0)] : Array ResultVar).toList := by kernel_rfl
theorem B11 : Try.f11.body = some (at_ Try.f11 []) := by kernel_rfl
noncomputable def R11 : RC := (.seq (.reg [oF 0])
 (.seq (.reg [oC 16 27 #[] #[], oM 15 16, oE 17 15 0 24, oE 18 15 1 35, ⟨some 1, none, (.alc 24 [(.slice none 0 0), (.int .i64 0)])⟩, ⟨none, none, (.sta (.tmp 1) (.tmp 17) 2)⟩, oM 2 18])
 (.seq (.dreg [oD 20 1 2, oM 21 2, ⟨some 22, none, (.idx (.tmp 21) (.const (.int .i64 1)) 3)⟩, oD 23 22 3, oC 24 12 #[(.tmp 20), (.tmp 23)] #[24, 26], oM 19 24, oE 25 19 0 3, oE 26 19 1 3, oE 27 19 2 29, oM 3 25, oM 4 26, oM 5 27] [2047, 767, 127, 63, 63, 63, 31, 15, 6, 2, 0, 0])
 (.seq (.reg [oD 29 1 2, oM 30 2, oC 31 16 #[(.tmp 29), (.tmp 30)] #[24, 35], oM 28 31, oE 32 28 0 3, oE 33 28 1 29, oM 6 32, oM 7 33])
 (.seq (.reg [oD 35 1 2, oM 36 2, oC 37 18 #[(.tmp 35), (.tmp 36), (.const (.int .i64 100000))] #[24, 35, 3], oM 34 37, oE 38 34 0 37, oE 39 34 1 3, oE 40 34 2 29, oM 8 38, oM 9 39, oM 10 40])
 (.seq (.reg [oD 42 1 2, oM 43 2, oC 44 20 #[(.tmp 42), (.tmp 43), (.const (.int .i64 8)), (.const (.int .i64 50000))] #[24, 35, 3, 3], oM 41 44, oE 45 41 0 3, oE 46 41 1 29, oM 11 45, oM 12 46])
 (.seq (.dreg [oD 48 1 2, oM 49 2, ⟨some 50, none, (.idx (.tmp 49) (.const (.int .i64 0)) 3)⟩, oD 51 50 3, oC 52 14 #[(.tmp 48), (.tmp 51), (.const (.int .i64 60000))] #[24, 26, 3], oM 47 52, oE 53 47 0 3, oE 54 47 1 29, oM 13 53, oM 14 54] [511, 127, 63, 63, 31, 15, 6, 2, 0, 0])
 (.seq (.seq (.reg [oM 55 3, oB 56 .neq 55 45000, oM 57 56, oG 58 57 false 4, oBg 59 57 false .neq 58 1, oO 60 57 59, oM 61 60, oG 62 61 false 5, oBg 63 61 false .neq 62 0, oO 64 61 63, oM 65 64, oG 66 65 false 6, oBg 67 65 false .neq 66 43200, oO 68 65 67, oM 69 68, oG 70 69 false 7, oBg 71 69 false .neq 70 0, oO 72 69 71, oM 73 72, oG 74 73 false 8, ⟨some 75, some (73, false), (.len (.tmp 74))⟩, oBg 76 73 false .neq 75 2, oO 77 73 76, oM 78 77, oG 79 78 false 8, ⟨some 80, some (78, false), .idx (.tmp 79) (.const (.int .i64 0)) 5⟩, ⟨some 81, some (78, false), .lda (.tmp 80) 5⟩, ⟨some 82, some (78, false), .pur ⟨some 82, (.build 50 #[(0, (.const (.int .i64 3))), (1, (.const (.int .i64 63000))), (2, (.const (.int .i64 25200))), (3, (.const (.int .i64 58333))), (4, (.const (.int .i64 33133)))]), 50, "", #[], none⟩⟩, ⟨some 83, some (78, false), (.pur ⟨some 83, (.binOp .neq 50 (.tmp 81) (.tmp 82) 50), 4, "", #[], none⟩)⟩, oO 84 78 83, oM 85 84, oG 86 85 false 9, oBg 87 85 false .neq 86 1, oO 88 85 87, oM 89 88, oG 90 89 false 10, oBg 91 89 false .neq 90 0, oO 92 89 91])
 (.cond (.tmp 92) (.seq (.reg [oF 0])
 .ret)
 .skip))
 (.seq (.reg [oM 93 11, oB 94 .eql 93 120000, oM 95 94, oG 96 95 true 12, oBg 97 95 true .eql 96 0, oA 98 95 97, oM 99 98, oG 100 99 true 13, oBg 101 99 true .eql 100 60000000, oA 102 99 101, oM 103 102, oG 104 103 true 14, oBg 105 103 true .eql 104 0, oA 106 103 105, oM 0 106])
 .ret)))))))))
theorem L11 : low Try.prog Try.f11.ntmps (at_ Try.f11 []) = some R11 := by kernel_rfl
theorem N12 : Try.f12.ntmps = 22 := by kernel_rfl
theorem Z12 : Try.f12.results.toList = (#[(.tmp 4), (.tmp 5), (.tmp 6)] : Array ResultVar).toList := by kernel_rfl
theorem B12 : Try.f12.body = some (at_ Try.f12 []) := by kernel_rfl
noncomputable def R12 : RC := (.seq (.reg [oK 2 24 0, oK 3 26 1, oN 4 0, oN 5 0, oN 6 0])
 (.seq (.seq (.reg [oD 7 2 2, oC 8 28 #[(.tmp 7)] #[24], oU 9 8, oM 10 9, ⟨some 11, some (10, false), (.lda (.tmp 3) 3)⟩, oH 12 10 false 29 #[(.tmp 11)] #[26], oO 13 10 12])
 (.cond (.tmp 13) (.seq (.reg [oN 4 0, oN 5 0, oN 6 1])
 .ret)
 .skip))
 (.seq (.reg [oD 15 2 2, oD 16 3 3, oC 17 30 #[(.tmp 15), (.tmp 16)] #[24, 26], oM 14 17, oE 18 14 0 3, oE 19 14 1 3, oM 4 18, oM 5 19])
 (.seq (.reg [oM 20 4, oM 21 5, oM 4 20, oM 5 21, oN 6 0])
 .ret))))
theorem L12 : low Try.prog Try.f12.ntmps (at_ Try.f12 []) = some R12 := by kernel_rfl
theorem N14 : Try.f14.ntmps = 25 := by kernel_rfl
theorem Z14 : Try.f14.results.toList = (#[(.tmp 6), (.tmp 7)] : Array ResultVar).toList := by kernel_rfl
theorem B14 : Try.f14.body = some (at_ Try.f14 []) := by kernel_rfl
noncomputable def R14 : RC := (.seq (.reg [oK 3 24 0, oK 4 26 1, oK 5 3 2, oN 6 0, oN 7 0])
 (.seq (.seq (.reg [oD 8 3 2, oC 9 28 #[(.tmp 8)] #[24], oU 10 9, oM 11 10, ⟨some 12, some (11, false), (.lda (.tmp 4) 3)⟩, oH 13 11 false 29 #[(.tmp 12)] #[26], oO 14 11 13])
 (.cond (.tmp 14) (.seq (.reg [oN 6 0, oN 7 1])
 .ret)
 .skip))
 (.seq (.seq (.reg [oL 15 5 1, oC 16 32 #[(.tmp 15), (.const (.int .i64 1073741824))] #[3, 3], oU 17 16])
 (.cond (.tmp 17) (.seq (.reg [oN 6 0, oN 7 2])
 .ret)
 .skip))
 (.seq (.reg [oJ 18 4 1, oL 19 18 1, oR 20 .mul 19 255, ⟨some 21, none, (.pur ⟨some 21, (.makeFunc (.func 34) #[] #[(.tmp 4), (.tmp 3), (.tmp 5)]), 64, "", #[], none⟩)⟩, oC 22 33 #[(.tmp 20), (.tmp 21)] #[3, 64], oE 23 22 0 3, oE 24 22 1 29, oM 6 23, oM 7 24])
 .ret))))
theorem L14 : low Try.prog Try.f14.ntmps (at_ Try.f14 []) = some R14 := by kernel_rfl
theorem N16 : Try.f16.ntmps = 29 := by kernel_rfl
theorem Z16 : Try.f16.results.toList = (#[(.tmp 4), (.tmp 5)] : Array ResultVar).toList := by kernel_rfl
theorem B16 : Try.f16.body = some (at_ Try.f16 []) := by kernel_rfl
noncomputable def R16 : RC := (.seq (.reg [oK 2 24 0, oN 4 0, oN 5 0])
 (.seq (.seq (.reg [oD 8 2 2, oC 9 28 #[(.tmp 8)] #[24], oU 10 9, oM 11 10, oG 12 11 false 1, oH 13 11 false 36 #[(.tmp 12)] #[35], oV 14 11 false 13, oO 15 11 14])
 (.cond (.tmp 15) (.seq (.reg [oN 4 0, oN 5 1])
 .ret)
 .skip))
 (.seq (.seq (.reg [oD 16 2 2, oM 17 1, oC 18 37 #[(.tmp 16), (.tmp 17)] #[24, 35], ⟨some 19, none, (.rng (.tmp 18))⟩])
 (.block 0 (.other (at_ Try.f16 [1, 1, 0, 1, 0]))))
 (.seq (.reg [oM 28 4, oM 4 28, oN 5 0])
 .ret))))
theorem L16 : low Try.prog Try.f16.ntmps (at_ Try.f16 []) = some R16 := by kernel_rfl
theorem E16_1 : at_ Try.f16 [1, 1, 0, 1, 0] = .loop (at_ Try.f16 [1, 1, 0, 1, 0, 0]) := by kernel_rfl
noncomputable def R16x1 : RC := (.seq (.reg [⟨some 20, none, (.nxt (.tmp 19))⟩, oE 21 20 0 4])
 (.seq (.cond (.tmp 21) .skip
 (.exit 0))
 (.block 1 (.seq (.reg [⟨some 22, none, (.ent (.tmp 19))⟩, oE 23 22 1 70, ⟨some 7, none, (.alc 70 [(.int .i64 0), (.int .i64 0), (.int .i64 0)])⟩, ⟨none, none, (.sta (.tmp 7) (.tmp 23) 3)⟩])
 (.reg [oM 24 4, oJ 25 7 2, oL 26 25 1, oS 27 .add 24 26, oM 4 27])))))
theorem L16x1 : low Try.prog Try.f16.ntmps (at_ Try.f16 [1, 1, 0, 1, 0, 0]) = some R16x1 := by kernel_rfl
theorem N18 : Try.f18.ntmps = 45 := by kernel_rfl
theorem Z18 : Try.f18.results.toList = (#[(.tmp 6), (.tmp 7), (.tmp 8)] : Array ResultVar).toList := by kernel_rfl
theorem B18 : Try.f18.body = some (at_ Try.f18 []) := by kernel_rfl
noncomputable def R18 : RC := (.seq (.reg [oK 3 24 0, ⟨some 6, none, (.mov (.const (.slice none 0 0)))⟩, oN 7 0, oN 8 0])
 (.seq (.seq (.reg [oD 11 3 2, oC 12 28 #[(.tmp 11)] #[24], oU 13 12, oM 14 13, oG 15 14 false 1, oH 16 14 false 36 #[(.tmp 15)] #[35], oV 17 14 false 16, oO 18 14 17])
 (.cond (.tmp 18) (.seq (.reg [⟨some 6, none, (.mov (.const (.slice none 0 0)))⟩, oN 7 0, oN 8 1])
 .ret)
 .skip))
 (.seq (.seq (.reg [oM 19 2, oC 20 32 #[(.tmp 19), (.const (.int .i64 1073741824))] #[3, 3], oU 21 20])
 (.cond (.tmp 21) (.seq (.reg [⟨some 6, none, (.mov (.const (.slice none 0 0)))⟩, oN 7 0, oN 8 2])
 .ret)
 .skip))
 (.seq (.reg [oM 22 2, oM 7 22])
 (.seq (.seq (.reg [oD 23 3 2, oM 24 1, oC 25 37 #[(.tmp 23), (.tmp 24)] #[24, 35], oM 26 2, oC 27 39 #[(.tmp 25), (.tmp 26)] #[67, 3], oW 28 27, oN 29 0])
 (.block 0 (.other (at_ Try.f18 [1, 1, 1, 1, 0, 1, 0]))))
 (.seq (.reg [oM 43 6, oM 44 7, oM 6 43, oM 7 44, oN 8 0])
 .ret))))))
theorem L18 : low Try.prog Try.f18.ntmps (at_ Try.f18 []) = some R18 := by kernel_rfl
theorem E18_1 : at_ Try.f18 [1, 1, 1, 1, 0, 1, 0] = .loop (at_ Try.f18 [1, 1, 1, 1, 0, 1, 0, 0]) := by kernel_rfl
noncomputable def R18x1 : RC := (.seq (.reg [⟨some 30, none, (.cmp .lss (.tmp 29) (.tmp 28))⟩])
 (.seq (.cond (.tmp 30) .skip
 (.exit 0))
 (.seq (.block 1 (.seq (.reg [oI 31 27 29 4, oD 32 31 4, ⟨some 10, none, (.alc 75 [(.int .i64 0), (.int .i64 0), (.int .i64 0), (.int .i64 0)])⟩, ⟨none, none, (.sta (.tmp 10) (.tmp 32) 4)⟩])
 (.seq (.reg [oM 33 6, oD 34 10 4, oC 35 40 #[(.tmp 34)] #[75], ⟨some 36, none, (.mem ⟨some 36, (.buildSlice 37 1 #[(0, (.tmp 35))]), 37, "", #[], none⟩)⟩, ⟨some 37, none, (.mem ⟨some 37, (.call ⟨(.builtin .append), #[(.tmp 33), (.tmp 36)], #[37, 37]⟩), 37, "", #[], none⟩)⟩, oM 6 37])
 (.reg [oM 38 7, oJ 39 10 3, oL 40 39 1, oS 41 .sub 38 40, oM 7 41]))))
 (.reg [oR 42 .add 29 1, oM 29 42]))))
theorem L18x1 : low Try.prog Try.f18.ntmps (at_ Try.f18 [1, 1, 1, 1, 0, 1, 0, 0]) = some R18x1 := by kernel_rfl
theorem N20 : Try.f20.ntmps = 42 := by kernel_rfl
theorem Z20 : Try.f20.results.toList = (#[(.tmp 8), (.tmp 9)] : Array ResultVar).toList := by kernel_rfl
theorem B20 : Try.f20.body = some (at_ Try.f20 []) := by kernel_rfl
noncomputable def R20 : RC := (.seq (.reg [oK 4 24 0, oK 6 3 2, oK 7 3 3, oN 8 0, oN 9 0])
 (.seq (.seq (.reg [oD 14 4 2, oC 15 28 #[(.tmp 14)] #[24], oU 16 15, oM 17 16, oG 18 17 false 1, oH 19 17 false 36 #[(.tmp 18)] #[35], oV 20 17 false 19, oO 21 17 20])
 (.cond (.tmp 21) (.seq (.reg [oN 8 0, oN 9 1])
 .ret)
 .skip))
 (.seq (.reg [oD 22 4 2, oM 23 1, oC 24 37 #[(.tmp 22), (.tmp 23)] #[24, 35], ⟨some 10, none, (.alc 67 [(.map none)])⟩, ⟨none, none, .st (.tmp 10) (.tmp 24)⟩])
 (.seq (.seq (.reg [oL 26 10 1, oL 27 6 1, ⟨some 28, none, (.mem ⟨some 28, (.lookup 67 (.tmp 26) (.tmp 27) true), 81, "", #[], none⟩)⟩, oM 25 28, oE 29 25 0 70, oE 30 25 1 4, ⟨some 11, none, (.alc 70 [(.int .i64 0), (.int .i64 0), (.int .i64 0)])⟩, ⟨none, none, (.sta (.tmp 11) (.tmp 29) 3)⟩, oM 12 30])
 (.seq (.reg [oM 31 12, oU 32 31])
 (.cond (.tmp 32) (.seq (.reg [oN 8 0, oN 9 4])
 .ret)
 .skip)))
 (.seq (.seq (.reg [oL 33 7 1, oC 34 32 #[(.tmp 33), (.const (.int .i64 1073741824))] #[3, 3], oU 35 34])
 (.cond (.tmp 35) (.seq (.reg [oN 8 0, oN 9 2])
 .ret)
 .skip))
 (.seq (.reg [oL 36 10 1, oC 37 44 #[(.tmp 36)] #[67], ⟨some 13, none, (.alc 3 [(.int .i64 0)])⟩, ⟨none, none, .st (.tmp 13) (.tmp 37)⟩])
 (.seq (.reg [⟨some 38, none, (.pur ⟨some 38, (.makeFunc (.func 45) #[] #[(.tmp 10), (.tmp 6), (.tmp 13), (.tmp 7)]), 64, "", #[], none⟩)⟩, oC 39 33 #[(.const (.int .i64 1073741824)), (.tmp 38)] #[3, 64], oE 40 39 0 3, oE 41 39 1 29, oM 8 40, oM 9 41])
 .ret)))))))
theorem L20 : low Try.prog Try.f20.ntmps (at_ Try.f20 []) = some R20 := by kernel_rfl
theorem N24 : Try.f24.ntmps = 19 := by kernel_rfl
theorem Z24 : Try.f24.results.toList = (#[(.tmp 2)] : Array ResultVar).toList := by kernel_rfl
theorem B24 : Try.f24.body = some (at_ Try.f24 []) := by kernel_rfl
noncomputable def R24 : RC := (.seq (.reg [oK 1 26 0, oF 2])
 (.seq (.reg [oJ 3 1 0, oL 4 3 1, oC 5 35 #[(.tmp 4), (.const (.int .i64 0)), (.const (.int .i64 1023))] #[3, 3, 3], oM 6 5, ⟨some 7, some (6, true), (.addo (.tmp 1) 1)⟩, oLg 8 6 true 7 1, oH 9 6 true 35 #[(.tmp 8), (.const (.int .i64 0)), (.const (.int .i64 134217728))] #[3, 3, 3], oA 10 6 9, oM 11 10, ⟨some 12, some (11, true), (.addo (.tmp 1) 2)⟩, oLg 13 11 true 12 1, ⟨some 14, some (11, true), (.addo (.tmp 1) 1)⟩, oLg 15 11 true 14 1, ⟨some 16, some (11, true), (.ari .mul (.tmp 15) (.const (.int .i64 255)))⟩, oH 17 11 true 35 #[(.tmp 13), (.const (.int .i64 0)), (.tmp 16)] #[3, 3, 3], oA 18 11 17, oM 2 18])
 .ret))
theorem L24 : low Try.prog Try.f24.ntmps (at_ Try.f24 []) = some R24 := by kernel_rfl
theorem N26 : Try.f26.ntmps = 23 := by kernel_rfl
theorem Z26 : Try.f26.results.toList = (#[(.tmp 2)] : Array ResultVar).toList := by kernel_rfl
theorem B26 : Try.f26.body = some (at_ Try.f26 []) := by kernel_rfl
noncomputable def R26 : RC := (.seq (.reg [oF 2])
 (.seq (.seq (.reg [oN 3 0])
 (.block 0 (.other (at_ Try.f26 [1, 0, 1, 0]))))
 (.seq (.reg [oM 20 0, oW 21 20, oQ 22 .leq 21 128, oM 2 22])
 .ret)))
theorem L26 : low Try.prog Try.f26.ntmps (at_ Try.f26 []) = some R26 := by kernel_rfl
theorem E26_1 : at_ Try.f26 [1, 0, 1, 0] = .loop (at_ Try.f26 [1, 0, 1, 0, 0]) := by kernel_rfl
noncomputable def R26x1 : RC := (.seq (.seq (.reg [oM 4 3, oM 5 0, oW 6 5, ⟨some 7, none, (.cmpb .lss (.tmp 4) (.tmp 6))⟩, oM 8 7, oG 9 8 true 3, oBg 10 8 true .leq 9 128, oA 11 8 10])
 (.cond (.tmp 11) .skip
 (.exit 0)))
 (.seq (.block 1 (.seq (.reg [oM 14 0, oM 15 3, oI 16 14 15 3, oD 17 16 3, oC 18 24 #[(.tmp 17)] #[26], oU 19 18])
 (.cond (.tmp 19) (.seq (.reg [oF 2])
 .ret)
 .skip)))
 (.reg [oM 12 3, oR 13 .add 12 1, oM 3 13])))
theorem L26x1 : low Try.prog Try.f26.ntmps (at_ Try.f26 [1, 0, 1, 0, 0]) = some R26x1 := by kernel_rfl
theorem N27 : Try.f27.ntmps = 12 := by kernel_rfl
theorem Z27 : Try.f27.results.toList = (#[(.cell 0 24), (.tmp 1)] : Array ResultVar).toList := by kernel_rfl
theorem B27 : Try.f27.body = some (at_ Try.f27 []) := by kernel_rfl
noncomputable def R27 : RC := (.seq (.reg [⟨some 0, none, (.alc 24 [(.slice none 0 0), (.int .i64 0)])⟩, ⟨some 1, none, .mov (.const (.slice none 0 0))⟩])
 (.seq (.reg [⟨some 3, none, .pur ⟨some 3, (.build 47 #[(0, (.const (.int .i64 30000))), (1, (.const (.int .i64 500)))]), 47, "", #[], none⟩⟩, ⟨some 4, none, .pur ⟨some 4, (.build 47 #[(0, (.const (.int .i64 90000)))]), 47, "", #[], none⟩⟩, ⟨some 5, none, (.mem ⟨some 5, (.buildSlice 22 2 #[(0, (.tmp 3)), (1, (.tmp 4))]), 22, "", #[], none⟩)⟩, ⟨some 6, none, .pur ⟨some 6, (.build 24 #[(0, (.tmp 5)), (1, (.const (.int .i64 400)))]), 24, "", #[], none⟩⟩, ⟨some 2, none, (.alc 24 [(.slice none 0 0), (.int .i64 0)])⟩, ⟨none, none, (.sta (.tmp 2) (.tmp 6) 2)⟩])
 (.seq (.reg [oD 7 2 2, ⟨some 8, none, .pur ⟨some 8, (.build 26 #[(0, (.const (.int .i64 3))), (1, (.const (.int .i64 1000000))), (2, (.const (.int .i64 50000000)))]), 26, "", #[], none⟩⟩, ⟨some 9, none, .pur ⟨some 9, (.build 26 #[(0, (.const (.int .i64 8))), (1, (.const (.int .i64 500000))), (2, (.const (.int .i64 75000000)))]), 26, "", #[], none⟩⟩, ⟨some 10, none, .pur ⟨some 10, (.build 26 #[(0, (.const (.int .i64 3))), (1, (.const (.int .i64 200000))), (2, (.const (.int .i64 4000000)))]), 26, "", #[], none⟩⟩, ⟨some 11, none, (.mem ⟨some 11, (.buildSlice 35 3 #[(0, (.tmp 8)), (1, (.tmp 9)), (2, (.tmp 10))]), 35, "", #[], none⟩)⟩, ⟨none, none, (.sta (.tmp 0) (.tmp 7) 2)⟩, oM 1 11])
 .ret)))
theorem L27 : low Try.prog Try.f27.ntmps (at_ Try.f27 []) = some R27 := by kernel_rfl
theorem N28 : Try.f28.ntmps = 24 := by kernel_rfl
theorem Z28 : Try.f28.results.toList = (#[(.tmp 2)] : Array ResultVar).toList := by kernel_rfl
theorem B28 : Try.f28.body = some (at_ Try.f28 []) := by kernel_rfl
noncomputable def R28 : RC := (.seq (.reg [oK 1 24 0, oF 2])
 (.seq (.reg [oJ 4 1 0, oL 5 4 1, oW 6 5, oM 3 6])
 (.seq (.reg [oM 7 3, oB 8 .geq 7 1, oM 9 8, oG 10 9 true 3, oBg 11 9 true .leq 10 8, oA 12 9 11, oM 13 12, ⟨some 14, some (13, true), (.addo (.tmp 1) 0)⟩, oLg 15 13 true 14 1, oH 16 13 true 47 #[(.tmp 15), (.func 48)] #[22, 84], oV 17 13 true 16, oA 18 13 17, oM 19 18, ⟨some 20, some (19, true), (.addo (.tmp 1) 1)⟩, oLg 21 19 true 20 1, oH 22 19 true 32 #[(.tmp 21), (.const (.int .i64 1000))] #[3, 3], oA 23 19 22, oM 2 23])
 .ret)))
theorem L28 : low Try.prog Try.f28.ntmps (at_ Try.f28 []) = some R28 := by kernel_rfl
theorem N29 : Try.f29.ntmps = 22 := by kernel_rfl
theorem Z29 : Try.f29.results.toList = (#[(.tmp 2)] : Array ResultVar).toList := by kernel_rfl
theorem B29 : Try.f29.body = some (at_ Try.f29 []) := by kernel_rfl
noncomputable def R29 : RC := (.seq (.reg [oK 1 26 0, oF 2])
 (.seq (.reg [oJ 3 1 0, oL 4 3 1, oC 5 32 #[(.tmp 4), (.const (.int .i64 1023))] #[3, 3], oU 6 5, oM 7 6, ⟨some 8, some (7, false), (.addo (.tmp 1) 1)⟩, oLg 9 7 false 8 1, oH 10 7 false 32 #[(.tmp 9), (.const (.int .i64 134217728))] #[3, 3], oV 11 7 false 10, oO 12 7 11, oM 13 12, ⟨some 14, some (13, false), (.addo (.tmp 1) 2)⟩, oLg 15 13 false 14 1, ⟨some 16, some (13, false), (.addo (.tmp 1) 1)⟩, oLg 17 13 false 16 1, ⟨some 18, some (13, false), (.ari .mul (.tmp 17) (.const (.int .i64 255)))⟩, oH 19 13 false 32 #[(.tmp 15), (.tmp 18)] #[3, 3], oV 20 13 false 19, oO 21 13 20, oM 2 21])
 .ret))
theorem L29 : low Try.prog Try.f29.ntmps (at_ Try.f29 []) = some R29 := by kernel_rfl
theorem N30 : Try.f30.ntmps = 17 := by kernel_rfl
theorem Z30 : Try.f30.results.toList = (#[(.tmp 4), (.tmp 5)] : Array ResultVar).toList := by kernel_rfl
theorem B30 : Try.f30.body = some (at_ Try.f30 []) := by kernel_rfl
noncomputable def R30 : RC := (.seq (.reg [oK 2 24 0, oK 3 26 1, oN 4 0, oN 5 0])
 (.seq (.reg [oJ 8 2 0, oL 9 8 1, ⟨some 10, none, (.pur ⟨some 10, (.makeFunc (.func 50) #[] #[(.tmp 3)]), 86, "", #[], none⟩)⟩, oC 11 49 #[(.tmp 9), (.tmp 10)] #[22, 86], oM 7 11, oE 12 7 0 3, oE 13 7 1 3, oM 5 12, oM 6 13])
 (.seq (.reg [oM 14 6, oR 15 .quo 14 1000000, oM 16 5, oM 4 15, oM 5 16])
 .ret)))
theorem L30 : low Try.prog Try.f30.ntmps (at_ Try.f30 []) = some R30 := by kernel_rfl
theorem N32 : Try.f32.ntmps = 12 := by kernel_rfl
theorem Z32 : Try.f32.results.toList = (#[(.tmp 4)] : Array ResultVar).toList := by kernel_rfl
theorem B32 : Try.f32.body = some (at_ Try.f32 []) := by kernel_rfl
noncomputable def R32 : RC := (.seq (.reg [oF 4])
 (.seq (.reg [oM 5 0, ⟨some 6, none, (.cmpb .leq (.const (.int .i64 0)) (.tmp 5))⟩, oM 7 6, oG 8 7 true 0, oG 9 7 true 1, ⟨some 10, some (7, true), (.cmpb .leq (.tmp 8) (.tmp 9))⟩, oA 11 7 10, oM 4 11])
 .ret))
theorem L32 : low Try.prog Try.f32.ntmps (at_ Try.f32 []) = some R32 := by kernel_rfl
theorem N33 : Try.f33.ntmps = 15 := by kernel_rfl
theorem Z33 : Try.f33.results.toList = (#[(.tmp 4), (.tmp 5)] : Array ResultVar).toList := by kernel_rfl
theorem B33 : Try.f33.body = some (at_ Try.f33 []) := by kernel_rfl
noncomputable def R33 : RC := (.seq (.reg [oN 4 0, oN 5 0])
 (.seq (.reg [oM 7 0, oR 8 .add 7 1, oM 9 1, oC 10 51 #[(.tmp 8), (.tmp 9)] #[3, 64], oM 6 10])
 (.seq (.seq (.reg [oM 11 6, oM 12 0, ⟨some 13, none, (.cmp .gtr (.tmp 11) (.tmp 12))⟩])
 (.cond (.tmp 13) (.seq (.reg [oN 4 0, oN 5 10])
 .ret)
 .skip))
 (.seq (.reg [oM 14 6, oM 4 14, oN 5 0])
 .ret))))
theorem L33 : low Try.prog Try.f33.ntmps (at_ Try.f33 []) = some R33 := by kernel_rfl
theorem N34 : Try.f34.ntmps = 21 := by kernel_rfl
theorem Z34 : Try.f34.results.toList = (#[(.tmp 5)] : Array ResultVar).toList := by kernel_rfl
theorem B34 : Try.f34.body = some (at_ Try.f34 []) := by kernel_rfl
noncomputable def R34 : RC := (.seq (.reg [oF 5])
 (.seq (.reg [oD 9 1 3, ⟨some 6, none, (.alc 26 [(.int .i64 0), (.int .i64 0), (.int .i64 0)])⟩, ⟨none, none, (.sta (.tmp 6) (.tmp 9) 3)⟩])
 (.seq (.reg [oM 10 0, oJ 11 6 2, ⟨none, none, .st (.tmp 11) (.tmp 10)⟩])
 (.seq (.reg [oD 13 2 2, oD 14 6 3, oC 15 30 #[(.tmp 13), (.tmp 14)] #[24, 26], oM 12 15, oE 16 12 0 3, oE 17 12 1 3, oM 7 16, oM 8 17])
 (.seq (.reg [oM 18 7, oL 19 3 1, ⟨some 20, none, (.cmp .geq (.tmp 18) (.tmp 19))⟩, oM 5 20])
 .ret)))))
theorem L34 : low Try.prog Try.f34.ntmps (at_ Try.f34 []) = some R34 := by kernel_rfl
theorem N35 : Try.f35.ntmps = 15 := by kernel_rfl
theorem Z35 : Try.f35.results.toList = (#[(.tmp 6)] : Array ResultVar).toList := by kernel_rfl
theorem B35 : Try.f35.body = some (at_ Try.f35 []) := by kernel_rfl
noncomputable def R35 : RC := (.seq (.reg [oF 6])
 (.seq (.reg [oM 7 1, oM 8 0, ⟨some 9, none, (.cmpb .leq (.tmp 7) (.tmp 8))⟩, oM 10 9, oG 11 10 true 0, oG 12 10 true 2, ⟨some 13, some (10, true), (.cmpb .leq (.tmp 11) (.tmp 12))⟩, oA 14 10 13, oM 6 14])
 .ret))
theorem L35 : low Try.prog Try.f35.ntmps (at_ Try.f35 []) = some R35 := by kernel_rfl
theorem N36 : Try.f36.ntmps = 11 := by kernel_rfl
theorem Z36 : Try.f36.results.toList = (#[(.tmp 2)] : Array ResultVar).toList := by kernel_rfl
theorem B36 : Try.f36.body = some (at_ Try.f36 []) := by kernel_rfl
noncomputable def R36 : RC := (.seq (.reg [oF 2])
 (.seq (.reg [oM 3 0, oW 4 3, oB 5 .leq 4 128, oM 6 5, oG 7 6 true 0, oH 8 6 true 52 #[(.tmp 7), (.func 29)] #[35, 45], oV 9 6 true 8, oA 10 6 9, oM 2 10])
 .ret))
theorem L36 : low Try.prog Try.f36.ntmps (at_ Try.f36 []) = some R36 := by kernel_rfl
theorem N37 : Try.f37.ntmps = 36 := by kernel_rfl
theorem Z37 : Try.f37.results.toList = (#[(.tmp 4)] : Array ResultVar).toList := by kernel_rfl
theorem B37 : Try.f37.body = some (at_ Try.f37 []) := by kernel_rfl
noncomputable def R37 : RC := (.seq (.reg [oK 2 24 0, ⟨some 4, none, .mov (.const (.map none))⟩])
 (.seq (.reg [⟨some 10, none, (.mem ⟨some 10, (.makeMap 67 none), 67, "", #[], none⟩)⟩, oM 5 10])
 (.seq (.seq (.reg [oM 11 1, oW 12 11, oN 13 0])
 (.block 0 (.other (at_ Try.f37 [1, 1, 0, 1, 0]))))
 (.seq (.reg [oM 35 5, oM 4 35])
 .ret))))
theorem L37 : low Try.prog Try.f37.ntmps (at_ Try.f37 []) = some R37 := by kernel_rfl
theorem E37_1 : at_ Try.f37 [1, 1, 0, 1, 0] = .loop (at_ Try.f37 [1, 1, 0, 1, 0, 0]) := by kernel_rfl
noncomputable def R37x1 : RC := (.seq (.reg [⟨some 14, none, (.cmp .lss (.tmp 13) (.tmp 12))⟩])
 (.seq (.cond (.tmp 14) .skip
 (.exit 0))
 (.seq (.block 1 (.seq (.reg [oI 15 11 13 3, oD 16 15 3, ⟨some 7, none, (.alc 26 [(.int .i64 0), (.int .i64 0), (.int .i64 0)])⟩, ⟨none, none, (.sta (.tmp 7) (.tmp 16) 3)⟩])
 (.seq (.reg [oM 18 5, oJ 19 7 0, oL 20 19 1, ⟨some 21, none, (.mem ⟨some 21, (.lookup 67 (.tmp 18) (.tmp 20) true), 81, "", #[], none⟩)⟩, oM 17 21, oE 22 17 0 70, oE 23 17 1 4, ⟨some 8, none, (.alc 70 [(.int .i64 0), (.int .i64 0), (.int .i64 0)])⟩, ⟨none, none, (.sta (.tmp 8) (.tmp 22) 3)⟩, oM 9 23])
 (.seq (.reg [oM 24 9, oU 25 24])
 (.cond (.tmp 25) (.dreg [oM 26 5, oJ 27 7 0, oL 28 27 1, oD 29 2 2, oM 30 1, oJ 31 7 0, oL 32 31 1, ⟨some 33, none, .call ⟨(.value (.func 53)), #[(.tmp 29), (.tmp 30), (.tmp 32)], #[24, 35, 3]⟩ false⟩, ⟨none, none, (.mst ⟨none, (.mapUpdate 67 (.tmp 26) (.tmp 28) (.tmp 33)), 0, "", #[], none⟩)⟩] [255, 120, 32, 0, 0, 0, 2, 0, 0])
 .skip)))))
 (.reg [oR 34 .add 13 1, oM 13 34]))))
theorem L37x1 : low Try.prog Try.f37.ntmps (at_ Try.f37 [1, 1, 0, 1, 0, 0]) = some R37x1 := by kernel_rfl
theorem N39 : Try.f39.ntmps = 35 := by kernel_rfl
theorem Z39 : Try.f39.results.toList = (#[(.tmp 4)] : Array ResultVar).toList := by kernel_rfl
theorem B39 : Try.f39.body = some (at_ Try.f39 []) := by kernel_rfl
noncomputable def R39 : RC := (.seq (.reg [⟨some 4, none, .mov (.const (.slice none 0 0))⟩])
 (.seq (.reg [oM 10 0, oC 11 44 #[(.tmp 10)] #[67], oM 5 11])
 (.seq (.reg [⟨some 6, none, .mov (.const (.slice none 0 0))⟩])
 (.seq (.seq (.reg [oM 12 0, oC 13 55 #[(.tmp 12)] #[67], oC 14 54 #[(.tmp 13)] #[93], oW 15 14, oN 16 0])
 (.block 0 (.other (at_ Try.f39 [1, 1, 1, 0, 1, 0]))))
 (.seq (.reg [oM 34 6, oM 4 34])
 .ret)))))
theorem L39 : low Try.prog Try.f39.ntmps (at_ Try.f39 []) = some R39 := by kernel_rfl
theorem E39_1 : at_ Try.f39 [1, 1, 1, 0, 1, 0] = .loop (at_ Try.f39 [1, 1, 1, 0, 1, 0, 0]) := by kernel_rfl
noncomputable def R39x1 : RC := (.seq (.reg [⟨some 17, none, (.cmp .lss (.tmp 16) (.tmp 15))⟩])
 (.seq (.cond (.tmp 17) .skip
 (.exit 0))
 (.seq (.block 1 (.seq (.reg [oI 18 14 16 1, oL 19 18 1, oM 8 19])
 (.seq (.reg [oM 20 0, oM 21 8, ⟨some 22, none, (.mem ⟨some 22, (.lookup 67 (.tmp 20) (.tmp 21) false), 70, "", #[], none⟩)⟩, ⟨some 9, none, (.alc 70 [(.int .i64 0), (.int .i64 0), (.int .i64 0)])⟩, ⟨none, none, (.sta (.tmp 9) (.tmp 22) 3)⟩])
 (.dreg [oM 23 6, oD 24 9 3, oM 25 1, oJ 26 9 1, oL 27 26 1, oM 28 5, ⟨some 29, none, .call ⟨(.value (.func 46)), #[(.tmp 25), (.tmp 27), (.tmp 28)], #[3, 3, 3]⟩ false⟩, ⟨some 30, none, .pur ⟨some 30, (.build 75 #[(0, (.tmp 24)), (1, (.tmp 29))]), 75, "", #[], none⟩⟩, ⟨some 31, none, (.mem ⟨some 31, (.buildSlice 72 1 #[(0, (.tmp 30))]), 72, "", #[], none⟩)⟩, ⟨some 32, none, (.mem ⟨some 32, (.call ⟨(.builtin .append), #[(.tmp 23), (.tmp 31)], #[72, 72]⟩), 72, "", #[], none⟩)⟩, oM 6 32] [1023, 511, 254, 126, 60, 0, 8, 0, 0, 0, 0]))))
 (.reg [oR 33 .add 16 1, oM 16 33]))))
theorem L39x1 : low Try.prog Try.f39.ntmps (at_ Try.f39 [1, 1, 1, 0, 1, 0, 0]) = some R39x1 := by kernel_rfl
theorem N40 : Try.f40.ntmps = 21 := by kernel_rfl
theorem Z40 : Try.f40.results.toList = (#[(.cell 2 50)] : Array ResultVar).toList := by kernel_rfl
theorem B40 : Try.f40.body = some (at_ Try.f40 []) := by kernel_rfl
noncomputable def R40 : RC := (.seq (.reg [oK 1 75 0, ⟨some 2, none, (.alc 50 [(.int .i64 0), (.int .i64 0), (.int .i64 0), (.int .i64 0), (.int .i64 0)])⟩])
 (.seq (.reg [oJ 3 1 0, oJ 4 3 0, oL 5 4 1, oJ 6 1 0, oJ 7 6 1, oL 8 7 1, oJ 9 1 0, oJ 10 9 2, oL 11 10 1, oJ 12 1 3, oL 13 12 1, oJ 14 1 3, oL 15 14 1, oJ 16 1 0, oJ 17 16 2, oL 18 17 1, oS 19 .sub 15 18, ⟨some 20, none, .pur ⟨some 20, (.build 50 #[(0, (.tmp 5)), (1, (.tmp 8)), (2, (.tmp 11)), (3, (.tmp 13)), (4, (.tmp 19))]), 50, "", #[], none⟩⟩, ⟨none, none, (.sta (.tmp 2) (.tmp 20) 5)⟩])
 .ret))
theorem L40 : low Try.prog Try.f40.ntmps (at_ Try.f40 []) = some R40 := by kernel_rfl
theorem N44 : Try.f44.ntmps = 17 := by kernel_rfl
theorem Z44 : Try.f44.results.toList = (#[(.tmp 2)] : Array ResultVar).toList := by kernel_rfl
theorem B44 : Try.f44.body = some (at_ Try.f44 []) := by kernel_rfl
noncomputable def R44 : RC := (.seq (.reg [oN 2 0])
 (.seq (.reg [oN 3 0])
 (.seq (.seq (.reg [oM 6 0, ⟨some 7, none, (.rng (.tmp 6))⟩])
 (.block 0 (.other (at_ Try.f44 [1, 1, 0, 1, 0]))))
 (.seq (.reg [oM 16 3, oM 2 16])
 .ret))))
theorem L44 : low Try.prog Try.f44.ntmps (at_ Try.f44 []) = some R44 := by kernel_rfl
theorem E44_1 : at_ Try.f44 [1, 1, 0, 1, 0] = .loop (at_ Try.f44 [1, 1, 0, 1, 0, 0]) := by kernel_rfl
noncomputable def R44x1 : RC := (.seq (.reg [⟨some 8, none, (.nxt (.tmp 7))⟩, oE 9 8 0 4])
 (.seq (.cond (.tmp 9) .skip
 (.exit 0))
 (.block 1 (.seq (.reg [⟨some 10, none, (.ent (.tmp 7))⟩, oE 11 10 1 70, ⟨some 5, none, (.alc 70 [(.int .i64 0), (.int .i64 0), (.int .i64 0)])⟩, ⟨none, none, (.sta (.tmp 5) (.tmp 11) 3)⟩])
 (.reg [oM 12 3, oJ 13 5 1, oL 14 13 1, oS 15 .add 12 14, oM 3 15])))))
theorem L44x1 : low Try.prog Try.f44.ntmps (at_ Try.f44 [1, 1, 0, 1, 0, 0]) = some R44x1 := by kernel_rfl
theorem N45 : Try.f45.ntmps = 16 := by kernel_rfl
theorem Z45 : Try.f45.results.toList = (#[(.tmp 6)] : Array ResultVar).toList := by kernel_rfl
theorem B45 : Try.f45.body = some (at_ Try.f45 []) := by kernel_rfl
noncomputable def R45 : RC := (.seq (.reg [oF 6])
 (.seq (.dreg [oM 7 0, oL 8 1 1, oL 9 2 1, ⟨some 10, none, (.mem ⟨some 10, (.lookup 67 (.tmp 8) (.tmp 9) false), 70, "", #[], none⟩)⟩, ⟨some 11, none, (.pur ⟨some 11, (.field 70 (.tmp 10) 1), 3, "", #[], none⟩)⟩, oL 12 3 1, ⟨some 13, none, (.call ⟨(.value (.func 46)), #[(.tmp 7), (.tmp 11), (.tmp 12)], #[3, 3, 3]⟩ false)⟩, oL 14 4 1, ⟨some 15, none, (.cmp .geq (.tmp 13) (.tmp 14))⟩, oM 6 15] [511, 255, 0, 63, 0, 14, 6, 0, 0, 0])
 .ret))
theorem L45 : low Try.prog Try.f45.ntmps (at_ Try.f45 []) = some R45 := by kernel_rfl
theorem N46 : Try.f46.ntmps = 14 := by kernel_rfl
theorem Z46 : Try.f46.results.toList = (#[(.tmp 6)] : Array ResultVar).toList := by kernel_rfl
theorem B46 : Try.f46.body = some (at_ Try.f46 []) := by kernel_rfl
noncomputable def R46 : RC := (.seq (.reg [oN 6 0])
 (.seq (.seq (.reg [oM 7 2, oQ 8 .eql 7 0])
 (.cond (.tmp 8) (.seq (.reg [oN 6 0])
 .ret)
 .skip))
 (.seq (.reg [oM 9 0, oM 10 1, oS 11 .mul 9 10, oM 12 2, oS 13 .quo 11 12, oM 6 13])
 .ret)))
theorem L46 : low Try.prog Try.f46.ntmps (at_ Try.f46 []) = some R46 := by kernel_rfl
theorem N47 : Try.f47.ntmps = 9 := by kernel_rfl
theorem Z47 : Try.f47.results.toList = (#[(.tmp 4)] : Array ResultVar).toList := by kernel_rfl
theorem B47 : Try.f47.body = some (at_ Try.f47 []) := by kernel_rfl
noncomputable def R47 : RC := (.seq (.reg [oF 4])
 (.seq (.reg [oM 5 0, oM 6 1, oC 7 56 #[(.tmp 5), (.tmp 6)] #[22, 84], oQ 8 .geq 7 0, oM 4 8])
 .ret))
theorem L47 : low Try.prog Try.f47.ntmps (at_ Try.f47 []) = some R47 := by kernel_rfl
theorem N48 : Try.f48.ntmps = 13 := by kernel_rfl
theorem Z48 : Try.f48.results.toList = (#[(.tmp 2)] : Array ResultVar).toList := by kernel_rfl
theorem B48 : Try.f48.body = some (at_ Try.f48 []) := by kernel_rfl
noncomputable def R48 : RC := (.seq (.reg [oK 1 47 0, oF 2])
 (.seq (.reg [oJ 3 1 0, oL 4 3 1, oC 5 32 #[(.tmp 4), (.const (.int .i64 131072))] #[3, 3], oU 6 5, oM 7 6, ⟨some 8, some (7, false), (.addo (.tmp 1) 1)⟩, oLg 9 7 false 8 1, oH 10 7 false 32 #[(.tmp 9), (.const (.int .i64 512))] #[3, 3], oV 11 7 false 10, oO 12 7 11, oM 2 12])
 .ret))
theorem L48 : low Try.prog Try.f48.ntmps (at_ Try.f48 []) = some R48 := by kernel_rfl
theorem N49 : Try.f49.ntmps = 32 := by kernel_rfl
theorem Z49 : Try.f49.results.toList = (#[(.tmp 4), (.tmp 5)] : Array ResultVar).toList := by kernel_rfl
theorem B49 : Try.f49.body = some (at_ Try.f49 []) := by kernel_rfl
noncomputable def R49 : RC := (.seq (.reg [oN 4 0, oN 5 0])
 (.seq (.reg [oM 9 1, oM 10 0, ⟨some 11, none, (.idx (.tmp 10) (.const (.int .i64 0)) 2)⟩, oD 12 11 2, ⟨some 13, none, (.call ⟨(.value (.tmp 9)), #[(.tmp 12)], #[47]⟩ true)⟩, oM 5 13])
 (.seq (.seq (.reg [oM 14 0, oW 15 14, oN 16 0])
 (.block 0 (.other (at_ Try.f49 [1, 1, 0, 1, 0]))))
 (.seq (.reg [oM 30 4, oM 31 5, oM 4 30, oM 5 31])
 .ret))))
theorem L49 : low Try.prog Try.f49.ntmps (at_ Try.f49 []) = some R49 := by kernel_rfl
theorem E49_1 : at_ Try.f49 [1, 1, 0, 1, 0] = .loop (at_ Try.f49 [1, 1, 0, 1, 0, 0]) := by kernel_rfl
noncomputable def R49x1 : RC := (.seq (.reg [⟨some 17, none, (.cmp .lss (.tmp 16) (.tmp 15))⟩])
 (.seq (.cond (.tmp 17) .skip
 (.exit 0))
 (.seq (.block 1 (.seq (.reg [oM 18 16, oI 19 14 16 2, oD 20 19 2, ⟨some 7, none, (.alc 47 [(.int .i64 0), (.int .i64 0)])⟩, oM 6 18, ⟨none, none, (.sta (.tmp 7) (.tmp 20) 2)⟩])
 (.seq (.reg [oM 21 1, oD 22 7 2, ⟨some 23, none, (.call ⟨(.value (.tmp 21)), #[(.tmp 22)], #[47]⟩ true)⟩, oM 8 23])
 (.seq (.reg [oM 24 8, oM 25 5, ⟨some 26, none, (.cmp .lss (.tmp 24) (.tmp 25))⟩])
 (.cond (.tmp 26) (.reg [oM 27 6, oM 28 8, oM 4 27, oM 5 28])
 .skip)))))
 (.reg [oR 29 .add 16 1, oM 16 29]))))
theorem L49x1 : low Try.prog Try.f49.ntmps (at_ Try.f49 [1, 1, 0, 1, 0, 0]) = some R49x1 := by kernel_rfl
theorem N50 : Try.f50.ntmps = 15 := by kernel_rfl
theorem Z50 : Try.f50.results.toList = (#[(.tmp 3)] : Array ResultVar).toList := by kernel_rfl
theorem B50 : Try.f50.body = some (at_ Try.f50 []) := by kernel_rfl
noncomputable def R50 : RC := (.seq (.reg [oK 2 47 0, oN 3 0])
 (.seq (.reg [oJ 4 1 1, oL 5 4 1, oJ 6 2 0, oL 7 6 1, oS 8 .mul 5 7, oJ 9 1 2, oL 10 9 1, oJ 11 2 1, oL 12 11 1, oS 13 .mul 10 12, oS 14 .add 8 13, oM 3 14])
 .ret))
theorem L50 : low Try.prog Try.f50.ntmps (at_ Try.f50 []) = some R50 := by kernel_rfl
theorem N51 : Try.f51.ntmps = 26 := by kernel_rfl
theorem Z51 : Try.f51.results.toList = (#[(.tmp 4)] : Array ResultVar).toList := by kernel_rfl
theorem B51 : Try.f51.body = some (at_ Try.f51 []) := by kernel_rfl
noncomputable def R51 : RC := (.seq (.reg [oN 4 0])
 (.seq (.reg [oM 8 0, oN 5 0, oM 6 8])
 (.seq (.block 0 (.other (at_ Try.f51 [1, 1, 0, 0])))
 (.seq (.reg [oM 25 5, oM 4 25])
 .ret))))
theorem L51 : low Try.prog Try.f51.ntmps (at_ Try.f51 []) = some R51 := by kernel_rfl
theorem E51_1 : at_ Try.f51 [1, 1, 0, 0] = .loop (at_ Try.f51 [1, 1, 0, 0, 0]) := by kernel_rfl
noncomputable def R51x1 : RC := (.seq (.seq (.reg [oM 9 5, oM 10 6, ⟨some 11, none, (.cmp .lss (.tmp 9) (.tmp 10))⟩])
 (.cond (.tmp 11) .skip
 (.exit 0)))
 (.block 1 (.seq (.reg [oM 12 5, oM 13 6, oS 14 .add 12 13, ⟨some 15, none, .pur ⟨some 15, (.convert 3 96 (.tmp 14)), 96, "", #[], none⟩⟩, ⟨some 16, none, .pur ⟨some 16, (.binOp .shr 96 (.tmp 15) (.const (.int .u64 1)) 96), 96, "", #[], none⟩⟩, ⟨some 17, none, (.pur ⟨some 17, (.convert 96 3 (.tmp 16)), 3, "", #[], none⟩)⟩, oM 7 17])
 (.seq (.reg [oM 18 1, oM 19 7, ⟨some 20, none, (.call ⟨(.value (.tmp 18)), #[(.tmp 19)], #[3]⟩ true)⟩, oU 21 20])
 (.cond (.tmp 21) (.reg [oM 22 7, oR 23 .add 22 1, oM 5 23])
 (.reg [oM 24 7, oM 6 24]))))))
theorem L51x1 : low Try.prog Try.f51.ntmps (at_ Try.f51 [1, 1, 0, 0, 0]) = some R51x1 := by kernel_rfl
theorem N52 : Try.f52.ntmps = 9 := by kernel_rfl
theorem Z52 : Try.f52.results.toList = (#[(.tmp 4)] : Array ResultVar).toList := by kernel_rfl
theorem B52 : Try.f52.body = some (at_ Try.f52 []) := by kernel_rfl
noncomputable def R52 : RC := (.seq (.reg [oF 4])
 (.seq (.reg [oM 5 0, oM 6 1, oC 7 57 #[(.tmp 5), (.tmp 6)] #[35, 45], oQ 8 .geq 7 0, oM 4 8])
 .ret))
theorem L52 : low Try.prog Try.f52.ntmps (at_ Try.f52 []) = some R52 := by kernel_rfl
theorem N53 : Try.f53.ntmps = 36 := by kernel_rfl
theorem Z53 : Try.f53.results.toList = (#[(.cell 6 70)] : Array ResultVar).toList := by kernel_rfl
theorem B53 : Try.f53.body = some (at_ Try.f53 []) := by kernel_rfl
noncomputable def R53 : RC := (.seq (.reg [oK 3 24 0, ⟨some 6, none, (.alc 70 [(.int .i64 0), (.int .i64 0), (.int .i64 0)])⟩])
 (.seq (.reg [oM 11 2, ⟨some 12, none, .pur ⟨some 12, (.build 70 #[(0, (.tmp 11))]), 70, "", #[], none⟩⟩, ⟨some 7, none, (.alc 70 [(.int .i64 0), (.int .i64 0), (.int .i64 0)])⟩, ⟨none, none, (.sta (.tmp 7) (.tmp 12) 3)⟩])
 (.seq (.seq (.reg [oM 13 1, oM 14 2, oC 15 58 #[(.tmp 13), (.tmp 14)] #[35, 3]])
 (.block 0 (.other (at_ Try.f53 [1, 1, 0, 1, 0]))))
 (.seq (.reg [oD 35 7 3, ⟨none, none, (.sta (.tmp 6) (.tmp 35) 3)⟩])
 .ret))))
theorem L53 : low Try.prog Try.f53.ntmps (at_ Try.f53 []) = some R53 := by kernel_rfl
theorem E53_1 : at_ Try.f53 [1, 1, 0, 1, 0] = .rangeFunc (.tmp 15) (#[16]) (at_ Try.f53 [1, 1, 0, 1, 0, 0]) (at_ Try.f53 [1, 1, 0, 1, 0, 1]) := by kernel_rfl
noncomputable def R53x1 : RC := (.reg [⟨some 8, none, (.alc 26 [(.int .i64 0), (.int .i64 0), (.int .i64 0)])⟩, ⟨none, none, (.sta (.tmp 8) (.tmp 16) 3)⟩])
theorem L53x1 : low Try.prog Try.f53.ntmps (at_ Try.f53 [1, 1, 0, 1, 0, 0]) = some R53x1 := by kernel_rfl
noncomputable def R53x2 : RC := (.block 1 (.seq (.reg [oD 18 3 2, oD 19 8 3, oC 20 30 #[(.tmp 18), (.tmp 19)] #[24, 26], oM 17 20, oE 21 17 0 3, oE 22 17 1 3, oM 9 21, oM 10 22])
 (.seq (.reg [oJ 23 7 1, oL 24 23 1, oM 25 9, oS 26 .add 24 25, oJ 27 7 1, ⟨none, none, .st (.tmp 27) (.tmp 26)⟩])
 (.dreg [oJ 28 7 2, oL 29 28 1, oD 30 3 2, oM 31 9, ⟨some 32, none, (.call ⟨(.value (.func 59)), #[(.tmp 30), (.tmp 31)], #[24, 3]⟩ false)⟩, oS 33 .add 29 32, oJ 34 7 2, ⟨none, none, (.st (.tmp 34) (.tmp 33))⟩] [127, 63, 31, 12, 0, 0, 1, 0]))))
theorem L53x2 : low Try.prog Try.f53.ntmps (at_ Try.f53 [1, 1, 0, 1, 0, 1]) = some R53x2 := by kernel_rfl
theorem N54 : Try.f54.ntmps = 9 := by kernel_rfl
theorem Z54 : Try.f54.results.toList = (#[(.tmp 2)] : Array ResultVar).toList := by kernel_rfl
theorem B54 : Try.f54.body = some (at_ Try.f54 []) := by kernel_rfl
noncomputable def R54 : RC := (.seq (.reg [⟨some 2, none, .mov (.const (.slice none 0 0))⟩])
 (.seq (.reg [oM 4 0, oC 5 60 #[(.tmp 4)] #[93], oM 3 5])
 (.seq (.reg [oM 6 3, oC 7 61 #[(.tmp 6)] #[90]])
 (.seq (.reg [oM 8 3, oM 2 8])
 .ret))))
theorem L54 : low Try.prog Try.f54.ntmps (at_ Try.f54 []) = some R54 := by kernel_rfl
theorem N55 : Try.f55.ntmps = 4 := by kernel_rfl
theorem Z55 : Try.f55.results.toList = (#[(.tmp 2)] : Array ResultVar).toList := by kernel_rfl
theorem B55 : Try.f55.body = some (at_ Try.f55 []) := by kernel_rfl
noncomputable def R55 : RC := (.seq (.reg [oK 1 67 0, ⟨some 2, none, .mov (.const .nilFunc)⟩])
 (.seq (.reg [⟨some 3, none, (.pur ⟨some 3, (.makeFunc (.func 62) #[] #[(.tmp 1)]), 92, "", #[], none⟩)⟩, oM 2 3])
 .ret))
theorem L55 : low Try.prog Try.f55.ntmps (at_ Try.f55 []) = some R55 := by kernel_rfl
theorem N56 : Try.f56.ntmps = 19 := by kernel_rfl
theorem Z56 : Try.f56.results.toList = (#[(.tmp 4)] : Array ResultVar).toList := by kernel_rfl
theorem B56 : Try.f56.body = some (at_ Try.f56 []) := by kernel_rfl
noncomputable def R56 : RC := (.seq (.reg [oN 4 0])
 (.seq (.seq (.reg [oM 6 0, oW 7 6, oN 8 0])
 (.block 0 (.other (at_ Try.f56 [1, 0, 1, 0]))))
 (.seq (.reg [⟨some 4, none, .mov (.const (.int .i64 (-1)))⟩])
 .ret)))
theorem L56 : low Try.prog Try.f56.ntmps (at_ Try.f56 []) = some R56 := by kernel_rfl
theorem E56_1 : at_ Try.f56 [1, 0, 1, 0] = .loop (at_ Try.f56 [1, 0, 1, 0, 0]) := by kernel_rfl
noncomputable def R56x1 : RC := (.seq (.reg [⟨some 9, none, (.cmp .lss (.tmp 8) (.tmp 7))⟩])
 (.seq (.cond (.tmp 9) .skip
 (.exit 0))
 (.seq (.block 1 (.seq (.reg [oM 10 8, oM 5 10])
 (.seq (.reg [oM 11 1, oM 12 0, oM 13 5, oI 14 12 13 2, oD 15 14 2, ⟨some 16, none, .call ⟨(.value (.tmp 11)), #[(.tmp 15)], #[47]⟩ true⟩])
 (.cond (.tmp 16) (.seq (.reg [oM 17 5, oM 4 17])
 .ret)
 .skip))))
 (.reg [oR 18 .add 8 1, oM 8 18]))))
theorem L56x1 : low Try.prog Try.f56.ntmps (at_ Try.f56 [1, 0, 1, 0, 0]) = some R56x1 := by kernel_rfl
theorem N57 : Try.f57.ntmps = 19 := by kernel_rfl
theorem Z57 : Try.f57.results.toList = (#[(.tmp 4)] : Array ResultVar).toList := by kernel_rfl
theorem B57 : Try.f57.body = some (at_ Try.f57 []) := by kernel_rfl
noncomputable def R57 : RC := (.seq (.reg [oN 4 0])
 (.seq (.seq (.reg [oM 6 0, oW 7 6, oN 8 0])
 (.block 0 (.other (at_ Try.f57 [1, 0, 1, 0]))))
 (.seq (.reg [⟨some 4, none, .mov (.const (.int .i64 (-1)))⟩])
 .ret)))
theorem L57 : low Try.prog Try.f57.ntmps (at_ Try.f57 []) = some R57 := by kernel_rfl
theorem E57_1 : at_ Try.f57 [1, 0, 1, 0] = .loop (at_ Try.f57 [1, 0, 1, 0, 0]) := by kernel_rfl
noncomputable def R57x1 : RC := (.seq (.reg [⟨some 9, none, (.cmp .lss (.tmp 8) (.tmp 7))⟩])
 (.seq (.cond (.tmp 9) .skip
 (.exit 0))
 (.seq (.block 1 (.seq (.reg [oM 10 8, oM 5 10])
 (.seq (.reg [oM 11 1, oM 12 0, oM 13 5, oI 14 12 13 3, oD 15 14 3, ⟨some 16, none, .call ⟨(.value (.tmp 11)), #[(.tmp 15)], #[26]⟩ true⟩])
 (.cond (.tmp 16) (.seq (.reg [oM 17 5, oM 4 17])
 .ret)
 .skip))))
 (.reg [oR 18 .add 8 1, oM 8 18]))))
theorem L57x1 : low Try.prog Try.f57.ntmps (at_ Try.f57 [1, 0, 1, 0, 0]) = some R57x1 := by kernel_rfl
theorem N58 : Try.f58.ntmps = 6 := by kernel_rfl
theorem Z58 : Try.f58.results.toList = (#[(.tmp 4)] : Array ResultVar).toList := by kernel_rfl
theorem B58 : Try.f58.body = some (at_ Try.f58 []) := by kernel_rfl
noncomputable def R58 : RC := (.seq (.reg [oK 2 35 0, oK 3 3 1, ⟨some 4, none, .mov (.const .nilFunc)⟩])
 (.seq (.reg [⟨some 5, none, (.pur ⟨some 5, (.makeFunc (.func 63) #[] #[(.tmp 2), (.tmp 3)]), 98, "", #[], none⟩)⟩, oM 4 5])
 .ret))
theorem L58 : low Try.prog Try.f58.ntmps (at_ Try.f58 []) = some R58 := by kernel_rfl
theorem N59 : Try.f59.ntmps = 10 := by kernel_rfl
theorem Z59 : Try.f59.results.toList = (#[(.tmp 4)] : Array ResultVar).toList := by kernel_rfl
theorem B59 : Try.f59.body = some (at_ Try.f59 []) := by kernel_rfl
noncomputable def R59 : RC := (.seq (.reg [oK 2 24 0, oN 4 0])
 (.seq (.reg [oM 5 1, oJ 6 2 1, oL 7 6 1, oS 8 .mul 5 7, oR 9 .quo 8 1000, oM 4 9])
 .ret))
theorem L59 : low Try.prog Try.f59.ntmps (at_ Try.f59 []) = some R59 := by kernel_rfl
theorem N60 : Try.f60.ntmps = 5 := by kernel_rfl
theorem Z60 : Try.f60.results.toList = (#[(.tmp 2)] : Array ResultVar).toList := by kernel_rfl
theorem B60 : Try.f60.body = some (at_ Try.f60 []) := by kernel_rfl
noncomputable def R60 : RC := (.seq (.reg [⟨some 2, none, .mov (.const (.slice none 0 0))⟩])
 (.seq (.reg [oM 3 0, oC 4 64 #[(.const (.slice none 0 0)), (.tmp 3)] #[90, 93], oM 2 4])
 .ret))
theorem L60 : low Try.prog Try.f60.ntmps (at_ Try.f60 []) = some R60 := by kernel_rfl
theorem N61 : Try.f61.ntmps = 11 := by kernel_rfl
theorem Z61 : Try.f61.results.toList = (#[] : Array ResultVar).toList := by kernel_rfl
theorem B61 : Try.f61.body = some (at_ Try.f61 []) := by kernel_rfl
noncomputable def R61 : RC := (.seq (.reg [oM 3 0, oW 4 3, oM 2 4])
 (.reg [oM 5 0, oM 6 2, oM 7 2, ⟨some 8, none, (.pur ⟨some 8, (.convert 3 96 (.tmp 7)), 96, "", #[], none⟩)⟩, oC 9 66 #[(.tmp 8)] #[96], oC 10 65 #[(.tmp 5), (.const (.int .i64 0)), (.tmp 6), (.tmp 9)] #[90, 3, 3, 3]]))
theorem L61 : low Try.prog Try.f61.ntmps (at_ Try.f61 []) = some R61 := by kernel_rfl
theorem N62 : Try.f62.ntmps = 14 := by kernel_rfl
theorem Z62 : Try.f62.results.toList = (#[] : Array ResultVar).toList := by kernel_rfl
theorem B62 : Try.f62.body = some (at_ Try.f62 []) := by kernel_rfl
noncomputable def R62 : RC := (.seq (.reg [oL 4 1 1, ⟨some 5, none, (.rng (.tmp 4))⟩])
 (.block 0 (.other (at_ Try.f62 [1, 0]))))
theorem L62 : low Try.prog Try.f62.ntmps (at_ Try.f62 []) = some R62 := by kernel_rfl
theorem E62_1 : at_ Try.f62 [1, 0] = .loop (at_ Try.f62 [1, 0, 0]) := by kernel_rfl
noncomputable def R62x1 : RC := (.seq (.reg [⟨some 6, none, (.nxt (.tmp 5))⟩, oE 7 6 0 4])
 (.seq (.cond (.tmp 7) .skip
 (.exit 0))
 (.block 1 (.seq (.reg [⟨some 8, none, (.ent (.tmp 5))⟩, oE 9 8 0 3, oM 3 9])
 (.seq (.reg [oM 10 0, oM 11 3, ⟨some 12, none, (.call ⟨(.value (.tmp 10)), #[(.tmp 11)], #[3]⟩ true)⟩, oU 13 12])
 (.cond (.tmp 13) .ret
 .skip))))))
theorem L62x1 : low Try.prog Try.f62.ntmps (at_ Try.f62 [1, 0, 0]) = some R62x1 := by kernel_rfl
theorem N63 : Try.f63.ntmps = 23 := by kernel_rfl
theorem Z63 : Try.f63.results.toList = (#[] : Array ResultVar).toList := by kernel_rfl
theorem B63 : Try.f63.body = some (at_ Try.f63 []) := by kernel_rfl
noncomputable def R63 : RC := (.seq (.reg [oL 6 1 1, oW 7 6, oN 8 0])
 (.block 0 (.other (at_ Try.f63 [1, 0]))))
theorem L63 : low Try.prog Try.f63.ntmps (at_ Try.f63 []) = some R63 := by kernel_rfl
theorem E63_1 : at_ Try.f63 [1, 0] = .loop (at_ Try.f63 [1, 0, 0]) := by kernel_rfl
noncomputable def R63x1 : RC := (.seq (.reg [⟨some 9, none, (.cmp .lss (.tmp 8) (.tmp 7))⟩])
 (.seq (.cond (.tmp 9) .skip
 (.exit 0))
 (.seq (.block 1 (.seq (.reg [oI 10 6 8 3, oD 11 10 3, ⟨some 5, none, (.alc 26 [(.int .i64 0), (.int .i64 0), (.int .i64 0)])⟩, ⟨none, none, (.sta (.tmp 5) (.tmp 11) 3)⟩])
 (.seq (.reg [oJ 12 5 0, oL 13 12 1, oL 14 2 1, ⟨some 15, none, (.cmpb .eql (.tmp 13) (.tmp 14))⟩, oM 16 15, oG 17 16 true 0, ⟨some 18, some (16, true), (.lda (.tmp 5) 3)⟩, ⟨some 19, some (16, true), (.call ⟨(.value (.tmp 17)), #[(.tmp 18)], #[26]⟩ true)⟩, oV 20 16 true 19, oA 21 16 20])
 (.cond (.tmp 21) .ret
 .skip))))
 (.reg [oR 22 .add 8 1, oM 8 22]))))
theorem L63x1 : low Try.prog Try.f63.ntmps (at_ Try.f63 [1, 0, 0]) = some R63x1 := by kernel_rfl
theorem N64 : Try.f64.ntmps = 13 := by kernel_rfl
theorem Z64 : Try.f64.results.toList = (#[(.tmp 4)] : Array ResultVar).toList := by kernel_rfl
theorem B64 : Try.f64.body = some (at_ Try.f64 []) := by kernel_rfl
noncomputable def R64 : RC := (.seq (.reg [oK 2 90 0, ⟨some 4, none, .mov (.const (.slice none 0 0))⟩])
 (.seq (.seq (.reg [oM 6 1])
 (.block 0 (.other (at_ Try.f64 [1, 0, 1, 0]))))
 (.seq (.reg [oL 12 2 1, oM 4 12])
 .ret)))
theorem L64 : low Try.prog Try.f64.ntmps (at_ Try.f64 []) = some R64 := by kernel_rfl
theorem E64_1 : at_ Try.f64 [1, 0, 1, 0] = .rangeFunc (.tmp 6) (#[7]) (at_ Try.f64 [1, 0, 1, 0, 0]) (at_ Try.f64 [1, 0, 1, 0, 1]) := by kernel_rfl
noncomputable def R64x1 : RC := (.reg [oM 5 7])
theorem L64x1 : low Try.prog Try.f64.ntmps (at_ Try.f64 [1, 0, 1, 0, 0]) = some R64x1 := by kernel_rfl
noncomputable def R64x2 : RC := (.block 1 (.reg [oL 8 2 1, oM 9 5, ⟨some 10, none, (.mem ⟨some 10, (.buildSlice 90 1 #[(0, (.tmp 9))]), 90, "", #[], none⟩)⟩, ⟨some 11, none, (.mem ⟨some 11, (.call ⟨(.builtin .append), #[(.tmp 8), (.tmp 10)], #[90, 90]⟩), 90, "", #[], none⟩)⟩, ⟨none, none, .st (.tmp 2) (.tmp 11)⟩]))
theorem L64x2 : low Try.prog Try.f64.ntmps (at_ Try.f64 [1, 0, 1, 0, 1]) = some R64x2 := by kernel_rfl
theorem N65 : Try.f65.ntmps = 134 := by kernel_rfl
theorem Z65 : Try.f65.results.toList = (#[] : Array ResultVar).toList := by kernel_rfl
theorem B65 : Try.f65.body = some (at_ Try.f65 []) := by kernel_rfl
noncomputable def R65 : RC := (.seq (.reg [⟨some 8, none, .mov (.const (.bool true))⟩])
 (.seq (.reg [⟨some 9, none, .mov (.const (.bool true))⟩])
 (.block 0 (.other (at_ Try.f65 [1, 1, 0])))))
theorem L65 : low Try.prog Try.f65.ntmps (at_ Try.f65 []) = some R65 := by kernel_rfl
theorem E65_1 : at_ Try.f65 [1, 1, 0] = .loop (at_ Try.f65 [1, 1, 0, 0]) := by kernel_rfl
noncomputable def R65x1 : RC := (.block 1 (.seq (.reg [oM 19 2, oM 20 1, oS 21 .sub 19 20, oM 10 21])
 (.seq (.seq (.reg [oM 22 10, oQ 23 .leq 22 12])
 (.cond (.tmp 23) (.seq (.reg [oM 24 0, oM 25 1, oM 26 2, oC 27 67 #[(.tmp 24), (.tmp 25), (.tmp 26)] #[90, 3, 3]])
 .ret)
 .skip))
 (.seq (.seq (.reg [oM 28 3, oQ 29 .eql 28 0])
 (.cond (.tmp 29) (.seq (.reg [oM 30 0, oM 31 1, oM 32 2, oC 33 68 #[(.tmp 30), (.tmp 31), (.tmp 32)] #[90, 3, 3]])
 .ret)
 .skip))
 (.seq (.seq (.reg [oM 34 8, oU 35 34])
 (.cond (.tmp 35) (.seq (.reg [oM 36 0, oM 37 1, oM 38 2, oC 39 69 #[(.tmp 36), (.tmp 37), (.tmp 38)] #[90, 3, 3]])
 (.reg [oM 40 3, oR 41 .sub 40 1, oM 3 41]))
 .skip))
 (.seq (.reg [oM 43 0, oM 44 1, oM 45 2, oC 46 70 #[(.tmp 43), (.tmp 44), (.tmp 45)] #[90, 3, 3], oM 42 46, oE 47 42 0 3, oE 48 42 1 107, oM 11 47, oM 12 48])
 (.seq (.seq (.reg [oM 49 12, oQ 50 .eql 49 2])
 (.cond (.tmp 50) (.seq (.reg [oM 51 0, oM 52 1, oM 53 2, oC 54 71 #[(.tmp 51), (.tmp 52), (.tmp 53)] #[90, 3, 3]])
 (.seq (.reg [oM 55 2, oR 56 .sub 55 1, oM 57 11, oM 58 1, oS 59 .sub 57 58, oS 60 .sub 56 59, oM 11 60])
 (.reg [oN 12 1])))
 .skip))
 (.seq (.seq (.reg [oM 61 8, oM 62 61, oG 63 62 true 9, oA 64 62 63, oM 65 64, oG 66 65 true 12, oBg 67 65 true .eql 66 1, oA 68 65 67])
 (.cond (.tmp 68) (.seq (.reg [oM 69 0, oM 70 1, oM 71 2, oC 72 72 #[(.tmp 69), (.tmp 70), (.tmp 71)] #[90, 3, 3]])
 (.cond (.tmp 72) .ret
 .skip))
 .skip))
 (.seq (.seq (.dreg [oM 73 1, oB 74 .gtr 73 0, oM 75 74, oG 76 75 true 0, oG 77 75 true 1, ⟨some 78, some (75, true), (.ari .sub (.tmp 77) (.const (.int .i64 1)))⟩, oIg 79 75 true 76 78 1, oLg 80 75 true 79 1, oG 81 75 true 0, oG 82 75 true 11, oIg 83 75 true 81 82 1, oLg 84 75 true 83 1, oH 85 75 true 73 #[(.tmp 80), (.tmp 84)] #[3, 3], oV 86 75 true 85, oA 87 75 86] [16383, 8191, 4095, 1799, 775, 7, 7, 127, 63, 23, 7, 7, 3, 1, 0])
 (.cond (.tmp 87) (.seq (.reg [oM 88 0, oM 89 1, oM 90 2, oM 91 11, oC 92 74 #[(.tmp 88), (.tmp 89), (.tmp 90), (.tmp 91)] #[90, 3, 3, 3], oM 13 92])
 (.seq (.reg [oM 93 13, oM 1 93])
 (.exit 1)))
 .skip))
 (.seq (.reg [oM 95 0, oM 96 1, oM 97 2, oM 98 11, oC 99 75 #[(.tmp 95), (.tmp 96), (.tmp 97), (.tmp 98)] #[90, 3, 3, 3], oM 94 99, oE 100 94 0 3, oE 101 94 1 4, oM 14 100, oM 15 101])
 (.seq (.reg [oM 102 15, oM 9 102])
 (.seq (.reg [oM 103 14, oM 104 1, oS 105 .sub 103 104, oM 106 2, oM 107 14, oS 108 .sub 106 107, oM 16 105, oM 17 108])
 (.seq (.reg [oM 109 10, oR 110 .quo 109 8, oM 18 110])
 (.seq (.reg [oM 111 16, oM 112 17, ⟨some 113, none, (.cmp .lss (.tmp 111) (.tmp 112))⟩])
 (.cond (.tmp 113) (.seq (.reg [oM 114 16, oM 115 18, ⟨some 116, none, (.cmp .geq (.tmp 114) (.tmp 115))⟩, oM 8 116])
 (.seq (.reg [oM 117 0, oM 118 1, oM 119 14, oM 120 3, oC 121 65 #[(.tmp 117), (.tmp 118), (.tmp 119), (.tmp 120)] #[90, 3, 3, 3]])
 (.reg [oM 122 14, oR 123 .add 122 1, oM 1 123])))
 (.seq (.reg [oM 124 17, oM 125 18, ⟨some 126, none, (.cmp .geq (.tmp 124) (.tmp 125))⟩, oM 8 126])
 (.seq (.reg [oM 127 0, oM 128 14, oR 129 .add 128 1, oM 130 2, oM 131 3, oC 132 65 #[(.tmp 127), (.tmp 129), (.tmp 130), (.tmp 131)] #[90, 3, 3, 3]])
 (.reg [oM 133 14, oM 2 133]))))))))))))))))))
theorem L65x1 : low Try.prog Try.f65.ntmps (at_ Try.f65 [1, 1, 0, 0]) = some R65x1 := by kernel_rfl
theorem N66 : Try.f66.ntmps = 8 := by kernel_rfl
theorem Z66 : Try.f66.results.toList = (#[(.tmp 2)] : Array ResultVar).toList := by kernel_rfl
theorem B66 : Try.f66.body = some (at_ Try.f66 []) := by kernel_rfl
noncomputable def R66 : RC := (.seq (.reg [oN 2 0])
 (.seq (.cond (.const (.bool false)) (.seq (.reg [oM 3 0, ⟨some 4, none, (.pur ⟨some 4, (.convert 96 54 (.tmp 3)), 54, "", #[], none⟩)⟩, oC 5 76 #[(.tmp 4)] #[54], oM 2 5])
 .ret)
 .skip)
 (.seq (.reg [oM 6 0, oC 7 77 #[(.tmp 6)] #[43], oM 2 7])
 .ret)))
theorem L66 : low Try.prog Try.f66.ntmps (at_ Try.f66 []) = some R66 := by kernel_rfl
theorem N67 : Try.f67.ntmps = 49 := by kernel_rfl
theorem Z67 : Try.f67.results.toList = (#[] : Array ResultVar).toList := by kernel_rfl
theorem B67 : Try.f67.body = some (at_ Try.f67 []) := by kernel_rfl
noncomputable def R67 : RC := (.seq (.reg [oM 8 1, oR 9 .add 8 1, oM 6 9])
 (.block 0 (.other (at_ Try.f67 [1, 0]))))
theorem L67 : low Try.prog Try.f67.ntmps (at_ Try.f67 []) = some R67 := by kernel_rfl
theorem E67_1 : at_ Try.f67 [1, 0] = .loop (at_ Try.f67 [1, 0, 0]) := by kernel_rfl
noncomputable def R67x1 : RC := (.seq (.seq (.reg [oM 10 6, oM 11 2, ⟨some 12, none, (.cmp .lss (.tmp 10) (.tmp 11))⟩])
 (.cond (.tmp 12) .skip
 (.exit 0)))
 (.seq (.block 1 (.seq (.reg [oM 15 6, oM 7 15])
 (.block 2 (.other (at_ Try.f67 [1, 0, 0, 1, 0, 0, 1, 0])))))
 (.reg [oM 13 6, oR 14 .add 13 1, oM 6 14])))
theorem L67x1 : low Try.prog Try.f67.ntmps (at_ Try.f67 [1, 0, 0]) = some R67x1 := by kernel_rfl
theorem E67_2 : at_ Try.f67 [1, 0, 0, 1, 0, 0, 1, 0] = .loop (at_ Try.f67 [1, 0, 0, 1, 0, 0, 1, 0, 0]) := by kernel_rfl
noncomputable def R67x2 : RC := (.seq (.seq (.dreg [oM 16 7, oM 17 1, ⟨some 18, none, (.cmpb .gtr (.tmp 16) (.tmp 17))⟩, oM 19 18, oG 20 19 true 0, oG 21 19 true 7, oIg 22 19 true 20 21 1, oLg 23 19 true 22 1, oG 24 19 true 0, oG 25 19 true 7, ⟨some 26, some (19, true), (.ari .sub (.tmp 25) (.const (.int .i64 1)))⟩, oIg 27 19 true 24 26 1, oLg 28 19 true 27 1, oH 29 19 true 73 #[(.tmp 23), (.tmp 28)] #[3, 3], oA 30 19 29] [16383, 8191, 3855, 1807, 527, 15, 15, 127, 63, 15, 15, 7, 3, 0, 0])
 (.cond (.tmp 30) .skip
 (.exit 2)))
 (.seq (.block 3 (.dreg [oM 33 0, oM 34 7, oM 35 0, oM 36 7, oR 37 .sub 36 1, oM 38 0, oM 39 7, oR 40 .sub 39 1, oI 41 38 40 1, oL 42 41 1, oM 43 0, oM 44 7, oI 45 43 44 1, oL 46 45 1, oI 47 33 34 1, ⟨none, none, (.st (.tmp 47) (.tmp 42))⟩, oI 48 35 37 1, ⟨none, none, (.st (.tmp 48) (.tmp 46))⟩] [131071, 65535, 32739, 16355, 7168, 3072, 0, 0, 480, 224, 64, 0, 0, 8, 0, 0, 0, 0]))
 (.reg [oM 31 7, oR 32 .sub 31 1, oM 7 32])))
theorem L67x2 : low Try.prog Try.f67.ntmps (at_ Try.f67 [1, 0, 0, 1, 0, 0, 1, 0, 0]) = some R67x2 := by kernel_rfl
theorem N68 : Try.f68.ntmps = 56 := by kernel_rfl
theorem Z68 : Try.f68.results.toList = (#[] : Array ResultVar).toList := by kernel_rfl
theorem B68 : Try.f68.body = some (at_ Try.f68 []) := by kernel_rfl
noncomputable def R68 : RC := (.seq (.reg [oM 11 1, oM 6 11])
 (.seq (.reg [oN 7 0])
 (.seq (.reg [oM 12 2, oM 13 1, oS 14 .sub 12 13, oM 8 14])
 (.seq (.seq (.reg [oM 15 8, oR 16 .sub 15 1, oR 17 .quo 16 2, oM 9 17])
 (.block 0 (.other (at_ Try.f68 [1, 1, 1, 0, 1, 0]))))
 (.seq (.reg [oM 27 8, oR 28 .sub 27 1, oM 10 28])
 (.block 2 (.other (at_ Try.f68 [1, 1, 1, 1, 1, 0]))))))))
theorem L68 : low Try.prog Try.f68.ntmps (at_ Try.f68 []) = some R68 := by kernel_rfl
theorem E68_1 : at_ Try.f68 [1, 1, 1, 0, 1, 0] = .loop (at_ Try.f68 [1, 1, 1, 0, 1, 0, 0]) := by kernel_rfl
noncomputable def R68x1 : RC := (.seq (.seq (.reg [oM 18 9, oQ 19 .geq 18 0])
 (.cond (.tmp 19) .skip
 (.exit 0)))
 (.seq (.block 1 (.reg [oM 22 0, oM 23 9, oM 24 8, oM 25 6, oC 26 78 #[(.tmp 22), (.tmp 23), (.tmp 24), (.tmp 25)] #[90, 3, 3, 3]]))
 (.reg [oM 20 9, oR 21 .sub 20 1, oM 9 21])))
theorem L68x1 : low Try.prog Try.f68.ntmps (at_ Try.f68 [1, 1, 1, 0, 1, 0, 0]) = some R68x1 := by kernel_rfl
theorem E68_2 : at_ Try.f68 [1, 1, 1, 1, 1, 0] = .loop (at_ Try.f68 [1, 1, 1, 1, 1, 0, 0]) := by kernel_rfl
noncomputable def R68x2 : RC := (.seq (.seq (.reg [oM 29 10, oQ 30 .geq 29 0])
 (.cond (.tmp 30) .skip
 (.exit 2)))
 (.seq (.block 3 (.seq (.dreg [oM 33 0, oM 34 6, oM 35 0, oM 36 6, oM 37 10, oS 38 .add 36 37, oM 39 0, oM 40 6, oM 41 10, oS 42 .add 40 41, oI 43 39 42 1, oL 44 43 1, oM 45 0, oM 46 6, oI 47 45 46 1, oL 48 47 1, oI 49 33 34 1, ⟨none, none, (.st (.tmp 49) (.tmp 44))⟩, oI 50 35 38 1, ⟨none, none, (.st (.tmp 50) (.tmp 48))⟩] [524287, 262143, 131011, 65475, 28672, 12288, 0, 0, 1984, 960, 384, 0, 0, 0, 24, 0, 0, 0, 0, 0])
 (.reg [oM 51 0, oM 52 7, oM 53 10, oM 54 6, oC 55 78 #[(.tmp 51), (.tmp 52), (.tmp 53), (.tmp 54)] #[90, 3, 3, 3]])))
 (.reg [oM 31 10, oR 32 .sub 31 1, oM 10 32])))
theorem L68x2 : low Try.prog Try.f68.ntmps (at_ Try.f68 [1, 1, 1, 1, 1, 0, 0]) = some R68x2 := by kernel_rfl
theorem N69 : Try.f69.ntmps = 65 := by kernel_rfl
theorem Z69 : Try.f69.results.toList = (#[] : Array ResultVar).toList := by kernel_rfl
theorem B69 : Try.f69.body = some (at_ Try.f69 []) := by kernel_rfl
noncomputable def R69 : RC := (.seq (.reg [oM 11 2, oM 12 1, oS 13 .sub 11 12, oM 6 13])
 (.seq (.reg [oM 14 6, oQ 15 .geq 14 8])
 (.cond (.tmp 15) (.seq (.reg [oM 16 6, ⟨some 17, none, .pur ⟨some 17, (.convert 3 116 (.tmp 16)), 116, "", #[], none⟩⟩, ⟨some 7, none, (.alc 116 [(.int .u64 0)])⟩, ⟨none, none, .st (.tmp 7) (.tmp 17)⟩])
 (.seq (.reg [oM 18 6, oC 19 79 #[(.tmp 18)] #[3], oM 8 19])
 (.seq (.reg [oM 20 1, oM 21 6, oR 22 .quo 21 4, oR 23 .mul 22 2, oS 24 .add 20 23, oR 25 .sub 24 1, oM 9 25])
 (.block 0 (.other (at_ Try.f69 [1, 1, 0, 1, 1, 1, 0]))))))
 .skip)))
theorem L69 : low Try.prog Try.f69.ntmps (at_ Try.f69 []) = some R69 := by kernel_rfl
theorem E69_1 : at_ Try.f69 [1, 1, 0, 1, 1, 1, 0] = .loop (at_ Try.f69 [1, 1, 0, 1, 1, 1, 0, 0]) := by kernel_rfl
noncomputable def R69x1 : RC := (.seq (.seq (.reg [oM 26 9, oM 27 1, oM 28 6, oR 29 .quo 28 4, oR 30 .mul 29 2, oS 31 .add 27 30, oR 32 .add 31 1, ⟨some 33, none, (.cmp .leq (.tmp 26) (.tmp 32))⟩])
 (.cond (.tmp 33) .skip
 (.exit 0)))
 (.seq (.block 1 (.seq (.reg [oC 36 80 #[(.tmp 7)] #[116], oM 37 8, ⟨some 38, none, .pur ⟨some 38, (.binOp .sub 96 (.tmp 37) (.const (.int .u64 1)) 96), 96, "", #[], none⟩⟩, ⟨some 39, none, .pur ⟨some 39, (.binOp .and 96 (.tmp 36) (.tmp 38) 96), 96, "", #[], none⟩⟩, ⟨some 40, none, (.pur ⟨some 40, (.convert 96 3 (.tmp 39)), 3, "", #[], none⟩)⟩, oM 10 40])
 (.seq (.seq (.reg [oM 41 10, oM 42 6, ⟨some 43, none, (.cmp .geq (.tmp 41) (.tmp 42))⟩])
 (.cond (.tmp 43) (.reg [oM 44 10, oM 45 6, oS 46 .sub 44 45, oM 10 46])
 .skip))
 (.dreg [oM 47 0, oM 48 9, oM 49 0, oM 50 1, oM 51 10, oS 52 .add 50 51, oM 53 0, oM 54 1, oM 55 10, oS 56 .add 54 55, oI 57 53 56 1, oL 58 57 1, oM 59 0, oM 60 9, oI 61 59 60 1, oL 62 61 1, oI 63 47 48 1, ⟨none, none, (.st (.tmp 63) (.tmp 58))⟩, oI 64 49 52 1, ⟨none, none, (.st (.tmp 64) (.tmp 62))⟩] [524287, 262143, 131011, 65475, 28672, 12288, 0, 0, 1984, 960, 384, 0, 0, 0, 24, 0, 0, 0, 0, 0]))))
 (.reg [oM 34 9, oR 35 .add 34 1, oM 9 35])))
theorem L69x1 : low Try.prog Try.f69.ntmps (at_ Try.f69 [1, 1, 0, 1, 1, 1, 0, 0]) = some R69x1 := by kernel_rfl
theorem N70 : Try.f70.ntmps = 57 := by kernel_rfl
theorem Z70 : Try.f70.results.toList = (#[(.tmp 6), (.tmp 7)] : Array ResultVar).toList := by kernel_rfl
theorem B70 : Try.f70.body = some (at_ Try.f70 []) := by kernel_rfl
noncomputable def R70 : RC := (.seq (.reg [oN 6 0, oN 7 0])
 (.seq (.reg [oM 13 2, oM 14 1, oS 15 .sub 13 14, oM 8 15])
 (.seq (.reg [⟨some 9, none, (.alc 3 [(.int .i64 0)])⟩])
 (.seq (.reg [oM 16 1, oM 17 8, oR 18 .quo 17 4, oR 19 .mul 18 1, oS 20 .add 16 19, oM 10 20])
 (.seq (.reg [oM 21 1, oM 22 8, oR 23 .quo 22 4, oR 24 .mul 23 2, oS 25 .add 21 24, oM 11 25])
 (.seq (.reg [oM 26 1, oM 27 8, oR 28 .quo 27 4, oR 29 .mul 28 3, oS 30 .add 26 29, oM 12 30])
 (.seq (.seq (.reg [oM 31 8, oQ 32 .geq 31 8])
 (.cond (.tmp 32) (.seq (.seq (.reg [oM 33 8, oQ 34 .geq 33 50])
 (.cond (.tmp 34) (.seq (.reg [oM 35 0, oM 36 10, oC 37 81 #[(.tmp 35), (.tmp 36), (.tmp 9)] #[90, 3, 120], oM 10 37])
 (.seq (.reg [oM 38 0, oM 39 11, oC 40 81 #[(.tmp 38), (.tmp 39), (.tmp 9)] #[90, 3, 120], oM 11 40])
 (.reg [oM 41 0, oM 42 12, oC 43 81 #[(.tmp 41), (.tmp 42), (.tmp 9)] #[90, 3, 120], oM 12 43])))
 .skip))
 (.reg [oM 44 0, oM 45 10, oM 46 11, oM 47 12, oC 48 82 #[(.tmp 44), (.tmp 45), (.tmp 46), (.tmp 47), (.tmp 9)] #[90, 3, 3, 3, 120], oM 11 48]))
 .skip))
 (.seq (.reg [oL 49 9 1])
 (.block 0 (.seq (.reg [oQ 52 .eql 49 0, oM 51 52])
 (.cond (.tmp 51) (.seq (.reg [oM 53 11, oM 6 53, oN 7 1])
 .ret)
 (.seq (.reg [oQ 55 .eql 49 12, oM 54 55])
 (.cond (.tmp 54) (.seq (.reg [oM 56 11, oM 6 56, oN 7 2])
 .ret)
 (.seq (.reg [oM 50 11, oM 6 50, oN 7 0])
 .ret))))))))))))))
theorem L70 : low Try.prog Try.f70.ntmps (at_ Try.f70 []) = some R70 := by kernel_rfl
theorem N71 : Try.f71.ntmps = 32 := by kernel_rfl
theorem Z71 : Try.f71.results.toList = (#[] : Array ResultVar).toList := by kernel_rfl
theorem B71 : Try.f71.body = some (at_ Try.f71 []) := by kernel_rfl
noncomputable def R71 : RC := (.seq (.reg [oM 8 1, oM 6 8])
 (.seq (.reg [oM 9 2, oR 10 .sub 9 1, oM 7 10])
 (.block 0 (.other (at_ Try.f71 [1, 1, 0])))))
theorem L71 : low Try.prog Try.f71.ntmps (at_ Try.f71 []) = some R71 := by kernel_rfl
theorem E71_1 : at_ Try.f71 [1, 1, 0] = .loop (at_ Try.f71 [1, 1, 0, 0]) := by kernel_rfl
noncomputable def R71x1 : RC := (.seq (.seq (.reg [oM 11 6, oM 12 7, ⟨some 13, none, (.cmp .lss (.tmp 11) (.tmp 12))⟩])
 (.cond (.tmp 13) .skip
 (.exit 0)))
 (.block 1 (.seq (.dreg [oM 14 0, oM 15 6, oM 16 0, oM 17 7, oM 18 0, oM 19 7, oI 20 18 19 1, oL 21 20 1, oM 22 0, oM 23 6, oI 24 22 23 1, oL 25 24 1, oI 26 14 15 1, ⟨none, none, (.st (.tmp 26) (.tmp 21))⟩, oI 27 16 17 1, ⟨none, none, (.st (.tmp 27) (.tmp 25))⟩] [32767, 16383, 8179, 4083, 1792, 768, 0, 0, 112, 48, 0, 0, 0, 0, 0, 0])
 (.seq (.reg [oM 28 6, oR 29 .add 28 1, oM 6 29])
 (.reg [oM 30 7, oR 31 .sub 30 1, oM 7 31])))))
theorem L71x1 : low Try.prog Try.f71.ntmps (at_ Try.f71 [1, 1, 0, 0]) = some R71x1 := by kernel_rfl
theorem N72 : Try.f72.ntmps = 133 := by kernel_rfl
theorem Z72 : Try.f72.results.toList = (#[(.tmp 6)] : Array ResultVar).toList := by kernel_rfl
theorem B72 : Try.f72.body = some (at_ Try.f72 []) := by kernel_rfl
noncomputable def R72 : RC := (.seq (.reg [oF 6])
 (.seq (.reg [oM 11 1, oR 12 .add 11 1, oM 7 12])
 (.seq (.seq (.reg [oN 8 0])
 (.block 0 (.other (at_ Try.f72 [1, 1, 0, 1, 0]))))
 (.seq (.reg [oF 6])
 .ret))))
theorem L72 : low Try.prog Try.f72.ntmps (at_ Try.f72 []) = some R72 := by kernel_rfl
theorem E72_1 : at_ Try.f72 [1, 1, 0, 1, 0] = .loop (at_ Try.f72 [1, 1, 0, 1, 0, 0]) := by kernel_rfl
theorem E72_2 : at_ Try.f72 [1, 1, 0, 1, 0, 0, 1, 0, 0, 0, 0] = .loop (at_ Try.f72 [1, 1, 0, 1, 0, 0, 1, 0, 0, 0, 0, 0]) := by kernel_rfl
noncomputable def R72x2 : RC := (.seq (.seq (.dreg [oM 17 7, oM 18 2, ⟨some 19, none, (.cmpb .lss (.tmp 17) (.tmp 18))⟩, oM 20 19, oG 21 20 true 0, oG 22 20 true 7, oIg 23 20 true 21 22 1, oLg 24 20 true 23 1, oG 25 20 true 0, oG 26 20 true 7, ⟨some 27, some (20, true), (.ari .sub (.tmp 26) (.const (.int .i64 1)))⟩, oIg 28 20 true 25 27 1, oLg 29 20 true 28 1, oH 30 20 true 73 #[(.tmp 24), (.tmp 29)] #[3, 3], oV 31 20 true 30, oA 32 20 31] [32767, 16383, 8191, 3855, 1807, 527, 15, 15, 127, 63, 15, 15, 7, 3, 0, 0])
 (.cond (.tmp 32) .skip
 (.exit 2)))
 (.block 3 (.reg [oM 33 7, oR 34 .add 33 1, oM 7 34])))
theorem L72x2 : low Try.prog Try.f72.ntmps (at_ Try.f72 [1, 1, 0, 1, 0, 0, 1, 0, 0, 0, 0, 0]) = some R72x2 := by kernel_rfl
theorem E72_3 : at_ Try.f72 [1, 1, 0, 1, 0, 0, 1, 0, 0, 1, 1, 1, 1, 0, 1, 0, 1, 0] = .loop (at_ Try.f72 [1, 1, 0, 1, 0, 0, 1, 0, 0, 1, 1, 1, 1, 0, 1, 0, 1, 0, 0]) := by kernel_rfl
noncomputable def R72x3 : RC := (.seq (.seq (.reg [oM 64 9, oQ 65 .geq 64 1])
 (.cond (.tmp 65) .skip
 (.exit 4)))
 (.seq (.block 5 (.seq (.seq (.dreg [oM 68 0, oM 69 9, oI 70 68 69 1, oL 71 70 1, oM 72 0, oM 73 9, oR 74 .sub 73 1, oI 75 72 74 1, oL 76 75 1, oC 77 73 #[(.tmp 71), (.tmp 76)] #[3, 3], oU 78 77] [1023, 511, 240, 112, 32, 0, 0, 7, 3, 0, 0])
 (.cond (.tmp 78) (.exit 4)
 .skip))
 (.dreg [oM 79 0, oM 80 9, oM 81 0, oM 82 9, oR 83 .sub 82 1, oM 84 0, oM 85 9, oR 86 .sub 85 1, oI 87 84 86 1, oL 88 87 1, oM 89 0, oM 90 9, oI 91 89 90 1, oL 92 91 1, oI 93 79 80 1, ⟨none, none, (.st (.tmp 93) (.tmp 88))⟩, oI 94 81 83 1, ⟨none, none, (.st (.tmp 94) (.tmp 92))⟩] [131071, 65535, 32739, 16355, 7168, 3072, 0, 0, 480, 224, 64, 0, 0, 8, 0, 0, 0, 0])))
 (.reg [oM 66 9, oR 67 .sub 66 1, oM 9 67])))
theorem L72x3 : low Try.prog Try.f72.ntmps (at_ Try.f72 [1, 1, 0, 1, 0, 0, 1, 0, 0, 1, 1, 1, 1, 0, 1, 0, 1, 0, 0]) = some R72x3 := by kernel_rfl
theorem E72_4 : at_ Try.f72 [1, 1, 0, 1, 0, 0, 1, 0, 0, 1, 1, 1, 1, 1, 1, 0, 1, 0] = .loop (at_ Try.f72 [1, 1, 0, 1, 0, 0, 1, 0, 0, 1, 1, 1, 1, 1, 1, 0, 1, 0, 0]) := by kernel_rfl
noncomputable def R72x4 : RC := (.seq (.seq (.reg [oM 101 10, oM 102 2, ⟨some 103, none, (.cmp .lss (.tmp 101) (.tmp 102))⟩])
 (.cond (.tmp 103) .skip
 (.exit 6)))
 (.seq (.block 7 (.seq (.seq (.dreg [oM 106 0, oM 107 10, oI 108 106 107 1, oL 109 108 1, oM 110 0, oM 111 10, oR 112 .sub 111 1, oI 113 110 112 1, oL 114 113 1, oC 115 73 #[(.tmp 109), (.tmp 114)] #[3, 3], oU 116 115] [1023, 511, 240, 112, 32, 0, 0, 7, 3, 0, 0])
 (.cond (.tmp 116) (.exit 6)
 .skip))
 (.dreg [oM 117 0, oM 118 10, oM 119 0, oM 120 10, oR 121 .sub 120 1, oM 122 0, oM 123 10, oR 124 .sub 123 1, oI 125 122 124 1, oL 126 125 1, oM 127 0, oM 128 10, oI 129 127 128 1, oL 130 129 1, oI 131 117 118 1, ⟨none, none, (.st (.tmp 131) (.tmp 126))⟩, oI 132 119 121 1, ⟨none, none, (.st (.tmp 132) (.tmp 130))⟩] [131071, 65535, 32739, 16355, 7168, 3072, 0, 0, 480, 224, 64, 0, 0, 8, 0, 0, 0, 0])))
 (.reg [oM 104 10, oR 105 .add 104 1, oM 10 105])))
theorem L72x4 : low Try.prog Try.f72.ntmps (at_ Try.f72 [1, 1, 0, 1, 0, 0, 1, 0, 0, 1, 1, 1, 1, 1, 1, 0, 1, 0, 0]) = some R72x4 := by kernel_rfl
theorem N73 : Try.f73.ntmps = 17 := by kernel_rfl
theorem Z73 : Try.f73.results.toList = (#[(.tmp 4)] : Array ResultVar).toList := by kernel_rfl
theorem B73 : Try.f73.body = some (at_ Try.f73 []) := by kernel_rfl
noncomputable def R73 : RC := (.seq (.reg [oF 4])
 (.seq (.reg [oM 5 0, oC 6 83 #[(.tmp 5)] #[3], oM 7 6, oG 8 7 true 1, oH 9 7 true 83 #[(.tmp 8)] #[3], oV 10 7 true 9, oA 11 7 10, oM 12 11, oG 13 12 false 0, oG 14 12 false 1, ⟨some 15, some (12, false), (.cmpb .lss (.tmp 13) (.tmp 14))⟩, oO 16 12 15, oM 4 16])
 .ret))
theorem L73 : low Try.prog Try.f73.ntmps (at_ Try.f73 []) = some R73 := by kernel_rfl
theorem N74 : Try.f74.ntmps = 84 := by kernel_rfl
theorem Z74 : Try.f74.results.toList = (#[(.tmp 8)] : Array ResultVar).toList := by kernel_rfl
theorem B74 : Try.f74.body = some (at_ Try.f74 []) := by kernel_rfl
theorem E74_1 : at_ Try.f74 [1, 1, 1, 0, 0] = .loop (at_ Try.f74 [1, 1, 1, 0, 0, 0]) := by kernel_rfl
theorem E74_2 : at_ Try.f74 [1, 1, 1, 0, 0, 0, 0, 0, 0] = .loop (at_ Try.f74 [1, 1, 1, 0, 0, 0, 0, 0, 0, 0]) := by kernel_rfl
noncomputable def R74x2 : RC := (.seq (.seq (.dreg [oM 29 9, oM 30 10, ⟨some 31, none, (.cmpb .leq (.tmp 29) (.tmp 30))⟩, oM 32 31, oG 33 32 true 0, oG 34 32 true 1, oIg 35 32 true 33 34 1, oLg 36 32 true 35 1, oG 37 32 true 0, oG 38 32 true 9, oIg 39 32 true 37 38 1, oLg 40 32 true 39 1, oH 41 32 true 73 #[(.tmp 36), (.tmp 40)] #[3, 3], oV 42 32 true 41, oA 43 32 42] [16383, 8191, 4095, 1807, 783, 15, 15, 127, 63, 15, 15, 7, 3, 0, 0])
 (.cond (.tmp 43) .skip
 (.exit 2)))
 (.block 3 (.reg [oM 44 9, oR 45 .add 44 1, oM 9 45])))
theorem L74x2 : low Try.prog Try.f74.ntmps (at_ Try.f74 [1, 1, 1, 0, 0, 0, 0, 0, 0, 0]) = some R74x2 := by kernel_rfl
theorem E74_3 : at_ Try.f74 [1, 1, 1, 0, 0, 0, 0, 1, 0, 0] = .loop (at_ Try.f74 [1, 1, 1, 0, 0, 0, 0, 1, 0, 0, 0]) := by kernel_rfl
noncomputable def R74x3 : RC := (.seq (.seq (.dreg [oM 46 9, oM 47 10, ⟨some 48, none, (.cmpb .leq (.tmp 46) (.tmp 47))⟩, oM 49 48, oG 50 49 true 0, oG 51 49 true 1, oIg 52 49 true 50 51 1, oLg 53 49 true 52 1, oG 54 49 true 0, oG 55 49 true 10, oIg 56 49 true 54 55 1, oLg 57 49 true 56 1, oH 58 49 true 73 #[(.tmp 53), (.tmp 57)] #[3, 3], oA 59 49 58] [8191, 4095, 1807, 783, 15, 15, 127, 63, 15, 15, 7, 3, 0, 0])
 (.cond (.tmp 59) .skip
 (.exit 4)))
 (.block 5 (.reg [oM 60 10, oR 61 .sub 60 1, oM 10 61])))
theorem L74x3 : low Try.prog Try.f74.ntmps (at_ Try.f74 [1, 1, 1, 0, 0, 0, 0, 1, 0, 0, 0]) = some R74x3 := by kernel_rfl
theorem N75 : Try.f75.ntmps = 168 := by kernel_rfl
theorem Z75 : Try.f75.results.toList = (#[(.tmp 8), (.tmp 9)] : Array ResultVar).toList := by kernel_rfl
theorem B75 : Try.f75.body = some (at_ Try.f75 []) := by kernel_rfl
theorem E75_1 : at_ Try.f75 [1, 1, 1, 0, 0] = .loop (at_ Try.f75 [1, 1, 1, 0, 0, 0]) := by kernel_rfl
noncomputable def R75x1 : RC := (.seq (.seq (.dreg [oM 30 10, oM 31 11, ⟨some 32, none, (.cmpb .leq (.tmp 30) (.tmp 31))⟩, oM 33 32, oG 34 33 true 0, oG 35 33 true 10, oIg 36 33 true 34 35 1, oLg 37 33 true 36 1, oG 38 33 true 0, oG 39 33 true 1, oIg 40 33 true 38 39 1, oLg 41 33 true 40 1, oH 42 33 true 73 #[(.tmp 37), (.tmp 41)] #[3, 3], oA 43 33 42] [8191, 4095, 1807, 783, 15, 15, 127, 63, 15, 15, 7, 3, 0, 0])
 (.cond (.tmp 43) .skip
 (.exit 0)))
 (.block 1 (.reg [oM 44 10, oR 45 .add 44 1, oM 10 45])))
theorem L75x1 : low Try.prog Try.f75.ntmps (at_ Try.f75 [1, 1, 1, 0, 0, 0]) = some R75x1 := by kernel_rfl
theorem E75_2 : at_ Try.f75 [1, 1, 1, 1, 0, 0] = .loop (at_ Try.f75 [1, 1, 1, 1, 0, 0, 0]) := by kernel_rfl
noncomputable def R75x2 : RC := (.seq (.seq (.dreg [oM 46 10, oM 47 11, ⟨some 48, none, (.cmpb .leq (.tmp 46) (.tmp 47))⟩, oM 49 48, oG 50 49 true 0, oG 51 49 true 11, oIg 52 49 true 50 51 1, oLg 53 49 true 52 1, oG 54 49 true 0, oG 55 49 true 1, oIg 56 49 true 54 55 1, oLg 57 49 true 56 1, oH 58 49 true 73 #[(.tmp 53), (.tmp 57)] #[3, 3], oV 59 49 true 58, oA 60 49 59] [16383, 8191, 4095, 1807, 783, 15, 15, 127, 63, 15, 15, 7, 3, 0, 0])
 (.cond (.tmp 60) .skip
 (.exit 2)))
 (.block 3 (.reg [oM 61 11, oR 62 .sub 61 1, oM 11 62])))
theorem L75x2 : low Try.prog Try.f75.ntmps (at_ Try.f75 [1, 1, 1, 1, 0, 0, 0]) = some R75x2 := by kernel_rfl
theorem E75_3 : at_ Try.f75 [1, 1, 1, 1, 1, 1, 1, 1, 1, 0, 0] = .loop (at_ Try.f75 [1, 1, 1, 1, 1, 1, 1, 1, 1, 0, 0, 0]) := by kernel_rfl
theorem E75_4 : at_ Try.f75 [1, 1, 1, 1, 1, 1, 1, 1, 1, 0, 0, 0, 0, 0, 0] = .loop (at_ Try.f75 [1, 1, 1, 1, 1, 1, 1, 1, 1, 0, 0, 0, 0, 0, 0, 0]) := by kernel_rfl
noncomputable def R75x4 : RC := (.seq (.seq (.dreg [oM 99 10, oM 100 11, ⟨some 101, none, (.cmpb .leq (.tmp 99) (.tmp 100))⟩, oM 102 101, oG 103 102 true 0, oG 104 102 true 10, oIg 105 102 true 103 104 1, oLg 106 102 true 105 1, oG 107 102 true 0, oG 108 102 true 1, oIg 109 102 true 107 108 1, oLg 110 102 true 109 1, oH 111 102 true 73 #[(.tmp 106), (.tmp 110)] #[3, 3], oA 112 102 111] [8191, 4095, 1807, 783, 15, 15, 127, 63, 15, 15, 7, 3, 0, 0])
 (.cond (.tmp 112) .skip
 (.exit 6)))
 (.block 7 (.reg [oM 113 10, oR 114 .add 113 1, oM 10 114])))
theorem L75x4 : low Try.prog Try.f75.ntmps (at_ Try.f75 [1, 1, 1, 1, 1, 1, 1, 1, 1, 0, 0, 0, 0, 0, 0, 0]) = some R75x4 := by kernel_rfl
theorem E75_5 : at_ Try.f75 [1, 1, 1, 1, 1, 1, 1, 1, 1, 0, 0, 0, 0, 1, 0, 0] = .loop (at_ Try.f75 [1, 1, 1, 1, 1, 1, 1, 1, 1, 0, 0, 0, 0, 1, 0, 0, 0]) := by kernel_rfl
noncomputable def R75x5 : RC := (.seq (.seq (.dreg [oM 115 10, oM 116 11, ⟨some 117, none, (.cmpb .leq (.tmp 115) (.tmp 116))⟩, oM 118 117, oG 119 118 true 0, oG 120 118 true 11, oIg 121 118 true 119 120 1, oLg 122 118 true 121 1, oG 123 118 true 0, oG 124 118 true 1, oIg 125 118 true 123 124 1, oLg 126 118 true 125 1, oH 127 118 true 73 #[(.tmp 122), (.tmp 126)] #[3, 3], oV 128 118 true 127, oA 129 118 128] [16383, 8191, 4095, 1807, 783, 15, 15, 127, 63, 15, 15, 7, 3, 0, 0])
 (.cond (.tmp 129) .skip
 (.exit 8)))
 (.block 9 (.reg [oM 130 11, oR 131 .sub 130 1, oM 11 131])))
theorem L75x5 : low Try.prog Try.f75.ntmps (at_ Try.f75 [1, 1, 1, 1, 1, 1, 1, 1, 1, 0, 0, 0, 0, 1, 0, 0, 0]) = some R75x5 := by kernel_rfl
theorem N77 : Try.f77.ntmps = 25 := by kernel_rfl
theorem Z77 : Try.f77.results.toList = (#[(.tmp 2)] : Array ResultVar).toList := by kernel_rfl
theorem B77 : Try.f77.body = some (at_ Try.f77 []) := by kernel_rfl
noncomputable def R77 : RC := (.seq (.reg [oN 2 0])
 (.seq (.seq (.reg [oM 3 0, ⟨some 4, none, .pur ⟨some 4, (.binOp .geq 43 (.tmp 3) (.const (.int .u64 4294967296)) 43), 4, "", #[], none⟩⟩])
 (.cond (.tmp 4) (.seq (.reg [oM 5 0, ⟨some 6, none, (.pur ⟨some 6, (.binOp .shr 43 (.tmp 5) (.const (.int .u64 32)) 96), 43, "", #[], none⟩)⟩, oM 0 6])
 (.reg [oN 2 32]))
 .skip))
 (.seq (.seq (.reg [oM 7 0, ⟨some 8, none, .pur ⟨some 8, (.binOp .geq 43 (.tmp 7) (.const (.int .u64 65536)) 43), 4, "", #[], none⟩⟩])
 (.cond (.tmp 8) (.seq (.reg [oM 9 0, ⟨some 10, none, (.pur ⟨some 10, (.binOp .shr 43 (.tmp 9) (.const (.int .u64 16)) 96), 43, "", #[], none⟩)⟩, oM 0 10])
 (.reg [oM 11 2, oR 12 .add 11 16, oM 2 12]))
 .skip))
 (.seq (.seq (.reg [oM 13 0, ⟨some 14, none, .pur ⟨some 14, (.binOp .geq 43 (.tmp 13) (.const (.int .u64 256)) 43), 4, "", #[], none⟩⟩])
 (.cond (.tmp 14) (.seq (.reg [oM 15 0, ⟨some 16, none, (.pur ⟨some 16, (.binOp .shr 43 (.tmp 15) (.const (.int .u64 8)) 96), 43, "", #[], none⟩)⟩, oM 0 16])
 (.reg [oM 17 2, oR 18 .add 17 8, oM 2 18]))
 .skip))
 (.seq (.reg [oM 19 2, oM 20 0, ⟨some 21, none, .pur ⟨some 21, (.convert 43 5 (.tmp 20)), 5, "", #[], none⟩⟩, ⟨some 22, none, .pur ⟨some 22, (.index 9 (.const (.string (.mk #[0, 1, 2, 2, 3, 3, 3, 3, 4, 4, 4, 4, 4, 4, 4, 4, 5, 5, 5, 5, 5, 5, 5, 5, 5, 5, 5, 5, 5, 5, 5, 5, 6, 6, 6, 6, 6, 6, 6, 6, 6, 6, 6, 6, 6, 6, 6, 6, 6, 6, 6, 6, 6, 6, 6, 6, 6, 6, 6, 6, 6, 6, 6, 6, 7, 7, 7, 7, 7, 7, 7, 7, 7, 7, 7, 7, 7, 7, 7, 7, 7, 7, 7, 7, 7, 7, 7, 7, 7, 7, 7, 7, 7, 7, 7, 7, 7, 7, 7, 7, 7, 7, 7, 7, 7, 7, 7, 7, 7, 7, 7, 7, 7, 7, 7, 7, 7, 7, 7, 7, 7, 7, 7, 7, 7, 7, 7, 7, 8, 8, 8, 8, 8, 8, 8, 8, 8, 8, 8, 8, 8, 8, 8, 8, 8, 8, 8, 8, 8, 8, 8, 8, 8, 8, 8, 8, 8, 8, 8, 8, 8, 8, 8, 8, 8, 8, 8, 8, 8, 8, 8, 8, 8, 8, 8, 8, 8, 8, 8, 8, 8, 8, 8, 8, 8, 8, 8, 8, 8, 8, 8, 8, 8, 8, 8, 8, 8, 8, 8, 8, 8, 8, 8, 8, 8, 8, 8, 8, 8, 8, 8, 8, 8, 8, 8, 8, 8, 8, 8, 8, 8, 8, 8, 8, 8, 8, 8, 8, 8, 8, 8, 8, 8, 8, 8, 8, 8, 8, 8, 8, 8, 8, 8, 8, 8, 8, 8, 8, 8, 8, 8, 8, 8, 8, 8, 8]))) (.tmp 21)), 5, "", #[], none⟩⟩, ⟨some 23, none, (.pur ⟨some 23, (.convert 5 3 (.tmp 22)), 3, "", #[], none⟩)⟩, oS 24 .add 19 23, oM 2 24])
 .ret)))))
theorem L77 : low Try.prog Try.f77.ntmps (at_ Try.f77 []) = some R77 := by kernel_rfl
theorem N78 : Try.f78.ntmps = 76 := by kernel_rfl
theorem Z78 : Try.f78.results.toList = (#[] : Array ResultVar).toList := by kernel_rfl
theorem B78 : Try.f78.body = some (at_ Try.f78 []) := by kernel_rfl
noncomputable def R78 : RC := (.seq (.reg [oM 10 1, oM 8 10])
 (.block 0 (.other (at_ Try.f78 [1, 0]))))
theorem L78 : low Try.prog Try.f78.ntmps (at_ Try.f78 []) = some R78 := by kernel_rfl
theorem E78_1 : at_ Try.f78 [1, 0] = .loop (at_ Try.f78 [1, 0, 0]) := by kernel_rfl
noncomputable def R78x1 : RC := (.block 1 (.seq (.reg [oM 11 8, ⟨some 12, none, (.ari .mul (.const (.int .i64 2)) (.tmp 11))⟩, oR 13 .add 12 1, oM 9 13])
 (.seq (.seq (.reg [oM 14 9, oM 15 2, ⟨some 16, none, (.cmp .geq (.tmp 14) (.tmp 15))⟩])
 (.cond (.tmp 16) (.exit 0)
 .skip))
 (.seq (.seq (.dreg [oM 17 9, oR 18 .add 17 1, oM 19 2, ⟨some 20, none, (.cmpb .lss (.tmp 18) (.tmp 19))⟩, oM 21 20, oG 22 21 true 0, oG 23 21 true 3, oG 24 21 true 9, ⟨some 25, some (21, true), (.ari .add (.tmp 23) (.tmp 24))⟩, oIg 26 21 true 22 25 1, oLg 27 21 true 26 1, oG 28 21 true 0, oG 29 21 true 3, oG 30 21 true 9, ⟨some 31, some (21, true), (.ari .add (.tmp 29) (.tmp 30))⟩, ⟨some 32, some (21, true), (.ari .add (.tmp 31) (.const (.int .i64 1)))⟩, oIg 33 21 true 28 32 1, oLg 34 21 true 33 1, oH 35 21 true 73 #[(.tmp 27), (.tmp 34)] #[3, 3], oA 36 21 35] [524287, 262143, 129055, 63519, 28703, 12319, 31, 31, 31, 1023, 511, 223, 31, 31, 31, 15, 7, 0, 1, 0])
 (.cond (.tmp 36) (.reg [oM 37 9, oR 38 .add 37 1, oM 9 38])
 .skip))
 (.seq (.seq (.dreg [oM 39 0, oM 40 3, oM 41 8, oS 42 .add 40 41, oI 43 39 42 1, oL 44 43 1, oM 45 0, oM 46 3, oM 47 9, oS 48 .add 46 47, oI 49 45 48 1, oL 50 49 1, oC 51 73 #[(.tmp 44), (.tmp 50)] #[3, 3], oU 52 51] [8191, 4095, 1984, 960, 384, 0, 0, 0, 31, 15, 6, 0, 0, 0])
 (.cond (.tmp 52) .ret
 .skip))
 (.seq (.dreg [oM 53 0, oM 54 3, oM 55 8, oS 56 .add 54 55, oM 57 0, oM 58 3, oM 59 9, oS 60 .add 58 59, oM 61 0, oM 62 3, oM 63 9, oS 64 .add 62 63, oI 65 61 64 1, oL 66 65 1, oM 67 0, oM 68 3, oM 69 8, oS 70 .add 68 69, oI 71 67 70 1, oL 72 71 1, oI 73 53 56 1, ⟨none, none, (.st (.tmp 73) (.tmp 66))⟩, oI 74 57 60 1, ⟨none, none, (.st (.tmp 74) (.tmp 72))⟩] [8388607, 4194303, 2096911, 1048335, 507904, 245760, 98304, 0, 0, 0, 7936, 3840, 1536, 0, 0, 0, 96, 0, 0, 0, 6, 0, 0, 0])
 (.reg [oM 75 9, oM 8 75])))))))
theorem L78x1 : low Try.prog Try.f78.ntmps (at_ Try.f78 [1, 0, 0]) = some R78x1 := by kernel_rfl
theorem N79 : Try.f79.ntmps = 7 := by kernel_rfl
theorem Z79 : Try.f79.results.toList = (#[(.tmp 2)] : Array ResultVar).toList := by kernel_rfl
theorem B79 : Try.f79.body = some (at_ Try.f79 []) := by kernel_rfl
noncomputable def R79 : RC := (.seq (.reg [⟨some 2, none, .mov (.const (.int .u64 0))⟩])
 (.seq (.reg [oM 3 0, ⟨some 4, none, (.pur ⟨some 4, (.convert 3 96 (.tmp 3)), 96, "", #[], none⟩)⟩, oC 5 66 #[(.tmp 4)] #[96], ⟨some 6, none, (.pur ⟨some 6, (.binOp .shl 96 (.const (.int .u64 1)) (.tmp 5) 3), 96, "", #[], none⟩)⟩, oM 2 6])
 .ret))
theorem L79 : low Try.prog Try.f79.ntmps (at_ Try.f79 []) = some R79 := by kernel_rfl
theorem N80 : Try.f80.ntmps = 33 := by kernel_rfl
theorem Z80 : Try.f80.results.toList = (#[(.tmp 2)] : Array ResultVar).toList := by kernel_rfl
theorem B80 : Try.f80.body = some (at_ Try.f80 []) := by kernel_rfl
noncomputable def R80 : RC := (.seq (.reg [⟨some 2, none, .mov (.const (.int .u64 0))⟩])
 (.seq (.dreg [oM 3 0, ⟨some 4, none, (.nilc (.tmp 3))⟩, oL 5 4 1, oM 6 0, ⟨some 7, none, (.nilc (.tmp 6))⟩, oL 8 7 1, ⟨some 9, none, .pur ⟨some 9, (.binOp .shl 116 (.tmp 8) (.const (.int .u64 13)) 96), 116, "", #[], none⟩⟩, ⟨some 10, none, .pur ⟨some 10, (.binOp .xor 116 (.tmp 5) (.tmp 9) 116), 116, "", #[], none⟩⟩, ⟨some 11, none, (.nilc (.tmp 3))⟩, ⟨none, none, .st (.tmp 11) (.tmp 10)⟩] [511, 255, 127, 56, 24, 8, 0, 3, 1, 0])
 (.seq (.dreg [oM 12 0, ⟨some 13, none, (.nilc (.tmp 12))⟩, oL 14 13 1, oM 15 0, ⟨some 16, none, (.nilc (.tmp 15))⟩, oL 17 16 1, ⟨some 18, none, .pur ⟨some 18, (.binOp .shr 116 (.tmp 17) (.const (.int .u64 7)) 96), 116, "", #[], none⟩⟩, ⟨some 19, none, .pur ⟨some 19, (.binOp .xor 116 (.tmp 14) (.tmp 18) 116), 116, "", #[], none⟩⟩, ⟨some 20, none, (.nilc (.tmp 12))⟩, ⟨none, none, .st (.tmp 20) (.tmp 19)⟩] [511, 255, 127, 56, 24, 8, 0, 3, 1, 0])
 (.seq (.dreg [oM 21 0, ⟨some 22, none, (.nilc (.tmp 21))⟩, oL 23 22 1, oM 24 0, ⟨some 25, none, (.nilc (.tmp 24))⟩, oL 26 25 1, ⟨some 27, none, .pur ⟨some 27, (.binOp .shl 116 (.tmp 26) (.const (.int .u64 17)) 96), 116, "", #[], none⟩⟩, ⟨some 28, none, .pur ⟨some 28, (.binOp .xor 116 (.tmp 23) (.tmp 27) 116), 116, "", #[], none⟩⟩, ⟨some 29, none, (.nilc (.tmp 21))⟩, ⟨none, none, .st (.tmp 29) (.tmp 28)⟩] [511, 255, 127, 56, 24, 8, 0, 3, 1, 0])
 (.seq (.reg [oM 30 0, ⟨some 31, none, (.nilc (.tmp 30))⟩, oL 32 31 1, oM 2 32])
 .ret)))))
theorem L80 : low Try.prog Try.f80.ntmps (at_ Try.f80 []) = some R80 := by kernel_rfl
theorem N81 : Try.f81.ntmps = 15 := by kernel_rfl
theorem Z81 : Try.f81.results.toList = (#[(.tmp 6)] : Array ResultVar).toList := by kernel_rfl
theorem B81 : Try.f81.body = some (at_ Try.f81 []) := by kernel_rfl
noncomputable def R81 : RC := (.seq (.reg [oN 6 0])
 (.seq (.reg [oM 7 0, oM 8 1, oR 9 .sub 8 1, oM 10 1, oM 11 1, oR 12 .add 11 1, oM 13 2, oC 14 82 #[(.tmp 7), (.tmp 9), (.tmp 10), (.tmp 12), (.tmp 13)] #[90, 3, 3, 3, 120], oM 6 14])
 .ret))
theorem L81 : low Try.prog Try.f81.ntmps (at_ Try.f81 []) = some R81 := by kernel_rfl
theorem N82 : Try.f82.ntmps = 36 := by kernel_rfl
theorem Z82 : Try.f82.results.toList = (#[(.tmp 10)] : Array ResultVar).toList := by kernel_rfl
theorem B82 : Try.f82.body = some (at_ Try.f82 []) := by kernel_rfl
noncomputable def R82 : RC := (.seq (.reg [oN 10 0])
 (.seq (.reg [oM 12 0, oM 13 1, oM 14 2, oM 15 4, oC 16 84 #[(.tmp 12), (.tmp 13), (.tmp 14), (.tmp 15)] #[90, 3, 3, 120], oM 11 16, oE 17 11 0 3, oE 18 11 1 3, oM 1 17, oM 2 18])
 (.seq (.reg [oM 20 0, oM 21 2, oM 22 3, oM 23 4, oC 24 84 #[(.tmp 20), (.tmp 21), (.tmp 22), (.tmp 23)] #[90, 3, 3, 120], oM 19 24, oE 25 19 0 3, oE 26 19 1 3, oM 2 25, oM 3 26])
 (.seq (.reg [oM 28 0, oM 29 1, oM 30 2, oM 31 4, oC 32 84 #[(.tmp 28), (.tmp 29), (.tmp 30), (.tmp 31)] #[90, 3, 3, 120], oM 27 32, oE 33 27 0 3, oE 34 27 1 3, oM 1 33, oM 2 34])
 (.seq (.reg [oM 35 2, oM 10 35])
 .ret)))))
theorem L82 : low Try.prog Try.f82.ntmps (at_ Try.f82 []) = some R82 := by kernel_rfl
theorem N83 : Try.f83.ntmps = 6 := by kernel_rfl
theorem Z83 : Try.f83.results.toList = (#[(.tmp 2)] : Array ResultVar).toList := by kernel_rfl
theorem B83 : Try.f83.body = some (at_ Try.f83 []) := by kernel_rfl
noncomputable def R83 : RC := (.seq (.reg [oF 2])
 (.seq (.reg [oM 3 0, oM 4 0, ⟨some 5, none, (.cmp .neq (.tmp 3) (.tmp 4))⟩, oM 2 5])
 .ret))
theorem L83 : low Try.prog Try.f83.ntmps (at_ Try.f83 []) = some R83 := by kernel_rfl
theorem N84 : Try.f84.ntmps = 28 := by kernel_rfl
theorem Z84 : Try.f84.results.toList = (#[(.tmp 8), (.tmp 9)] : Array ResultVar).toList := by kernel_rfl
theorem B84 : Try.f84.body = some (at_ Try.f84 []) := by kernel_rfl
noncomputable def R84 : RC := (.seq (.reg [oN 8 0, oN 9 0])
 (.seq (.seq (.dreg [oM 10 0, oM 11 2, oI 12 10 11 1, oL 13 12 1, oM 14 0, oM 15 1, oI 16 14 15 1, oL 17 16 1, oC 18 73 #[(.tmp 13), (.tmp 17)] #[3, 3]] [255, 112, 48, 0, 0, 7, 3, 0, 0])
 (.cond (.tmp 18) (.seq (.reg [oM 19 3, ⟨some 20, none, (.nilc (.tmp 19))⟩, oL 21 20 1, oR 22 .add 21 1, ⟨some 23, none, (.nilc (.tmp 19))⟩, ⟨none, none, .st (.tmp 23) (.tmp 22)⟩])
 (.seq (.reg [oM 24 2, oM 25 1, oM 8 24, oM 9 25])
 .ret))
 .skip))
 (.seq (.reg [oM 26 1, oM 27 2, oM 8 26, oM 9 27])
 .ret)))
theorem L84 : low Try.prog Try.f84.ntmps (at_ Try.f84 []) = some R84 := by kernel_rfl
end Go.Ax

/-! Sorting: swaps, what is put in another order, heaps (no program in it). -/
namespace Go.Ax
section
variable {β : Type}
def upd (g : Nat → β) (k : Nat) (v : β) : Nat → β := fun x => if x = k then v else g x
def swp (g : Nat → β) (i j : Nat) : Nat → β := upd (upd g i (g j)) j (g i)
theorem swp_at (g : Nat → β) (i j k : Nat) : swp g i j k = if k = j then g i else if k = i then g j else g k := rfl
theorem swp_l {g : Nat → β} {i j : Nat} : swp g i j i = g j := by
 rw [swp_at]; by_cases h : i = j
 ·rw [if_pos h, h]
 ·rw [if_neg h, if_pos rfl]
theorem swp_r {g : Nat → β} {i j : Nat} : swp g i j j = g i := by rw [swp_at, if_pos rfl]
theorem swp_n {g : Nat → β} {i j k : Nat} (h1 : k ≠ i) (h2 : k ≠ j) : swp g i j k = g k := by rw [swp_at, if_neg h2, if_neg h1]
theorem swp_same {g : Nat → β} {i : Nat} : swp g i i = g := by
 funext k; rw [swp_at]; by_cases h : k = i
 ·rw [if_pos h, h]
 ·rw [if_neg h, if_neg h]
theorem swp_comm {g : Nat → β} {i j : Nat} : swp g i j = swp g j i := by
 funext k; rw [swp_at, swp_at]; by_cases h : k = j
 ·by_cases h2 : k = i
  ·rw [if_pos h, if_pos h2, ← h, ← h2]
  ·rw [if_pos h, if_neg h2, if_pos h]
 ·by_cases h2 : k = i
  ·rw [if_neg h, if_pos h2, if_pos h2]
  ·rw [if_neg h, if_neg h2, if_neg h2, if_neg h]
def rg (g : Nat → β) (a b : Nat) : List β := (List.range' a (b - a)).map g
theorem rg_cut {g : Nat → β} {a m b : Nat} (h1 : a ≤ m) (h2 : m ≤ b) : rg g a b = rg g a m ++ rg g m b := by
 unfold rg
 rw [← List.map_append]
 congr 1
 have : b - a = (m - a) + (b - m) := by omega
 rw [this, ← List.range'_append_1, show a + (m - a) = m by omega]
theorem rg_eq {g g' : Nat → β} {a b : Nat} (h : ∀ i, a ≤ i → i < b → g' i = g i) : rg g' a b = rg g a b := by
 unfold rg
 refine List.map_congr_left fun i hi => ?_
 rw [List.mem_range'_1] at hi
 exact h i hi.1 (by omega)
theorem rg_len {g : Nat → β} {a b : Nat} : (rg g a b).length = b - a := by simp [rg]
theorem rg_mem {g : Nat → β} {a b : Nat} {x : β} : x ∈ rg g a b ↔ ∃ i, a ≤ i ∧ i < b ∧ g i = x := by
 unfold rg
 rw [List.mem_map]
 constructor
 ·rintro ⟨i, hi, e⟩; rw [List.mem_range'_1] at hi; exact ⟨i, hi.1, by omega, e⟩
 ·rintro ⟨i, h1, h2, e⟩; exact ⟨i, List.mem_range'_1.2 ⟨h1, by omega⟩, e⟩
theorem rg_one {g : Nat → β} {a : Nat} : rg g a (a + 1) = [g a] := by
 unfold rg; rw [show a + 1 - a = 1 by omega]; rfl
structure PRm (a b : Nat) (g g' : Nat → β) : Prop where
 out : ∀ i, (i < a ∨ b ≤ i) → g' i = g i
 perm : (rg g' a b).Perm (rg g a b)
theorem PRm.refl (a b : Nat) (g : Nat → β) : PRm a b g g := ⟨fun _ _ => rfl, .refl _⟩
theorem PRm.trans {a b : Nat} {g g' g'' : Nat → β} (h : PRm a b g g') (k : PRm a b g' g'') : PRm a b g g'' := ⟨fun i hi => (k.out i hi).trans (h.out i hi), k.perm.trans h.perm⟩
theorem PRm.mem {a b : Nat} {g g' : Nat → β} (h : PRm a b g g') {i : Nat} (h1 : a ≤ i) (h2 : i < b) : ∃ j, a ≤ j ∧ j < b ∧ g' i = g j := by
 have : g' i ∈ rg g a b := h.perm.mem_iff.1 (rg_mem.2 ⟨i, h1, h2, rfl⟩)
 obtain ⟨j, a1, a2, e⟩ := rg_mem.1 this
 exact ⟨j, a1, a2, e.symm⟩
theorem PRm.mono {a b a' b' : Nat} {g g' : Nat → β} (h : PRm a b g g') (ha : a' ≤ a) (hab : a ≤ b) (hb : b ≤ b') : PRm a' b' g g' := by
 refine ⟨fun i hi => h.out i (by omega), ?_⟩
 rw [rg_cut (m := a) ha (by omega), rg_cut (g := g) (m := a) ha (by omega), rg_cut (a := a) (m := b) hab hb, rg_cut (g := g) (a := a) (m := b) hab hb]
 rw [rg_eq (g := g) (g' := g') (a := a') (fun i _ hi => h.out i (.inl hi)), rg_eq (g := g) (g' := g') (a := b) (fun i hi _ => h.out i (.inr hi))]
 exact List.Perm.append_left _ (List.Perm.append_right _ h.perm)
theorem PRm.swap_lt {i j : Nat} {g : Nat → β} (h : i < j) : PRm i (j + 1) g (swp g i j) := by
 refine ⟨fun k hk => swp_n (by omega) (by omega), ?_⟩
 rw [rg_cut (m := i + 1) (by omega) (by omega), rg_cut (g := g) (m := i + 1) (by omega) (by omega), rg_cut (a := i + 1) (m := j) (by omega) (by omega), rg_cut (g := g) (a := i + 1) (m := j) (by omega) (by omega)]
 rw [rg_one, rg_one, rg_one, rg_one, swp_l, swp_r, rg_eq (g := g) (g' := swp g i j) (a := i + 1) (fun k h1 h2 => swp_n (by omega) (by omega))]
 generalize rg g (i + 1) j = m
 have e1 : ([g j] ++ (m ++ [g i])).Perm (m ++ [g i] ++ [g j]) := List.perm_append_comm
 have e2 : ([g i] ++ (m ++ [g j])).Perm (m ++ [g j] ++ [g i]) := List.perm_append_comm
 refine e1.trans (List.Perm.trans ?_ e2.symm)
 rw [List.append_assoc, List.append_assoc]
 exact List.Perm.append_left _ (List.Perm.swap _ _ [])
theorem PRm.swap {a b i j : Nat} {g : Nat → β} (h1 : a ≤ i) (h2 : i < b) (h3 : a ≤ j) (h4 : j < b) : PRm a b g (swp g i j) := by
 rcases Nat.lt_trichotomy i j with h | h | h
 ·exact (PRm.swap_lt h).mono h1 (by omega) (by omega)
 ·subst h; rw [swp_same]; exact .refl _ _ _
 ·rw [swp_comm]; exact (PRm.swap_lt h).mono h3 (by omega) (by omega)
section
variable (r : β → Int)
def Ord (A B a b : Nat) (g : Nat → β) : Prop := ∀ i j, A ≤ i → i ≤ j → j < B → (i < a ∨ b ≤ j) → r (g i) ≤ r (g j)
def Low (a b : Nat) (g : Nat → β) : Prop := ∀ i, 0 < a → a ≤ i → i < b → r (g (a - 1)) ≤ r (g i)
def Sor (a b : Nat) (g : Nat → β) : Prop := ∀ i j, a ≤ i → i ≤ j → j < b → r (g i) ≤ r (g j)
variable {r} {A B a b : Nat} {g g' : Nat → β}
theorem Ord.all (h : Ord r A B a b g) (hs : Sor r a b g) : Sor r A B g := fun i j h1 h2 h3 => by
 by_cases q : i < a ∨ b ≤ j
 ·exact h i j h1 h2 h3 q
 ·exact hs i j (by omega) h2 (by omega)
theorem Ord.perm (h : Ord r A B a b g) (p : PRm a b g g') (hA : A ≤ a) (hB : b ≤ B) : Ord r A B a b g' := by
 intro i j h1 h2 h3 h4
 rcases h4 with h4 | h4
 ·rw [p.out i (.inl h4)]
  by_cases q : j < a ∨ b ≤ j
  ·rw [p.out j q]; exact h i j h1 h2 h3 (.inl h4)
  ·obtain ⟨k, k1, k2, e⟩ := p.mem (i := j) (by omega) (by omega)
   rw [e]; exact h i k h1 (by omega) (by omega) (.inl h4)
 ·rw [p.out j (.inr h4)]
  by_cases q : i < a ∨ b ≤ i
  ·rw [p.out i q]; exact h i j h1 h2 h3 (.inr h4)
  ·obtain ⟨k, k1, k2, e⟩ := p.mem (i := i) (by omega) (by omega)
   rw [e]; exact h k j (by omega) (by omega) h3 (.inr h4)
theorem Low.perm (h : Low r a b g) (p : PRm a b g g') : Low r a b g' := by
 intro i h0 h1 h2
 rw [p.out (a - 1) (by omega)]
 obtain ⟨k, k1, k2, e⟩ := p.mem h1 h2
 rw [e]; exact h k h0 k1 k2
theorem Ord.low (h : Ord r A B a b g) (h0 : Low r A B g) (hA : A ≤ a) (hB : b ≤ B) : Low r a b g := by
 intro i q h1 h2
 rcases Nat.lt_or_ge A a with h3 | h3
 ·exact h (a - 1) i (by omega) (by omega) (by omega) (.inl (by omega))
 ·have : A = a := by omega
  subst this; exact h0 i q h1 (by omega)
def Par_ (r : β → Int) (a b m : Nat) (g : Nat → β) : Prop := (∀ i, a ≤ i → i < m → r (g i) ≤ r (g m)) ∧ ∀ i, m < i → i < b → r (g m) ≤ r (g i)
theorem Ord.right {m : Nat} (h : Ord r A B a b g) (p : Par_ r a b m g) (hA : A ≤ a) (hB : b ≤ B) (h1 : a ≤ m) (h2 : m < b) (hs : Sor r a m g) : Ord r A B (m + 1) b g := by
 intro i j q1 q2 q3 q4
 by_cases q : i < a ∨ b ≤ j
 ·exact h i j q1 q2 q3 q
 ·have hi : i < m + 1 := by omega
  rcases Nat.lt_trichotomy j m with c | c | c
  ·exact hs i j (by omega) q2 c
  ·subst c
   rcases Nat.lt_or_ge i j with d | d
   ·exact p.1 i (by omega) d
   ·have : i = j := by omega
    rw [this]; omega
  ·have x := p.2 j c (by omega)
   rcases Nat.lt_or_ge i m with d | d
   ·have := p.1 i (by omega) d; omega
   ·have : i = m := by omega
    rw [this]; exact x
theorem Ord.left {m : Nat} (h : Ord r A B a b g) (p : Par_ r a b m g) (hA : A ≤ a) (hB : b ≤ B) (h1 : a ≤ m) (h2 : m < b) (hs : Sor r (m + 1) b g) : Ord r A B a m g := by
 intro i j q1 q2 q3 q4
 by_cases q : i < a ∨ b ≤ j
 ·exact h i j q1 q2 q3 q
 ·have hj : m ≤ j := by omega
  rcases Nat.lt_trichotomy i m with c | c | c
  ·have x := p.1 i (by omega) c
   rcases Nat.lt_or_ge m j with d | d
   ·have := p.2 j d (by omega); omega
   ·have : j = m := by omega
    rw [this]; exact x
  ·subst c
   rcases Nat.lt_or_ge i j with d | d
   ·exact p.2 j d (by omega)
   ·have : i = j := by omega
    rw [this]; omega
  ·exact hs i j (by omega) q2 (by omega)
theorem Par_.perm_l {m : Nat} (p : Par_ r a b m g) (q : PRm a m g g') (h1 : a ≤ m) (h2 : m < b) : Par_ r a b m g' := by
 refine ⟨fun i k1 k2 => ?_, fun i k1 k2 => ?_⟩
 ·rw [q.out m (.inr (Nat.le_refl _))]
  obtain ⟨k, c1, c2, e⟩ := q.mem k1 k2
  rw [e]; exact p.1 k c1 c2
 ·rw [q.out m (.inr (Nat.le_refl _)), q.out i (.inr (by omega))]; exact p.2 i k1 k2
theorem Par_.perm_r {m : Nat} (p : Par_ r a b m g) (q : PRm (m + 1) b g g') (h1 : a ≤ m) (h2 : m < b) : Par_ r a b m g' := by
 refine ⟨fun i k1 k2 => ?_, fun i k1 k2 => ?_⟩
 ·rw [q.out m (.inl (by omega)), q.out i (.inl (by omega))]; exact p.1 i k1 k2
 ·rw [q.out m (.inl (by omega))]
  obtain ⟨k, c1, c2, e⟩ := q.mem (i := i) (by omega) k2
  rw [e]; exact p.2 k (by omega) c2
theorem Ord.equal {m : Nat} (h : Ord r A B a b g) (hA : A ≤ a) (hB : b ≤ B) (hm : m ≤ b) (hl : ∀ i, a ≤ i → i < m → ∀ j, a ≤ j → j < b → r (g i) ≤ r (g j)) : Ord r A B m b g := by
 intro i j q1 q2 q3 q4
 by_cases q : i < a ∨ b ≤ j
 ·exact h i j q1 q2 q3 q
 ·exact hl i (by omega) (by omega) j (by omega) (by omega)
/-! Heaps. -/
def Hea (r : β → Int) (f lo hi x : Nat) (g : Nat → β) : Prop := ∀ i c, lo ≤ i → (c = 2 * i + 1 ∨ c = 2 * i + 2) → c < hi → i ≠ x → r (g (f + c)) ≤ r (g (f + i))
def Gra (r : β → Int) (f lo hi x : Nat) (g : Nat → β) : Prop := ∀ i c, lo ≤ i → (x = 2 * i + 1 ∨ x = 2 * i + 2) → (c = 2 * x + 1 ∨ c = 2 * x + 2) → c < hi → r (g (f + c)) ≤ r (g (f + i))
theorem Hea.step {f lo hi x c : Nat} (h : Hea r f lo hi x g) (hg : Gra r f lo hi x g) (hlx : lo ≤ x) (hc : c = 2 * x + 1 ∨ c = 2 * x + 2) (hch : c < hi) (hm : ∀ c', (c' = 2 * x + 1 ∨ c' = 2 * x + 2) → c' < hi → r (g (f + c')) ≤ r (g (f + c))) (hx : r (g (f + x)) ≤ r (g (f + c))) :
  Hea r f lo hi c (swp g (f + x) (f + c)) ∧ Gra r f lo hi c (swp g (f + x) (f + c)) := by
 constructor
 ·intro i d h1 h2 h3 h4
  by_cases e1 : i = x
  ·subst e1
   rw [swp_l]
   by_cases e2 : d = c
   ·subst e2; rw [swp_r]; exact hx
   ·rw [swp_n (by omega) (by omega)]; exact hm d h2 h3
  ·rw [swp_n (k := f + i) (by omega) (by omega)]
   by_cases e2 : d = x
   ·subst e2; rw [swp_l]; exact hg i c h1 h2 hc hch
   ·rw [swp_n (by omega) (by omega)]; exact h i d h1 h2 h3 e1
 ·intro i d h1 h2 h3 h4
  have e1 : i = x := by omega
  subst e1
  rw [swp_l, swp_n (by omega) (by omega)]
  exact h c d (by omega) h3 h4 (by omega)
theorem Hea.full {f lo hi x : Nat} (h : Hea r f lo hi x g) (hm : ∀ c, (c = 2 * x + 1 ∨ c = 2 * x + 2) → c < hi → r (g (f + c)) ≤ r (g (f + x))) : ∀ i c, lo ≤ i → (c = 2 * i + 1 ∨ c = 2 * i + 2) → c < hi → r (g (f + c)) ≤ r (g (f + i)) := fun i c h1 h2 h3 => by
 by_cases e : i = x
 ·subst e; exact hm c h2 h3
 ·exact h i c h1 h2 h3 e
def Hp_ (r : β → Int) (f lo hi : Nat) (g : Nat → β) : Prop := ∀ i c, lo ≤ i → (c = 2 * i + 1 ∨ c = 2 * i + 2) → c < hi → r (g (f + c)) ≤ r (g (f + i))
theorem Hp_.top {f hi : Nat} (h : Hp_ r f 0 hi g) : ∀ j, j < hi → r (g (f + j)) ≤ r (g (f + 0)) := by
 intro j
 induction j using Nat.strongRecOn with
 | ind j ih =>
  intro hj
  rcases Nat.eq_zero_or_pos j with e | e
  ·subst e; omega
  ·have h1 := ih ((j - 1) / 2) (by omega) (by omega)
   have h2 := h ((j - 1) / 2) j (by omega) (by omega) hj
   omega
end
end
end Go.Ax

/-
 Pool: sorting: questions, pivots (written by program).
-/
namespace Go.Ax
open Go Go.RowKit Go.Proofs

noncomputable section
def cF (n : Nat) (g : Nat → Int) : List Value := (List.range n).map fun i => iv (g i)
theorem cF_len {n : Nat} {g : Nat → Int} : (cF n g).length = n := by simp [cF]
theorem cF_at {n : Nat} {g : Nat → Int} {k : Nat} (h : k < n) : (cF n g)[0 + k * 1]? = some (iv (g k)) := by
 rw [Nat.mul_one, Nat.zero_add]; simp [cF, h]
theorem cF_set {n : Nat} {g : Nat → Int} {k : Nat} {v : Int} (h : k < n) : (cF n g).set (0 + k * 1) (iv v) = cF n (upd g k v) := by
 rw [Nat.mul_one, Nat.zero_add]
 refine List.ext_getElem? fun i => ?_
 rw [List.getElem?_set]
 unfold upd cF
 by_cases e : k = i
 ·subst e; simp [h]
 ·have e2 : ¬ i = k := fun q => e q.symm
  simp only [e, if_false, List.getElem?_map]
  rcases Nat.lt_or_ge i n with q | q
  ·simp [List.getElem?_range, q, e2]
  ·simp [List.getElem?_eq_none, q]
theorem cF_cI {xs : List Int} : cF xs.length (fun i => xs.getD i 0) = xs.map iv := by
 refine List.ext_getElem? fun i => ?_
 rcases Nat.lt_or_ge i xs.length with q | q
 ·simp [cF, q]
 ·simp [cF, q]
theorem cF_rg {n : Nat} {g : Nat → Int} : cF n g = (rg g 0 n).map iv := by
 unfold cF rg
 rw [List.map_map, List.range_eq_range']
 rfl
theorem ivq {x y : Int} (h : x = y) : (some (iv x) : Option Value) = some (iv y) := by rw [h]
section
variable {kn : Kn} {lo : Nat} {H : Hp}
theorem nan_ok (x : Int) : ∃ H', FnX Try.prog kn lo 83 [iv x] H (.bool false) H' ∧ Keep H H' [] := by
 have key := fnX_low (kn := kn) (lo := lo) (H := H) (args := [iv x]) (Q := fun w H' => w = .bool false ∧ Keep H H' []) Try.func83 B83 N83 Z83 L83 (by simp) ?_
 ·obtain ⟨w, H', h, rfl, q⟩ := key; exact ⟨H', h, q⟩
 refine wN_seq (wN_mov rfl (wN_end (wN_seq (wN_mov rfl (wN_mov rfl (wN_c_neq rfl rfl (wN_mov rfl (wN_end ?_))))))))
 exact ⟨True.intro, [.bool (x != x)], rfl, by show Value.bool (x != x) = _; simp, Keep.refl _ _⟩
theorem less_ok (x y : Int) : ∃ H', FnX Try.prog kn lo 73 [iv x, iv y] H (.bool (decide (x < y))) H' ∧ Keep H H' [] := by
 have key := fnX_low (kn := kn) (lo := lo) (H := H) (args := [iv x, iv y]) (Q := fun w H' => w = .bool (decide (x < y)) ∧ Keep H H' []) Try.func73 B73 N73 Z73 L73 (by simp) ?_
 ·obtain ⟨w, H', h, rfl, q⟩ := key; exact ⟨H', h, q⟩
 obtain ⟨H1, h1, k1⟩ := nan_ok (kn := kn) (lo := lo) (H := H) x
 refine wN_seq (wN_mov rfl (wN_end ?_))
 refine wN_seq (wN_mov rfl (wN_callf rfl (callX_args h1) (wN_mov rfl ?_)))
 refine wN_gs rfl (wN_gs rfl (wN_gs rfl ?_))
 refine wN_pur (v := .bool false) rfl (by kernel_rfl) (wN_mov rfl ?_)
 refine wN_g rfl (wN_mov rfl (wN_g rfl (wN_mov rfl ?_)))
 refine wN_g rfl (wN_lss (decide (x < y)) rfl rfl rfl ?_)
 refine wN_pur (v := .bool (decide (x < y))) rfl (by kernel_rfl) (wN_mov rfl (wN_end ?_))
 exact ⟨True.intro, [.bool (decide (x < y))], rfl, rfl, k1⟩
theorem order2_ok (hlo : lo ≤ H.next) {bd cap n : Nat} {g : Nat → Int} (hlb : lo ≤ bd) (hn : n ≤ 1000000) (hc : Cl H bd (cF n g)) {a b : Nat} {sb : Nat} {c : Int} (hsb : lo ≤ sb) (hne : sb ≠ bd) (hs : Cl H sb [iv c]) (hc0 : 0 ≤ c) (hc1 : c ≤ 1000) (ha : a < n) (hb : b < n) :
  ∃ H' p q c', FnX Try.prog kn lo 84 [.slice (some ⟨bd, 0, none⟩) n cap, iv (a : Int), iv (b : Int), .pointer (some ⟨sb, 0, none⟩)] H (.tuple #[iv ((p : Nat) : Int), iv ((q : Nat) : Int)]) H' ∧ ((p = a ∧ q = b) ∨ (p = b ∧ q = a)) ∧ Keep H H' [sb] ∧ Cl H' sb [iv c'] ∧ c ≤ c' ∧ c' ≤ c + 1 := by
 have key := fnX_low (kn := kn) (lo := lo) (H := H) (args := [.slice (some ⟨bd, 0, none⟩) n cap, iv (a : Int), iv (b : Int), .pointer (some ⟨sb, 0, none⟩)]) (Q := fun w H' => ∃ (p q : Nat) (c' : Int), w = .tuple #[iv (p : Int), iv (q : Int)] ∧ ((p = a ∧ q = b) ∨ (p = b ∧ q = a)) ∧ Keep H H' [sb] ∧ Cl H' sb [iv c'] ∧ c ≤ c' ∧ c' ≤ c + 1) Try.func84 B84 N84 Z84 L84 (by simp) ?_
 ·obtain ⟨w, H', h, p, q, c', rfl, r⟩ := key; exact ⟨H', p, q, c', h, r⟩
 have hk := Keep.refl H [sb]
 refine wN_seq <| wN_mov (v := iv 0) rfl <| wN_mov (v := iv 0) rfl <| wN_end <| wD_seq <| wD_mov (v := .slice (some ⟨bd, 0, none⟩) n cap) rfl <| wD_mov (v := iv (b : Int)) rfl <| wD_idx (b := bd) (o := 0) (k := b) (j := (b : Int)) rfl rfl (by omega) (by omega) <| wD_ld (b := bd) (o := 0 + b * 1) (v := iv (g b)) rfl hc.rd (cF_at (by omega)) <| wD_mov (v := .slice (some ⟨bd, 0, none⟩) n cap) rfl <| wD_mov (v := iv (a : Int)) rfl <| wD_idx (b := bd) (o := 0) (k := a) (j := (a : Int)) rfl rfl (by omega) (by omega) ?_
 refine wD_ld (b := bd) (o := 0 + a * 1) (v := iv (g a)) rfl hc.rd (cF_at (by omega)) ?_
 obtain ⟨H1, fH1, kH1⟩ := less_ok (kn := kn) (lo := lo) (H := H) (g b) (g a)
 refine wD_callf (vs := [iv (g b), iv (g a)]) rfl (callX_args fH1) ?_
 have mH1 := kH1.1
 have hc := kH1.cl hc (by simp)
 have hk := hk.trans (kH1.mono (by simp))
 have hs := kH1.cl hs (by simp)
 refine wD_end (by repeat' first | exact True.intro | exact (fun h => h) | refine And.intro ?_ ?_ | (intro h; have h : (_ : Nat) = _ := h; omega)) ?_
 refine And.intro (fun q1 => ?_) (fun q1 => ?_)
 ·have q1 : g b < g a := of_decide_eq_true q1
  refine wN_seq <| wN_mov (v := pt sb) rfl <| wN_nilc (a := ⟨sb, 0, none⟩) rfl <| wN_ld (b := sb) (o := 0) (v := iv c) rfl hs.rd rfl <| wN_add (a := c) (b := 1) rfl rfl ⟨by omega, by omega⟩ <| wN_nilc (a := ⟨sb, 0, none⟩) rfl <| wN_st (b := sb) (o := 0) rfl rfl hs hsb rfl rfl (by simp) ?_
  intro H2 kH2 nH2 sH2
  have mH2 := kH2.1
  have hc := kH2.cl hc (by first | (simp; done) | (simp; omega))
  have hk := hk.trans kH2
  have hs : Cl H2 sb [iv (c + 1)] := sH2
  refine wN_end <| wN_seq <| wN_mov (v := iv (b : Int)) rfl <| wN_mov (v := iv (a : Int)) rfl <| wN_mov (v := iv (b : Int)) rfl <| wN_mov (v := iv (a : Int)) rfl <| wN_end ?_
  exact And.intro trivial (Exists.intro _ (And.intro rfl ⟨b, a, c + 1, rfl, by omega, hk, hs, by omega, by omega⟩))
 ·have q1 : ¬ (g b < g a) := of_decide_eq_false q1
  first | refine wN_skip ?_ | skip
  refine wN_seq <| wN_mov (v := iv (a : Int)) rfl <| wN_mov (v := iv (b : Int)) rfl <| wN_mov (v := iv (a : Int)) rfl <| wN_mov (v := iv (b : Int)) rfl <| wN_end ?_
  exact And.intro trivial (Exists.intro _ (And.intro rfl ⟨a, b, c, rfl, by omega, hk, hs, by omega, by omega⟩))
theorem median_ok (hlo : lo ≤ H.next) {bd cap n : Nat} {g : Nat → Int} (hlb : lo ≤ bd) (hn : n ≤ 1000000) (hc : Cl H bd (cF n g)) {a b d : Nat} {sb : Nat} {c : Int} (hsb : lo ≤ sb) (hne : sb ≠ bd) (hs : Cl H sb [iv c]) (hc0 : 0 ≤ c) (hc1 : c ≤ 990) (ha : a < n) (hb : b < n) (hd : d < n) :
  ∃ H' p c', FnX Try.prog kn lo 82 [.slice (some ⟨bd, 0, none⟩) n cap, iv (a : Int), iv (b : Int), iv (d : Int), .pointer (some ⟨sb, 0, none⟩)] H (iv ((p : Nat) : Int)) H' ∧ (p = a ∨ p = b ∨ p = d) ∧ Keep H H' [sb] ∧ Cl H' sb [iv c'] ∧ c ≤ c' ∧ c' ≤ c + 3 := by
 have key := fnX_low (kn := kn) (lo := lo) (H := H) (args := [.slice (some ⟨bd, 0, none⟩) n cap, iv (a : Int), iv (b : Int), iv (d : Int), .pointer (some ⟨sb, 0, none⟩)]) (Q := fun w H' => ∃ (p : Nat) (c' : Int), w = iv (p : Int) ∧ (p = a ∨ p = b ∨ p = d) ∧ Keep H H' [sb] ∧ Cl H' sb [iv c'] ∧ c ≤ c' ∧ c' ≤ c + 3) Try.func82 B82 N82 Z82 L82 (by simp) ?_
 ·obtain ⟨w, H', h, p, c', rfl, r⟩ := key; exact ⟨H', p, c', h, r⟩
 have hk := Keep.refl H [sb]
 refine wN_seq <| wN_mov (v := iv 0) rfl <| wN_end <| wN_seq <| wN_mov (v := .slice (some ⟨bd, 0, none⟩) n cap) rfl <| wN_mov (v := iv (a : Int)) rfl <| wN_mov (v := iv (b : Int)) rfl <| wN_mov (v := pt sb) rfl ?_
 obtain ⟨H1, pH1, qH1, cH1, fH1, oH1, kH1, sH1, dH1, eH1⟩ := order2_ok (kn := kn) (by omega) hlb hn (a := a) (b := b) hc (by omega) (by omega) (cap := cap) hs (by omega) (by omega) (by omega) (by omega)
 refine wN_callf rfl (callX_args fH1) ?_
 have mH1 := kH1.1
 have hc := kH1.cl hc (by simp; omega)
 have hk := hk.trans kH1
 have hs := sH1
 refine wN_mov (v := .tuple #[iv (pH1 : Int), iv (qH1 : Int)]) rfl <| wN_pur (v := iv (pH1 : Int)) rfl (by kernel_rfl) <| wN_pur (v := iv (qH1 : Int)) rfl (by kernel_rfl) <| wN_mov (v := iv (pH1 : Int)) rfl <| wN_mov (v := iv (qH1 : Int)) rfl <| wN_end <| wN_seq <| wN_mov (v := .slice (some ⟨bd, 0, none⟩) n cap) rfl <| wN_mov (v := iv (qH1 : Int)) rfl <| wN_mov (v := iv (d : Int)) rfl <| wN_mov (v := pt sb) rfl ?_
 obtain ⟨H2, pH2, qH2, cH2, fH2, oH2, kH2, sH2, dH2, eH2⟩ := order2_ok (kn := kn) (by omega) hlb hn (a := qH1) (b := d) hc (by omega) (by omega) (cap := cap) hs (by omega) (by omega) (by omega) (by omega)
 refine wN_callf rfl (callX_args fH2) ?_
 have mH2 := kH2.1
 have hc := kH2.cl hc (by simp; omega)
 have hk := hk.trans kH2
 have hs := sH2
 refine wN_mov (v := .tuple #[iv (pH2 : Int), iv (qH2 : Int)]) rfl <| wN_pur (v := iv (pH2 : Int)) rfl (by kernel_rfl) <| wN_pur (v := iv (qH2 : Int)) rfl (by kernel_rfl) <| wN_mov (v := iv (pH2 : Int)) rfl <| wN_mov (v := iv (qH2 : Int)) rfl <| wN_end <| wN_seq <| wN_mov (v := .slice (some ⟨bd, 0, none⟩) n cap) rfl <| wN_mov (v := iv (pH1 : Int)) rfl <| wN_mov (v := iv (pH2 : Int)) rfl <| wN_mov (v := pt sb) rfl ?_
 obtain ⟨H3, pH3, qH3, cH3, fH3, oH3, kH3, sH3, dH3, eH3⟩ := order2_ok (kn := kn) (by omega) hlb hn (a := pH1) (b := pH2) hc (by omega) (by omega) (cap := cap) hs (by omega) (by omega) (by omega) (by omega)
 refine wN_callf rfl (callX_args fH3) ?_
 have mH3 := kH3.1
 have hc := kH3.cl hc (by simp; omega)
 have hk := hk.trans kH3
 have hs := sH3
 refine wN_mov (v := .tuple #[iv (pH3 : Int), iv (qH3 : Int)]) rfl <| wN_pur (v := iv (pH3 : Int)) rfl (by kernel_rfl) <| wN_pur (v := iv (qH3 : Int)) rfl (by kernel_rfl) <| wN_mov (v := iv (pH3 : Int)) rfl <| wN_mov (v := iv (qH3 : Int)) rfl <| wN_end <| wN_seq <| wN_mov (v := iv (qH3 : Int)) rfl <| wN_mov (v := iv (qH3 : Int)) rfl <| wN_end ?_
 exact And.intro trivial (Exists.intro _ (And.intro rfl ⟨qH3, cH3, rfl, by omega, hk, hs, by omega, by omega⟩))
theorem madj_ok (hlo : lo ≤ H.next) {bd cap n : Nat} {g : Nat → Int} (hlb : lo ≤ bd) (hn : n ≤ 1000000) (hc : Cl H bd (cF n g)) {a : Nat} {sb : Nat} {c : Int} (hsb : lo ≤ sb) (hne : sb ≠ bd) (hs : Cl H sb [iv c]) (hc0 : 0 ≤ c) (hc1 : c ≤ 980) (ha : 0 < a) (hb : a + 1 < n) :
  ∃ H' p c', FnX Try.prog kn lo 81 [.slice (some ⟨bd, 0, none⟩) n cap, iv (a : Int), .pointer (some ⟨sb, 0, none⟩)] H (iv ((p : Nat) : Int)) H' ∧ (p + 1 = a ∨ p = a ∨ p = a + 1) ∧ Keep H H' [sb] ∧ Cl H' sb [iv c'] ∧ c ≤ c' ∧ c' ≤ c + 3 := by
 have key := fnX_low (kn := kn) (lo := lo) (H := H) (args := [.slice (some ⟨bd, 0, none⟩) n cap, iv (a : Int), .pointer (some ⟨sb, 0, none⟩)]) (Q := fun w H' => ∃ (p : Nat) (c' : Int), w = iv (p : Int) ∧ (p + 1 = a ∨ p = a ∨ p = a + 1) ∧ Keep H H' [sb] ∧ Cl H' sb [iv c'] ∧ c ≤ c' ∧ c' ≤ c + 3) Try.func81 B81 N81 Z81 L81 (by simp) ?_
 ·obtain ⟨w, H', h, p, c', rfl, r⟩ := key; exact ⟨H', p, c', h, r⟩
 have hk := Keep.refl H [sb]
 refine wN_seq <| wN_mov (v := iv 0) rfl <| wN_end <| wN_seq <| wN_mov (v := .slice (some ⟨bd, 0, none⟩) n cap) rfl <| wN_mov (v := iv (a : Int)) rfl <| wN_sub (a := (a : Int)) (b := 1) rfl rfl ⟨by omega, by omega⟩ <| wN_mov (v := iv (a : Int)) rfl <| wN_mov (v := iv (a : Int)) rfl <| wN_add (a := (a : Int)) (b := 1) rfl rfl ⟨by omega, by omega⟩ <| wN_mov (v := pt sb) rfl ?_
 obtain ⟨H1, pH1, cH1, fH1, oH1, kH1, sH1, dH1, eH1⟩ := median_ok (kn := kn) (by omega) hlb hn (a := a - 1) (b := a) (d := a + 1) hc (by omega) (by omega) (cap := cap) hs (by omega) (by omega) (by omega) (by omega) (by omega) 
 refine wN_callf (vs := [.slice (some ⟨bd, 0, none⟩) n cap, iv ((a : Int) - 1), iv (a : Int), iv ((a : Int) + 1), pt sb]) rfl (by have q := callX_args fH1; rw [show ((a - 1 : Nat) : Int) = (a : Int) - 1 by omega] at q; rw [show ((a + 1 : Nat) : Int) = (a : Int) + 1 by omega] at q; exact q) ?_
 have mH1 := kH1.1
 have hc := kH1.cl hc (by simp; omega)
 have hk := hk.trans kH1
 have hs := sH1
 refine wN_mov (v := iv (pH1 : Int)) rfl <| wN_end ?_
 exact And.intro trivial (Exists.intro _ (And.intro rfl ⟨pH1, cH1, rfl, by omega, hk, hs, by omega, by omega⟩))
theorem choose_ok (hlo : lo ≤ H.next) {bd cap n : Nat} {g : Nat → Int} (hlb : lo ≤ bd) (hn : n ≤ 1000000) (hc : Cl H bd (cF n g)) {a b : Nat} (hab : a < b) (hb : b ≤ n) :
  ∃ H' p c, FnX Try.prog kn lo 70 [.slice (some ⟨bd, 0, none⟩) n cap, iv (a : Int), iv (b : Int)] H (.tuple #[iv ((p : Nat) : Int), iv c]) H' ∧ a ≤ p ∧ p < b ∧ 0 ≤ c ∧ c ≤ 2 ∧ Keep H H' [] := by
 have key := fnX_low (kn := kn) (lo := lo) (H := H) (args := [.slice (some ⟨bd, 0, none⟩) n cap, iv (a : Int), iv (b : Int)]) (Q := fun w H' => ∃ (p : Nat) (c : Int), w = .tuple #[iv (p : Int), iv c] ∧ a ≤ p ∧ p < b ∧ 0 ≤ c ∧ c ≤ 2 ∧ Keep H H' []) Try.func70 B70 N70 Z70 L70 (by simp) ?_
 ·obtain ⟨w, H', h, p, c, rfl, r⟩ := key; exact ⟨H', p, c, h, r⟩
 have hk := Keep.refl H []
 have hbl := hc.1
 refine wN_seq <| wN_mov (v := iv 0) rfl <| wN_mov (v := iv 0) rfl <| wN_end <| wN_seq <| wN_mov (v := iv (b : Int)) rfl <| wN_mov (v := iv (a : Int)) rfl <| wN_sub (a := (b : Int)) (b := (a : Int)) rfl rfl ⟨by omega, by omega⟩ <| wN_mov (v := iv ((b : Int) - (a : Int))) rfl <| wN_end <| wN_seq <| wN_alc ?_
 intro H1 kH1 nH1 c1
 have c1 : Cl H1 H.next [iv 0] := c1
 have mH1 := kH1.1
 have hc := kH1.cl hc (by simp)
 have hk := hk.trans (kH1.mono (by simp))
 refine wN_end <| wN_seq <| wN_mov (v := iv (a : Int)) rfl <| wN_mov (v := iv ((b : Int) - (a : Int))) rfl <| wN_quo (a := (b : Int) - (a : Int)) (b := 4) rfl rfl (by omega) (by omega) ⟨by omega, by omega⟩ <| wN_mul (a := ((b : Int) - (a : Int)) / 4) (b := 1) rfl rfl ⟨by omega, by omega⟩ <| wN_add (a := (a : Int)) (b := (((b : Int) - (a : Int)) / 4) * 1) rfl rfl ⟨by omega, by omega⟩ <| wN_mov (v := iv ((a : Int) + ((((b : Int) - (a : Int)) / 4) * 1))) rfl <| wN_end <| wN_seq <| wN_mov (v := iv (a : Int)) rfl <| wN_mov (v := iv ((b : Int) - (a : Int))) rfl ?_
 refine wN_quo (a := (b : Int) - (a : Int)) (b := 4) rfl rfl (by omega) (by omega) ⟨by omega, by omega⟩ <| wN_mul (a := ((b : Int) - (a : Int)) / 4) (b := 2) rfl rfl ⟨by omega, by omega⟩ <| wN_add (a := (a : Int)) (b := (((b : Int) - (a : Int)) / 4) * 2) rfl rfl ⟨by omega, by omega⟩ <| wN_mov (v := iv ((a : Int) + ((((b : Int) - (a : Int)) / 4) * 2))) rfl <| wN_end <| wN_seq <| wN_mov (v := iv (a : Int)) rfl <| wN_mov (v := iv ((b : Int) - (a : Int))) rfl <| wN_quo (a := (b : Int) - (a : Int)) (b := 4) rfl rfl (by omega) (by omega) ⟨by omega, by omega⟩ <| wN_mul (a := ((b : Int) - (a : Int)) / 4) (b := 3) rfl rfl ⟨by omega, by omega⟩ <| wN_add (a := (a : Int)) (b := (((b : Int) - (a : Int)) / 4) * 3) rfl rfl ⟨by omega, by omega⟩ <| wN_mov (v := iv ((a : Int) + ((((b : Int) - (a : Int)) / 4) * 3))) rfl ?_
 refine wN_end <| wN_seq <| wN_mov (v := iv ((b : Int) - (a : Int))) rfl <| wN_c_geq (a := (b : Int) - (a : Int)) (b := 8) rfl rfl <| wN_end ?_
 refine And.intro (fun q1 => ?_) (fun q1 => ?_)
 ·have q1 : ((b : Int) - (a : Int)) ≥ 8 := of_decide_eq_true q1
  refine wN_seq <| wN_mov (v := iv ((b : Int) - (a : Int))) rfl <| wN_c_geq (a := (b : Int) - (a : Int)) (b := 50) rfl rfl <| wN_end ?_
  refine And.intro (fun q2 => ?_) (fun q2 => ?_)
  ·have q2 : ((b : Int) - (a : Int)) ≥ 50 := of_decide_eq_true q2
   refine wN_seq <| wN_mov (v := .slice (some ⟨bd, 0, none⟩) n cap) rfl <| wN_mov (v := iv ((a : Int) + ((((b : Int) - (a : Int)) / 4) * 1))) rfl ?_
   obtain ⟨H2, pH2, cH2, fH2, oH2, kH2, sH2, dH2, eH2⟩ := madj_ok (kn := kn) (by omega) hlb hn (a := a + (((b - a) / 4) * 1)) hc (by omega) (by omega) (cap := cap) c1 (by omega) (by omega) (by omega) (by omega)
   refine wN_callf (vs := [.slice (some ⟨bd, 0, none⟩) n cap, iv ((a : Int) + ((((b : Int) - (a : Int)) / 4) * 1)), pt H.next]) rfl (by have q := callX_args fH2; rw [show ((a + (((b - a) / 4) * 1) : Nat) : Int) = (a : Int) + ((((b : Int) - (a : Int)) / 4) * 1) by omega] at q; exact q) ?_
   have mH2 := kH2.1
   have hc := kH2.cl hc (by simp; omega)
   have hk := hk.new kH2 (fun b hb => by simp at hb ⊢; omega)
   have c1 := sH2
   refine wN_mov (v := iv (pH2 : Int)) rfl <| wN_end <| wN_seq <| wN_mov (v := .slice (some ⟨bd, 0, none⟩) n cap) rfl <| wN_mov (v := iv ((a : Int) + ((((b : Int) - (a : Int)) / 4) * 2))) rfl ?_
   obtain ⟨H3, pH3, cH3, fH3, oH3, kH3, sH3, dH3, eH3⟩ := madj_ok (kn := kn) (by omega) hlb hn (a := a + (((b - a) / 4) * 2)) hc (by omega) (by omega) (cap := cap) c1 (by omega) (by omega) (by omega) (by omega)
   refine wN_callf (vs := [.slice (some ⟨bd, 0, none⟩) n cap, iv ((a : Int) + ((((b : Int) - (a : Int)) / 4) * 2)), pt H.next]) rfl (by have q := callX_args fH3; rw [show ((a + (((b - a) / 4) * 2) : Nat) : Int) = (a : Int) + ((((b : Int) - (a : Int)) / 4) * 2) by omega] at q; exact q) ?_
   have mH3 := kH3.1
   have hc := kH3.cl hc (by simp; omega)
   have hk := hk.new kH3 (fun b hb => by simp at hb ⊢; omega)
   have c1 := sH3
   refine wN_mov (v := iv (pH3 : Int)) rfl <| wN_end <| wN_seq <| wN_mov (v := .slice (some ⟨bd, 0, none⟩) n cap) rfl <| wN_mov (v := iv ((a : Int) + ((((b : Int) - (a : Int)) / 4) * 3))) rfl ?_
   obtain ⟨H4, pH4, cH4, fH4, oH4, kH4, sH4, dH4, eH4⟩ := madj_ok (kn := kn) (by omega) hlb hn (a := a + (((b - a) / 4) * 3)) hc (by omega) (by omega) (cap := cap) c1 (by omega) (by omega) (by omega) (by omega)
   refine wN_callf (vs := [.slice (some ⟨bd, 0, none⟩) n cap, iv ((a : Int) + ((((b : Int) - (a : Int)) / 4) * 3)), pt H.next]) rfl (by have q := callX_args fH4; rw [show ((a + (((b - a) / 4) * 3) : Nat) : Int) = (a : Int) + ((((b : Int) - (a : Int)) / 4) * 3) by omega] at q; exact q) ?_
   have mH4 := kH4.1
   have hc := kH4.cl hc (by simp; omega)
   have hk := hk.new kH4 (fun b hb => by simp at hb ⊢; omega)
   have c1 := sH4
   refine wN_mov (v := iv (pH4 : Int)) rfl <| wN_end <| wN_seq <| wN_mov (v := .slice (some ⟨bd, 0, none⟩) n cap) rfl <| wN_mov (v := iv (pH2 : Int)) rfl <| wN_mov (v := iv (pH3 : Int)) rfl <| wN_mov (v := iv (pH4 : Int)) rfl ?_
   obtain ⟨H5, pH5, cH5, fH5, oH5, kH5, sH5, dH5, eH5⟩ := median_ok (kn := kn) (by omega) hlb hn (a := pH2) (b := pH3) (d := pH4) hc (by omega) (by omega) (cap := cap) c1 (by omega) (by omega) (by omega) (by omega) (by omega) 
   refine wN_callf rfl (callX_args fH5) ?_
   have mH5 := kH5.1
   have hc := kH5.cl hc (by simp; omega)
   have hk := hk.new kH5 (fun b hb => by simp at hb ⊢; omega)
   have c1 := sH5
   refine wN_mov (v := iv (pH5 : Int)) rfl <| wN_end <| wN_seq <| wN_ld (b := H.next) (o := 0) (v := iv cH5) rfl c1.rd rfl <| wN_end <| wN_seq <| wN_c_eql (a := cH5) (b := 0) rfl rfl <| wN_mov (v := .bool (cH5 == 0)) rfl <| wN_end ?_
   refine And.intro (fun q3 => ?_) (fun q3 => ?_)
   ·have q3 : cH5 = 0 := by simpa using q3
    refine wN_seq <| wN_mov (v := iv (pH5 : Int)) rfl <| wN_mov (v := iv (pH5 : Int)) rfl <| wN_mov (v := iv 1) rfl <| wN_end ?_
    exact And.intro trivial (Exists.intro _ (And.intro rfl ⟨pH5, 1, congrArg (fun z : Int => Value.tuple #[iv z, iv 1]) (by omega), by omega, by omega, by omega, by omega, hk⟩))
   ·have q3 : ¬ (cH5 = 0) := by simpa using q3
    refine wN_seq <| wN_c_eql (a := cH5) (b := 12) rfl rfl <| wN_mov (v := .bool (cH5 == 12)) rfl <| wN_end ?_
    refine And.intro (fun q4 => ?_) (fun q4 => ?_)
    ·have q4 : cH5 = 12 := by simpa using q4
     refine wN_seq <| wN_mov (v := iv (pH5 : Int)) rfl <| wN_mov (v := iv (pH5 : Int)) rfl <| wN_mov (v := iv 2) rfl <| wN_end ?_
     exact And.intro trivial (Exists.intro _ (And.intro rfl ⟨pH5, 2, congrArg (fun z : Int => Value.tuple #[iv z, iv 2]) (by omega), by omega, by omega, by omega, by omega, hk⟩))
    ·have q4 : ¬ (cH5 = 12) := by simpa using q4
     refine wN_seq <| wN_mov (v := iv (pH5 : Int)) rfl <| wN_mov (v := iv (pH5 : Int)) rfl <| wN_mov (v := iv 0) rfl <| wN_end ?_
     exact And.intro trivial (Exists.intro _ (And.intro rfl ⟨pH5, 0, congrArg (fun z : Int => Value.tuple #[iv z, iv 0]) (by omega), by omega, by omega, by omega, by omega, hk⟩))
  ·have q2 : ¬ (((b : Int) - (a : Int)) ≥ 50) := of_decide_eq_false q2
   first | refine wN_skip ?_ | skip
   refine wN_seq <| wN_mov (v := .slice (some ⟨bd, 0, none⟩) n cap) rfl <| wN_mov (v := iv ((a : Int) + ((((b : Int) - (a : Int)) / 4) * 1))) rfl <| wN_mov (v := iv ((a : Int) + ((((b : Int) - (a : Int)) / 4) * 2))) rfl <| wN_mov (v := iv ((a : Int) + ((((b : Int) - (a : Int)) / 4) * 3))) rfl ?_
   obtain ⟨H6, pH6, cH6, fH6, oH6, kH6, sH6, dH6, eH6⟩ := median_ok (kn := kn) (by omega) hlb hn (a := a + (((b - a) / 4) * 1)) (b := a + (((b - a) / 4) * 2)) (d := a + (((b - a) / 4) * 3)) hc (by omega) (by omega) (cap := cap) c1 (by omega) (by omega) (by omega) (by omega) (by omega) 
   refine wN_callf (vs := [.slice (some ⟨bd, 0, none⟩) n cap, iv ((a : Int) + ((((b : Int) - (a : Int)) / 4) * 1)), iv ((a : Int) + ((((b : Int) - (a : Int)) / 4) * 2)), iv ((a : Int) + ((((b : Int) - (a : Int)) / 4) * 3)), pt H.next]) rfl (by have q := callX_args fH6; rw [show ((a + (((b - a) / 4) * 1) : Nat) : Int) = (a : Int) + ((((b : Int) - (a : Int)) / 4) * 1) by omega] at q; rw [show ((a + (((b - a) / 4) * 2) : Nat) : Int) = (a : Int) + ((((b : Int) - (a : Int)) / 4) * 2) by omega] at q; rw [show ((a + (((b - a) / 4) * 3) : Nat) : Int) = (a : Int) + ((((b : Int) - (a : Int)) / 4) * 3) by omega] at q; exact q) ?_
   have mH6 := kH6.1
   have hc := kH6.cl hc (by simp; omega)
   have hk := hk.new kH6 (fun b hb => by simp at hb ⊢; omega)
   have c1 := sH6
   refine wN_mov (v := iv (pH6 : Int)) rfl <| wN_end <| wN_seq <| wN_ld (b := H.next) (o := 0) (v := iv cH6) rfl c1.rd rfl <| wN_end <| wN_seq <| wN_c_eql (a := cH6) (b := 0) rfl rfl <| wN_mov (v := .bool (cH6 == 0)) rfl <| wN_end ?_
   refine And.intro (fun q5 => ?_) (fun q5 => ?_)
   ·have q5 : cH6 = 0 := by simpa using q5
    refine wN_seq <| wN_mov (v := iv (pH6 : Int)) rfl <| wN_mov (v := iv (pH6 : Int)) rfl <| wN_mov (v := iv 1) rfl <| wN_end ?_
    exact And.intro trivial (Exists.intro _ (And.intro rfl ⟨pH6, 1, congrArg (fun z : Int => Value.tuple #[iv z, iv 1]) (by omega), by omega, by omega, by omega, by omega, hk⟩))
   ·have q5 : ¬ (cH6 = 0) := by simpa using q5
    refine wN_seq <| wN_c_eql (a := cH6) (b := 12) rfl rfl <| wN_mov (v := .bool (cH6 == 12)) rfl <| wN_end ?_
    refine And.intro (fun q6 => ?_) (fun q6 => ?_)
    ·have q6 : cH6 = 12 := by simpa using q6
     refine wN_seq <| wN_mov (v := iv (pH6 : Int)) rfl <| wN_mov (v := iv (pH6 : Int)) rfl <| wN_mov (v := iv 2) rfl <| wN_end ?_
     exact And.intro trivial (Exists.intro _ (And.intro rfl ⟨pH6, 2, congrArg (fun z : Int => Value.tuple #[iv z, iv 2]) (by omega), by omega, by omega, by omega, by omega, hk⟩))
    ·have q6 : ¬ (cH6 = 12) := by simpa using q6
     refine wN_seq <| wN_mov (v := iv (pH6 : Int)) rfl <| wN_mov (v := iv (pH6 : Int)) rfl <| wN_mov (v := iv 0) rfl <| wN_end ?_
     exact And.intro trivial (Exists.intro _ (And.intro rfl ⟨pH6, 0, congrArg (fun z : Int => Value.tuple #[iv z, iv 0]) (by omega), by omega, by omega, by omega, by omega, hk⟩))
 ·have q1 : ¬ (((b : Int) - (a : Int)) ≥ 8) := of_decide_eq_false q1
  first | refine wN_skip ?_ | skip
  refine wN_seq <| wN_ld (b := H.next) (o := 0) (v := iv 0) rfl c1.rd rfl <| wN_end <| wN_seq <| wN_c_eql (a := 0) (b := 0) rfl rfl <| wN_mov (v := .bool true) rfl <| wN_end <| condT <| wN_seq <| wN_mov (v := iv ((a : Int) + ((((b : Int) - (a : Int)) / 4) * 2))) rfl <| wN_mov (v := iv ((a : Int) + ((((b : Int) - (a : Int)) / 4) * 2))) rfl <| wN_mov (v := iv 1) rfl ?_
  refine wN_end ?_
  exact And.intro trivial (Exists.intro _ (And.intro rfl ⟨a + (((b - a) / 4) * 2), 1, congrArg (fun z : Int => Value.tuple #[iv z, iv 1]) (by omega), by omega, by omega, by omega, by omega, hk⟩))
end
end
end Go.Ax


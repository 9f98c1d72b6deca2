import Derived.Test.YtkdgngdnmgelnaaAxS12
set_option linter.all false
namespace Go.Ax
open Go Go.RowKit
def mkF (fn : FuncId) (tmps : Array Value) (todo : List Item) (ds : List Deferred) (kind : CallKind) (rd : Option Nat) : Frame :=
  { fn, tmps, todo, defers := ds, mode := .run, kind, roundOf := rd }
section moves
variable {P : Program} {fn : FuncId} {tmps : Array Value} {k : List Item} {ds : List Deferred} {kind : CallKind} {rd : Option Nat} {cs : List Frame} {w : World}
theorem mv_skip : step P (lone (mkF fn tmps (.code .skip :: k) ds kind rd) cs w) = .next (lone (mkF fn tmps k ds kind rd) cs w) :=
  step_lone_go (by simp [stepG, stepG.exec, mkF])
theorem mv_label {l : Nat} : step P (lone (mkF fn tmps (.code (.label l) :: k) ds kind rd) cs w) = .next (lone (mkF fn tmps k ds kind rd) cs w) :=
  step_lone_go (by simp [stepG, stepG.exec, mkF])
theorem mv_inBlock {id : Nat} : step P (lone (mkF fn tmps (.inBlock id :: k) ds kind rd) cs w) = .next (lone (mkF fn tmps k ds kind rd) cs w) :=
  step_lone_go (by simp [stepG, stepG.exec, mkF])
theorem mv_seq {x y : Code} : step P (lone (mkF fn tmps (.code (.seq x y) :: k) ds kind rd) cs w) = .next (lone (mkF fn tmps (.code x :: .code y :: k) ds kind rd) cs w) :=
  step_lone_go (by simp [stepG, stepG.exec, mkF])
theorem mv_cond {c : Operand} {x y : Code} {t : Bool} (h : evT tmps c = .bool t) : step P (lone (mkF fn tmps (.code (.cond c x y) :: k) ds kind rd) cs w) = .next (lone (mkF fn tmps (.code (if t then x else y) :: k) ds kind rd) cs w) :=
  step_lone_go (by
    have := evT_eq (mkF fn tmps (.code (.cond c x y) :: k) ds kind rd)
    simp only [mkF] at this
    simp [stepG, stepG.exec, mkF, this, h])
theorem mv_block {id : Nat} {c : Code} : step P (lone (mkF fn tmps (.code (.block id c) :: k) ds kind rd) cs w) = .next (lone (mkF fn tmps (.code c :: .inBlock id :: k) ds kind rd) cs w) :=
  step_lone_go (by simp [stepG, stepG.exec, mkF])
theorem mv_loop {c : Code} : step P (lone (mkF fn tmps (.code (.loop c) :: k) ds kind rd) cs w) = .next (lone (mkF fn tmps (.code c :: .inLoop c :: k) ds kind rd) cs w) :=
  step_lone_go (by simp [stepG, stepG.exec, mkF])
theorem mv_inLoop {c : Code} : step P (lone (mkF fn tmps (.inLoop c :: k) ds kind rd) cs w) = .next (lone (mkF fn tmps (.code c :: .inLoop c :: k) ds kind rd) cs w) :=
  step_lone_go (by simp [stepG, stepG.exec, mkF])
theorem mv_exit {id : Nat} {k' : List Item} (h : exitTo id k = some k') : step P (lone (mkF fn tmps (.code (.exit id) :: k) ds kind rd) cs w) = .next (lone (mkF fn tmps k' ds kind rd) cs w) :=
  step_lone_go (by simp [stepG, stepG.exec, mkF, h])
theorem mv_region {id : Nat} {ops : Array Oper} : step P (lone (mkF fn tmps (.code (.region id ops false) :: k) ds kind rd) cs w) = .next (lone (mkF fn tmps (.inRegion ops (List.range ops.size) :: k) ds kind rd) cs w) :=
  step_lone_go (by simp [stepG, stepG.exec, mkF])
theorem mv_draw {id : Nat} {ops : Array Oper} : step P (lone (mkF fn tmps (.code (.region id ops true) :: k) ds kind rd) cs w) =
    .next (lone (mkF fn tmps (.inRegion ops (Region.schedule (P.follows .mixedOrders) ops (w.tape w.drawn (.order fn id))) :: k) ds kind rd) cs { w with drawn := w.drawn + 1 }) :=
  step_lone_go (by simp [stepG, stepG.exec, mkF, choose, Sem.run, Question.forced, Question.cut])
theorem mv_region_end {ops : Array Oper} : step P (lone (mkF fn tmps (.inRegion ops [] :: k) ds kind rd) cs w) = .next (lone (mkF fn tmps k ds kind rd) cs w) :=
  step_lone_go (by simp [stepG, stepG.exec, mkF])
theorem mv_ret : step P (lone (mkF fn tmps (.code .ret :: k) ds kind none) cs w) = .next (lone { mkF fn tmps (.code .ret :: k) ds kind none with mode := .returning } cs w) :=
  step_lone_go (by simp [stepG, stepG.exec, mkF])
theorem mv_end : step P (lone (mkF fn tmps [] ds kind none) cs w) = .next (lone { mkF fn tmps [] ds kind none with mode := .returning } cs w) :=
  step_lone_go (by simp [stepG, stepG.exec, mkF])
/-! ### One operation -/
variable {ops : Array Oper} {i : Nat} {rest : List Nat} {o : Oper}
def putT (tmps : Array Value) (dst : Option Tmp) (v : Value) : Array Value :=
  match dst with
  | some d => tmps.setIfInBounds d v
  | none => tmps
theorem finish_mk (v : Value) (ho : ops[i]? = some o) : (mkF fn tmps (.inRegion ops (i :: rest) :: k) ds kind rd).finish v = mkF fn (putT tmps o.dst v) (.inRegion ops rest :: k) ds kind rd := by
  simp only [Frame.finish, mkF, ho, Option.bind_some, putT]
  cases o.dst <;> rfl
theorem mv_passed (ho : ops[i]? = some o) (hw : Region.wanted o (yielded ops tmps) = false) :
    step P (lone (mkF fn tmps (.inRegion ops (i :: rest) :: k) ds kind rd) cs w) = .next (lone (mkF fn (putT tmps o.dst undef) (.inRegion ops rest :: k) ds kind rd) cs w) := by
  rw [← finish_mk undef ho]
  exact step_lone_go (by simp [stepG, stepG.exec, mkF, ho, hw])
theorem stepG_mk (ho : ops[i]? = some o) (hw : Region.wanted o (yielded ops tmps) = true) (hd : rd = none ∨ ∀ c, o.op ≠ .defer c) :
    stepG P true { frame := mkF fn tmps (.inRegion ops (i :: rest) :: k) ds kind rd, callers := cs, status := .running, dying := none } w =
      stepG.apply P true (mkF fn tmps (.inRegion ops (i :: rest) :: k) ds kind rd) cs none (execOp (evT tmps) o) w := by
  have he := evT_eq (mkF fn tmps (.inRegion ops (i :: rest) :: k) ds kind rd)
  simp only [mkF] at he
  rcases hd with rfl | hd
  · simp [stepG, stepG.exec, stepG.oper, Frame.oper?, mkF, ho, hw, he]
  · cases rd with
    | none => simp [stepG, stepG.exec, stepG.oper, Frame.oper?, mkF, ho, hw, he]
    | some l =>
      cases hop : o.op with
      | defer c => exact absurd hop (hd c)
      | _ => simp [stepG, stepG.exec, stepG.oper, Frame.oper?, mkF, ho, hw, he, hop]
variable (ho : ops[i]? = some o) (hw : Region.wanted o (yielded ops tmps) = true) (hd : rd = none ∨ ∀ c, o.op ≠ .defer c)
include ho hw hd
theorem mv_value {v : Value} {w' : World} (hr : (execOp (evT tmps) o).run P w = .ok (.value v) w') :
    step P (lone (mkF fn tmps (.inRegion ops (i :: rest) :: k) ds kind rd) cs w) = .next (lone (mkF fn (putT tmps o.dst v) (.inRegion ops rest :: k) ds kind rd) cs w') := by
  refine step_lone_go ?_
  rw [stepG_mk ho hw hd, ← finish_mk v ho]
  simp [stepG.apply, hr]
theorem mv_skipped {w' : World} (hr : (execOp (evT tmps) o).run P w = .ok .skip w') :
    step P (lone (mkF fn tmps (.inRegion ops (i :: rest) :: k) ds kind rd) cs w) = .next (lone (mkF fn (putT tmps o.dst undef) (.inRegion ops rest :: k) ds kind rd) cs w') := by
  refine step_lone_go ?_
  rw [stepG_mk ho hw hd, ← finish_mk undef ho]
  simp [stepG.apply, hr]
theorem mv_defer {d : Deferred} {w' : World} (hr : (execOp (evT tmps) o).run P w = .ok (.defer d) w') :
    step P (lone (mkF fn tmps (.inRegion ops (i :: rest) :: k) ds kind rd) cs w) = .next (lone (mkF fn (putT tmps o.dst undef) (.inRegion ops rest :: k) (d :: ds) kind rd) cs w') := by
  refine step_lone_go ?_
  have : ({ mkF fn tmps (.inRegion ops (i :: rest) :: k) ds kind rd with defers := d :: ds } : Frame).finish undef = mkF fn (putT tmps o.dst undef) (.inRegion ops rest :: k) (d :: ds) kind rd := finish_mk (ds := d :: ds) undef ho
  rw [stepG_mk ho hw hd, ← this]
  simp only [stepG.apply, Sem.runT_eq, hr, if_true, GStep.bare_after]
  rfl
theorem mv_panic {v : Value} {w' : World} (hr : (execOp (evT tmps) o).run P w = .halt (.panic v) w') :
    step P (lone (mkF fn tmps (.inRegion ops (i :: rest) :: k) ds kind rd) cs w) =
      .next (lone { mkF fn tmps (.inRegion ops (i :: rest) :: k) ds kind rd with mode := .panicking [{ v, recovered := false }] } cs w') := by
  refine step_lone_go ?_
  rw [stepG_mk ho hw hd]
  simp [stepG.apply, hr, Frame.raise, mkF]
theorem mv_enter {f : FuncId} {args : Array Value} {w' : World} (hr : (execOp (evT tmps) o).run P w = .ok (.enter f args) w') :
    step P (lone (mkF fn tmps (.inRegion ops (i :: rest) :: k) ds kind rd) cs w) =
      .next (lone (Frame.enter P f args .normal) (mkF fn tmps (.inRegion ops (i :: rest) :: k) ds kind rd :: cs) w') := by
  refine step_lone_go ?_
  rw [stepG_mk ho hw hd]
  simp [stepG.apply, hr, mkF]
theorem mv_round {l : Nat} {f : FuncId} {ts : Array Value} {asg body : Code} {w' : World} (hr : (execOp (evT tmps) o).run P w = .ok (.round l f ts asg body) w') :
    step P (lone (mkF fn tmps (.inRegion ops (i :: rest) :: k) ds kind rd) cs w) =
      .next (lone (Frame.round l f ts asg body .normal) (mkF fn tmps (.inRegion ops (i :: rest) :: k) ds kind rd :: cs) w') := by
  refine step_lone_go ?_
  rw [stepG_mk ho hw hd]
  simp [stepG.apply, hr, mkF]
theorem mv_recover_none {w' : World} (hrd : rd = none) (hr : (execOp (evT tmps) o).run P w = .ok .recover w') (ht : tryRecover (mkF fn tmps (.inRegion ops (i :: rest) :: k) ds kind rd) cs = none) :
    step P (lone (mkF fn tmps (.inRegion ops (i :: rest) :: k) ds kind rd) cs w) = .next (lone (mkF fn (putT tmps o.dst .nilIface) (.inRegion ops rest :: k) ds kind rd) cs w') := by
  refine step_lone_go ?_
  subst hrd
  rw [stepG_mk ho hw (.inl rfl), ← finish_mk .nilIface ho]
  simp only [stepG.apply, Sem.runT_eq, hr, if_true, GStep.bare_after]
  have : (mkF fn tmps (.inRegion ops (i :: rest) :: k) ds kind none).roundOf = none := rfl
  simp only [this, ht]
  rfl
theorem mv_recover_some {w' : World} {v : Value} {cs' : List Frame} (hrd : rd = none) (hr : (execOp (evT tmps) o).run P w = .ok .recover w') (ht : tryRecover (mkF fn tmps (.inRegion ops (i :: rest) :: k) ds kind rd) cs = some (v, cs')) :
    step P (lone (mkF fn tmps (.inRegion ops (i :: rest) :: k) ds kind rd) cs w) = .next (lone (mkF fn (putT tmps o.dst v) (.inRegion ops rest :: k) ds kind rd) cs' w') := by
  refine step_lone_go ?_
  subst hrd
  rw [stepG_mk ho hw (.inl rfl), ← finish_mk v ho]
  simp only [stepG.apply, Sem.runT_eq, hr, if_true, GStep.bare_after]
  have : (mkF fn tmps (.inRegion ops (i :: rest) :: k) ds kind none).roundOf = none := rfl
  simp only [this, ht]
  rfl
end moves
end Go.Ax

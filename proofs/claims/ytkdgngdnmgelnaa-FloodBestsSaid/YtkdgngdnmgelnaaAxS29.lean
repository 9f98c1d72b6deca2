import Derived.Test.YtkdgngdnmgelnaaAxS28
set_option linter.all false
namespace Go.Ax
open Go Go.RowKit
section
variable {P : Program} {fn : FuncId} {tmps : Array Value} {k : List Item} {ds : List Deferred} {cs : List Frame} {w w' : World} {c : Frame} {l : Nat} {v : Value}
theorem mv_beginRound (hr : (Instr.beginRound l).run P w = .ok () w') : step P (lone (mkF fn tmps (.beginRound :: k) ds .normal (some l)) cs w) = .next (lone (mkF fn tmps k ds .normal (some l)) cs w') :=
  step_lone_go (by simp [stepG, stepG.exec, stepG.apply, mkF, Sem.runT_eq, hr, Result.andThen, Frame.finish])
theorem mv_round_end (hr : (Instr.endRound l none).run P w = .ok v w') : step P (lone (mkF fn tmps [] ds .normal (some l)) (c :: cs) w) = .next (lone (c.finish v) cs w') :=
  step_lone_go (by simp [stepG, stepG.exec, mkF, Sem.runT_eq, hr, doReturn])
theorem mv_round_ret (hr : (Instr.endRound l (some .ret)).run P w = .ok v w') : step P (lone (mkF fn tmps (.code .ret :: k) ds .normal (some l)) (c :: cs) w) = .next (lone (c.finish v) cs w') :=
  step_lone_go (by simp [stepG, stepG.exec, mkF, Sem.runT_eq, hr, doReturn])
theorem mv_round_exit {id : Nat} (hx : exitTo id k = none) (hr : (Instr.endRound l (some (.exit id))).run P w = .ok v w') : step P (lone (mkF fn tmps (.code (.exit id) :: k) ds .normal (some l)) (c :: cs) w) = .next (lone (c.finish v) cs w') :=
  step_lone_go (by simp [stepG, stepG.exec, mkF, hx, Sem.runT_eq, hr, doReturn])
end
section
variable {P : Program} {lo base : Nat}
theorem setTmps_len : ∀ {ps : List Tmp} {vs : List Value} {T T' : Tr Value}, setTmps T ps vs = some T' → ps.length = vs.length
  | [], [], _, _, _ => rfl
  | _ :: ps, _ :: vs, T, T', h => by simp only [setTmps] at h; simp [setTmps_len h]
  | [], _ :: _, _, _, h => by simp [setTmps] at h
  | _ :: _, [], _, _, h => by simp [setTmps] at h
theorem setTmps_R {r : Ren} {n : Nat} : ∀ {ps : List Tmp} {vs vs' : List Value} {T T' : Tr Value} {tmps : Array Value}, setTmps T ps vs = some T' → TmpR r n T tmps → (∀ t ∈ ps, t < n) → LR r vs vs' →
    TmpR r n T' ((ps.zip vs').foldl (fun tmps (x : Tmp × Value) => tmps.setIfInBounds x.1 x.2) tmps)
  | [], [], vs', T, T', tmps, h, hT, _, _ => by simp only [setTmps] at h; cases h; simpa using hT
  | t :: ps, v :: vs, vs', T, T', tmps, h, hT, hb, hl => by
    simp only [setTmps] at h
    match vs' with
    | [] => exact absurd hl.1 (by simp)
    | v' :: vs' =>
      have h1 : VR r v v' := hl.2 0 v v' rfl rfl
      have h2 : LR r vs vs' := ⟨by simpa using hl.1, fun i a b x y => hl.2 (i + 1) a b x y⟩
      simp only [List.zip_cons_cons, List.foldl_cons]
      exact setTmps_R h (hT.set t (hb t (by simp)) h1) (fun x hx => hb x (by simp [hx])) h2
  | [], _ :: _, _, _, _, _, h, _, _, _ => by simp [setTmps] at h
  | _ :: _, [], _, _, _, _, h, _, _, _ => by simp [setTmps] at h
def Back (P : Program) (lo base : Nat) (r : Ren) (H : Hp) (w : World) (fr0 : Frame) (e : En) (H' : Hp) : Prop :=
  ∀ c rest, ∃ r' w', Post P lo base r H w r' H' w' ∧
    match e with
    | .ret v => ∃ v', VR r' v v' ∧ Steps P (lone fr0 (c :: rest) w) (lone (c.finish v') rest w')
    | .pan v => ∃ v', VR r' v v' ∧ Steps P (lone fr0 (c :: rest) w) (lone (c.raise [{ v := v', recovered := false }]) rest w')
theorem fn_back {C : CallF} (hC : CallN P C) (hA : CallA C) (hm : P.follows .mixedOrders = true) (hN : NoCount P) {D : Target → List Value → Hp → Par → Option (En × Hp × Par)} (hD : DefN P lo D) {m : Nat} {f : FuncId} {args : List Value} {H : Hp} {e : En} {H' : Hp} {p' : Par}
    (h : runFunc P lo C D m f args H none = some (e, H', p')) (hlo : lo ≤ H.next) {r : Ren} {w : World} (hrel : Rel P r base H w) {args' : Array Value} (hargs : LR r args args'.toList) :
    (callFunc f args').run P w = .ok (.enter f args') w ∧ Back P lo base r H w (Frame.enter P f args' .normal) e H' := by
  obtain ⟨⟨fn, b, h1, h2⟩, _⟩ := func_R hC hA hm hD h hlo hrel hargs (kind := .normal) (K := fun _ => []) (.inl ⟨rfl, fun _ => rfl⟩) (pc := none) rfl (fun _ => rfl)
  refine ⟨callFunc_R hN h1 h2 _ _, fun c rest => ?_⟩
  obtain ⟨_, r', w', pc', fr, q1, q2, q3, q4, q5, q6⟩ := func_R hC hA hm hD h hlo hrel hargs (kind := .normal) (K := fun _ => c :: rest) (.inl ⟨rfl, fun _ => rfl⟩) (pc := none) rfl (fun _ => rfl)
  refine ⟨r', w', q1, ?_⟩
  cases e with
  | ret v =>
    obtain ⟨v', hv, ⟨a, b', d⟩⟩ := q5
    exact ⟨v', hv, q6.trans (Steps.one (step_leave_returned ⟨a, b', q4, d⟩))⟩
  | pan v =>
    obtain ⟨v', hv, hg⟩ := q5
    exact ⟨v', hv, q6.trans (Steps.one (step_leave_panicked hg))⟩
end
end Go.Ax

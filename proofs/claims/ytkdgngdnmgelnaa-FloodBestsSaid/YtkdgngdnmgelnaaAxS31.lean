import Derived.Test.YtkdgngdnmgelnaaAxS30
set_option linter.all false
namespace Go.Ax
open Go Go.RowKit
section
variable {P : Program}
theorem Post.of_below {lo base : Nat} {r : Ren} {H : Hp} {w w' : World} (h : Rel P r base H w) (hb : Below w.heap.size w w') : Post P lo base r H w r H w' where
  le := .refl r
  rel := {
    dom := fun b loc e => ⟨(h.dom b loc e).1, (h.dom b loc e).2.more hb.size⟩
    cont := fun b loc o e1 e2 => by
      have hdm := (h.dom b loc e1).2
      rw [e2] at hdm
      exact (h.cont b loc o e1 e2).keep hdm h.top (hb.block _)
    inj := h.inj
    top := Nat.le_trans h.top hb.size }
  next := Nat.le_refl _
  place := fun _ _ e => .inl e
  keep := fun k hk _ => hb.block k hk
  old := fun _ _ => rfl
  str := ⟨hb.os, hb.tape, hb.output, hb.size⟩
def Known (P : Program) (kn : FuncId → Option Bool) : Prop := ∀ f b, kn f = some b → (∃ fn c, P.funcs[f]? = some fn ∧ fn.body = some c) ∧ ∀ w, Calls P f #[] w fun e w' => e = .returned (.bool b) ∧ Below w.heap.size w w'
theorem Known.nothing (P : Program) : Known P fun _ => none := fun _ _ h => by cases h
theorem LR_cons_inv {r : Ren} {v : Value} {vs : List Value} {as : Array Value} (h : LR r (v :: vs) as.toList) : ∃ v' l', as = (v' :: l').toArray ∧ VR r v v' ∧ LR r vs l' := by
  obtain ⟨l⟩ := as
  match l with
  | [] => exact absurd h.1 (by simp)
  | v' :: l' => exact ⟨v', l', rfl, h.2 0 v v' rfl rfl, ⟨by simpa using h.1, fun i a b x y => h.2 (i + 1) a b x y⟩⟩
theorem meth_back {C : CallF} (hC : CallN P C) (hA : CallA C) (hm : P.follows .mixedOrders = true) (hN : NoCount P) {lo base : Nat} {D : Target → List Value → Hp → Par → Option (En × Hp × Par)} (hD : DefN P lo D) {m : Nat} {t : TypeId} {v : Value} {name : String} {f : FuncId} {x : Value} {rest : List Value} {H : Hp} {e : En} {H' : Hp} {p' : Par}
    (hv : methodV P t v name = some (f, x)) (h : runFunc P lo C D m f (x :: rest) H none = some (e, H', p')) (hlo : lo ≤ H.next) {r : Ren} {w : World} (hrel : Rel P r base H w) {v' : Value} {l' : List Value} (h1 : VR r v v') (h2 : LR r rest l') :
    (callMethod (.iface t v') name l'.toArray).run P w = .ok (.enter f (v' :: l').toArray) w ∧ Back P lo base r H w (Frame.enter P f (v' :: l').toArray .normal) e H' := by
  obtain ⟨rfl, hr⟩ := method_R hv
  obtain ⟨a, b⟩ := fn_back hC hA hm hN hD h hlo hrel (args' := (v' :: l').toArray) (by simpa using LR.cons h1 h2)
  refine ⟨?_, b⟩
  obtain ⟨k, hk⟩ : ∃ k, P.types.size + Made.depth = k + 1 := by
    have : 0 < Made.depth := by decide
    exact ⟨P.types.size + Made.depth - 1, by omega⟩
  have : (#[v'] ++ l'.toArray : Array Value) = (v' :: l').toArray := by simp
  simp only [callMethod, Sem.run_bind, run_program, Result.andThen_ok, hk, hr, this]
  exact a
theorem evCall_R (hm : P.follows .mixedOrders = true) (hN : NoCount P) {kn : FuncId → Option Bool} (hkn : Known P kn) (m : Nat) : ∀ n, CallN P (callF P kn m n) ∧ ∀ lo, DefN P lo (fun t args H p => evCall P kn m n lo t args H p) := by
  intro n
  have known : ∀ (lo : Nat) (t : Target) (args : List Value) (H : Hp) (e : En) (H' : Hp), (∃ b, kcall kn t args = some b ∧ e = .ret (.bool b) ∧ H' = H) → lo ≤ H.next → ∀ (r : Ren) (base : Nat) (w : World) (t' : Target) (args' : Array Value), Rel P r base H w → TgR r t t' → LR r args args'.toList →
      ∃ nx fr0, (invoke t' args').run P w = .ok nx w ∧ frameOf P .normal nx = some fr0 ∧ Back P lo base r H w fr0 e H' := by
    intro lo t args H e H' ⟨b, hk, he, hH⟩ hlo r base w t' args' hrel ht ha
    subst he hH
    unfold kcall at hk
    split at hk <;> first | (cases hk; done) | skip
    rename_i f cap
    obtain ⟨hc, hk⟩ := bif_some hk
    have hc := Nat.eq_of_beq_eq_true hc
    obtain ⟨⟨fn, c, h1, h2⟩, hcalls⟩ := hkn f b hk
    obtain ⟨f', cap', rfl, hf, hcap⟩ := ht
    cases hf
    have e1 : args' = #[] := by
      have := ha.1
      simp at this
      exact Array.eq_empty_of_size_eq_zero (by simpa using this.symm)
    have e2 : cap' = #[] := by
      have := hcap.1
      simp at this
      exact Array.eq_empty_of_size_eq_zero (by omega)
    subst e1 e2
    refine ⟨.enter f #[], _, callFunc_R hN h1 h2 _ _, rfl, fun c0 rest => ?_⟩
    obtain ⟨e', w', fr, ⟨rfl, hb⟩, hs, _, hl⟩ := hcalls w (c0 :: rest)
    exact ⟨r, w', Post.of_below hrel hb, .bool b, .bool b, Steps.trans hs (Steps.one (step_leave_returned hl))⟩
  induction n with
  | zero =>
    refine ⟨fun lo t args H e H' h hlo r base w t' args' hrel ht ha => ?_, fun lo f cap args H p e H' p' h => ?_⟩
    · rcases callF_some h with hk | ⟨p', h⟩
      · obtain ⟨nx, fr0, a, b, c⟩ := known lo t args H e H' hk hlo r base w t' args' hrel ht ha
        refine ⟨nx, fr0, a, b, fun c0 rest => ?_⟩
        have := c c0 rest
        cases e <;> exact this
      · simp [evCall] at h
    · simp [evCall] at h
  | succ n ih =>
    obtain ⟨hC, hD⟩ := ih
    have hA : CallA (callF P kn m n) := (evCall_old P kn m n).2
    constructor
    · intro lo t args H e H' h hlo r base w t' args' hrel ht ha
      suffices hs : ∃ nx fr0, (invoke t' args').run P w = .ok nx w ∧ frameOf P .normal nx = some fr0 ∧ Back P lo base r H w fr0 e H' by
        obtain ⟨nx, fr0, a, b, c⟩ := hs
        refine ⟨nx, fr0, a, b, fun c0 rest => ?_⟩
        have := c c0 rest
        cases e <;> exact this
      rcases callF_some h with hk | ⟨p', h⟩
      · exact known lo t args H e H' hk hlo r base w t' args' hrel ht ha
      cases t with
      | fn f cap =>
        obtain ⟨f', cap', rfl, hf, hcap⟩ := ht
        cases hf with
        | func g =>
          simp only [evCall] at h
          obtain ⟨a, b⟩ := fn_back hC hA hm hN (hD lo) h hlo hrel (args' := args' ++ cap') (by simpa using LR.append ha hcap)
          exact ⟨_, _, a, rfl, b⟩
        | method name =>
          simp only [evCall] at h
          split at h <;> first | (cases h; done) | skip
          split at h <;> first | (cases h; done) | skip
          rename_i f x hv
          obtain ⟨u', l', rfl, q1, q2⟩ := LR_cons_inv ha
          obtain ⟨v', rfl, q3⟩ := iface_R q1
          obtain ⟨a, b⟩ := meth_back hC hA hm hN (hD lo) hv h hlo hrel q3 q2
          refine ⟨.enter f _, _, ?_, rfl, b⟩
          have ext : ∀ y : Value, ((y :: l').toArray.extract 1 (y :: l').toArray.size) = l'.toArray := fun y => by simp
          simp only [invoke, ext]
          simpa using a
        | methodOf ty name =>
          simp only [evCall] at h
          split at h <;> first | (cases h; done) | skip
          split at h <;> first | (cases h; done) | skip
          rename_i dsc hni hu _ _ f x hv
          obtain ⟨v', l', rfl, q1, q2⟩ := LR_cons_inv ha
          obtain ⟨a, b⟩ := meth_back hC hA hm hN (hD lo) hv h hlo hrel q1 q2
          refine ⟨.enter f _, _, ?_, rfl, b⟩
          have : ((v' :: l').toArray.extract 1 (v' :: l').toArray.size) = l'.toArray := by simp
          simp only [invoke, this]
          cases dsc <;> first | (exact absurd rfl (hni _)) | simpa [run_under hu] using a
        | yield hl =>
          obtain ⟨f, tm, asg, body, a, b⟩ := round_back hC hA hm h hlo hrel hl ha
          exact ⟨_, _, a, rfl, b⟩
      | _ => simp [evCall] at h
    · intro lo f cap args H p e H' p' h hlo r base w cap' args' pc c cs hrel hcap ha hp
      simp only [evCall] at h
      obtain ⟨⟨fn, b, h1, h2⟩, r', w', pc', fr, q1, q2, q3, q4, q5, q6⟩ := func_R hC hA hm (hD lo) h hlo hrel (args' := args' ++ cap') (by simpa using LR.append ha hcap) (kind := .deferred) (K := fun p => { c with mode := modeOf p } :: cs) (.inr ⟨rfl, c, cs, fun _ => rfl⟩) hp (fun q => by cases q)
      exact ⟨args' ++ cap', callFunc_R hN h1 h2 _ _, r', w', pc', fr, q1, q2, q4, q5, q6⟩
theorem closed_call (hm : P.follows .mixedOrders = true) (hN : NoCount P) {kn : FuncId → Option Bool} (hkn : Known P kn) {m n : Nat} {f : FuncId} {b : Bool} (h : evMain P kn m (n + 1) f = some b) (w : World) : Calls P f #[] w fun e w' => e = .returned (.bool b) ∧ Below w.heap.size w w' := by
  unfold evMain at h
  split at h <;> first | (cases h; done) | skip
  rename_i b' H' p' he
  cases h
  obtain ⟨hC, hD⟩ := evCall_R hm hN hkn m n
  have hA : CallA (callF P kn m n) := (evCall_old P kn m n).2
  have hrel : Rel P (fun _ => none) w.heap.size { next := 0, t := .nil } w := ⟨fun _ _ e => (by cases e), fun _ _ _ e => (by cases e), fun _ _ _ _ e => (by cases e), Nat.le_refl _⟩
  simp only [evCall] at he
  intro cs
  obtain ⟨_, r', w', pc', fr, q1, q2, q3, q4, q5, q6⟩ := func_R hC hA hm (hD 0) he (Nat.zero_le _) hrel (args' := #[]) (by simpa using LR.nil) (kind := .normal) (K := fun _ => cs) (.inl ⟨rfl, fun _ => rfl⟩) (pc := none) rfl (fun _ => rfl)
  obtain ⟨v', hv, ⟨g1, g2, g3⟩⟩ := q5
  have := bool_same hv
  subst this
  exact ⟨.returned (.bool b), w', fr, ⟨rfl, q1.below hrel fun _ _ e => by cases e⟩, q6, q3, g1, g2, q4, g3⟩
end
end Go.Ax

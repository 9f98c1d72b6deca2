import Derived.Test.YtkdgngdnmgelnaaAxS27
set_option linter.all false
namespace Go.Ax
open Go Go.RowKit
section
variable {P : Program} {lo base : Nat}
theorem trOf_get : ∀ (vs : List Value) (i : Nat) (T : Tr Value) (t : Nat), (trOf vs i T).get t = if i ≤ t ∧ t < i + vs.length then vs[t - i]? else T.get t
  | [], i, T, t => by simp only [trOf, List.length_nil]; rw [if_neg (by omega)]
  | v :: vs, i, T, t => by
    simp only [trOf, trOf_get vs (i + 1) (T.set i v) t, Tr.get_set, List.length_cons]
    by_cases h1 : t = i
    · subst h1
      rw [if_neg (by omega), if_pos rfl, if_pos (by omega)]
      simp
    · by_cases h2 : i + 1 ≤ t ∧ t < i + 1 + vs.length
      · rw [if_pos h2, if_pos (by omega)]
        obtain ⟨j, hj⟩ : ∃ j, t = i + 1 + j := ⟨t - (i + 1), by omega⟩
        subst hj
        have e1 : i + 1 + j - (i + 1) = j := by omega
        have e2 : i + 1 + j - i = j + 1 := by omega
        rw [e1, e2]
        simp
      · rw [if_neg h2, if_neg h1, if_neg (by omega)]
theorem enter_tmps {r : Ren} {args : List Value} {args' : Array Value} (h : LR r args args'.toList) (n : Nat) (hn : args.length ≤ n) : TmpR r n (trOf args 0 .nil) (args' ++ Array.replicate (n - args'.size) undef) := by
  have hs : args.length = args'.size := by simpa using h.1
  refine ⟨by simp; omega, fun t v e => ?_⟩
  rw [trOf_get] at e
  split at e
  · rename_i ht
    have ht : t < args'.size := by omega
    simp only [Nat.sub_zero] at e
    refine ⟨args'[t], ?_, h.2 t v _ e (by simp [ht])⟩
    rw [Array.getElem?_append_left ht]
    simp [ht]
  · simp [Tr.get_nil] at e
def Comes2 (P : Program) (lo base : Nat) (r : Ren) (H : Hp) (w : World) (f : FuncId) (args' : Array Value) (kind : CallKind) (K : Par → List Frame) (pc : Par) (e : En) (H' : Hp) (p' : Par) : Prop :=
  ∃ r' w' pc' fr, Post P lo base r H w r' H' w' ∧ ParR r' p' pc' ∧ fr.fn = f ∧ fr.kind = kind ∧ Left P r' e fr w' ∧ Steps P (lone (Frame.enter P f args' kind) (K pc) w) (lone fr (K pc') w')
theorem func_R {C : CallF} (hC : CallN P C) (hA : CallA C) (hm : P.follows .mixedOrders = true) {D : Target → List Value → Hp → Par → Option (En × Hp × Par)} (hD : DefN P lo D) {m : Nat} {f : FuncId} {args : List Value} {H : Hp} {p : Par} {e : En} {H' : Hp} {p' : Par}
    (h : runFunc P lo C D m f args H p = some (e, H', p')) (hlo : lo ≤ H.next) {r : Ren} {w : World} (hrel : Rel P r base H w) {args' : Array Value} (hargs : LR r args args'.toList) {kind : CallKind} {K : Par → List Frame} (hK : KOK kind K) {pc : Par} (hp : ParR r p pc) (hn : kind = .normal → p = none) :
    (∃ fn b, P.funcs[f]? = some fn ∧ fn.body = some b) ∧ Comes2 P lo base r H w f args' kind K pc e H' p' := by
  unfold runFunc at h
  cases hfn : P.funcs[f]? with
  | none => simp [hfn] at h
  | some fn =>
    cases hb : fn.body with
    | none => simp [hfn, hb] at h
    | some b =>
      refine ⟨⟨fn, b, rfl, hb⟩, ?_⟩
      simp only [hfn, hb] at h
      obtain ⟨hle, h⟩ := bif_some h
      have hle := Nat.le_of_ble_eq_true hle
      have hent : Frame.enter P f args' kind = mkF f (args' ++ Array.replicate (fn.ntmps - args'.size) undef) [.code b] [] kind none := by
        simp [Frame.enter, mkF, hfn, hb]
      have hT := enter_tmps hargs fn.ntmps hle
      have fin : ∀ (A : Fr) (H1 : Hp) (p1 : Par) (r1 : Ren) (w1 : World) (tm : Array Value) (ds : List Deferred) (pc1 : Par) (mm pm : Par) (todo : List Item), Post P lo base r H w r1 H1 w1 → FrR r1 A tm ds none → ParR r1 p1 pc1 → ParR r1 mm pm → (match unwindV P lo D fn m A H1 mm with | some (e, H'') => some (e, H'', p1) | none => none) = some (e, H', p') →
          Steps P (lone (Frame.enter P f args' kind) (K pc) w) (lone { mkF f tm todo ds kind none with mode := modeOf pm } (K pc1) w1) → Comes2 P lo base r H w f args' kind K pc e H' p' := by
        intro A H1 p1 r1 w1 tm ds pc1 mm pm todo hpost hF hp1 hmm hu hs
        cases hv : unwindV P lo D fn m A H1 mm with
        | none => rw [hv] at hu; cases hu
        | some q =>
          obtain ⟨e1, H2⟩ := q
          rw [hv] at hu
          cases hu
          obtain ⟨r', w', fr', q1, q2, q3, q4, q5⟩ := unwind_R hD hfn m r1 w1 A H1 ds mm pm e H' hv (Nat.le_trans hlo hpost.next) hpost.rel hF.D hmm { mkF f tm todo ds kind none with mode := modeOf pm } (K pc1) hF.T rfl rfl rfl
          exact ⟨r', w', pc1, fr', hpost.trans hlo q1, hp1.mono q1.le, q2, q3, q5, hs.trans q4⟩
      cases hc : runCode P lo C m b { fn := f, n := fn.ntmps, T := trOf args 0 .nil, defers := [], round := none } H p with
      | none => simp [hc] at h
      | some q =>
        obtain ⟨ex, A, H1, p1⟩ := q
        obtain ⟨r1, w1, tm, ds, pc1, hpost, hF, hS, hp1, hArr, _⟩ := (code_R (rd := none) hC hA hm hK m).1 b [] r w H _ _ [] p pc ex A H1 p1 hc hlo hrel ⟨hT, .nil, rfl⟩ hp hn
        simp only at hArr
        rw [← hent] at hArr
        rw [hc] at h
        cases ex with
        | normal =>
          exact fin A H1 p1 r1 w1 tm ds pc1 none none [] hpost hF hp1 rfl h (hArr.trans (Steps.one mv_end))
        | ret =>
          obtain ⟨kx, hs⟩ := hArr
          exact fin A H1 p1 r1 w1 tm ds pc1 none none _ hpost hF hp1 rfl h (hs.trans (Steps.one mv_ret))
        | panic chain =>
          unfold Arr at hArr
          split at hArr
          · rename_i heq; cases heq
          · rename_i heq; cases heq
          · rename_i heq; cases heq
          · rename_i v heq
            cases heq
            obtain ⟨todo, v', hv, hs⟩ := hArr
            exact fin A H1 p1 r1 w1 tm ds pc1 (some (v, false)) (some (v', false)) todo hpost hF hp1 ⟨v', hv, rfl⟩ h hs
          · exact hArr.elim
        | _ => simp at h
/-! ### Methods, and what is entered -/
theorem run_under {t : TypeId} {d : TypeDesc} (h : P.underlying t = some d) (w : World) : (underlying t).run P w = .ok d w := run_underlying h w
theorem method_R {t : TypeId} {v x : Value} {name : String} {f : FuncId} (h : methodV P t v name = some (f, x)) : x = v ∧ ∀ (n : Nat) (w : World) (v' : Value), (method (n + 1) t v' name).run P w = .ok (f, v') w := by
  unfold methodV at h
  cases hi : P.info? t with
  | none => simp [hi] at h
  | some i =>
    simp only [hi] at h
    cases hf : i.methods.toList.find? (fun m => m.name == name) with
    | none => rw [hf] at h; simp at h
    | some m =>
      rw [hf] at h
      simp only at h
      have hf' : i.methods.find? (fun m => m.name == name) = some m := by rw [← Array.find?_toList]; exact hf
      split at h <;> first | (cases h; done) | skip
      · rename_i hp hfu hu
        cases h
        refine ⟨rfl, fun n w v' => ?_⟩
        simp only [method, Sem.run_bind, run_info hi, Result.andThen_ok, hf', hp, follow, Sem.run_pure, hfu, receiverAt, run_under hu, Place.get]
      · rename_i hp hfu hu
        cases h
        refine ⟨rfl, fun n w v' => ?_⟩
        simp only [method, Sem.run_bind, run_info hi, Result.andThen_ok, hf', hp, follow, Sem.run_pure, hfu, receiverAt, run_under hu]
        rfl
def NoCount (P : Program) : Prop := ∀ (f : FuncId) fn, P.funcs[f]? = some fn → (fn.name == "runtime.NumGoroutine") = false
theorem callFunc_R (hN : NoCount P) {f : FuncId} {fn : Func} {b : Code} (hf : P.funcs[f]? = some fn) (hb : fn.body = some b) (args : Array Value) (w : World) : (callFunc f args).run P w = .ok (.enter f args) w := by
  have := hN f fn hf
  simp only [callFunc, Sem.run_bind, run_program, Result.andThen_ok, hf, this, hb, Option.isNone_some, Bool.false_eq_true, if_false, Sem.run_pure]
end
end Go.Ax

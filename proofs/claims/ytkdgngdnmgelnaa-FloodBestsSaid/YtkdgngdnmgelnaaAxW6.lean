import Derived.Test.YtkdgngdnmgelnaaAxW5
set_option linter.all false
/-! The evaluator for all inputs, 6: ranges over functions. -/
namespace Go.Ax
open Go Go.RowKit
section
variable {P : Program} {kn : FuncId → Option Bool} {lo n : Nat}
def TriR (P : Program) (kn : FuncId → Option Bool) (lo n : Nat) (c : Code) (S : Rg) (H : Hp) (K : Exit → Rg → Hp → List Deferred → Prop) : Prop :=
  ∀ A : Fr, A.n = n → A.round = none → (P.funcs[A.fn]?).isSome = true → Knows S A.T →
    ∃ e S' H' T' D, K e S' H' D ∧ Knows S' T' ∧ ∃ N, ∀ f m k, N ≤ f → N ≤ m → N ≤ k → runCode P lo (callF P kn m k) f c A H none = some (e, { A with T := T', defers := D ++ A.defers }, H', none)
theorem TriR.of {c : Code} {S : Rg} {H : Hp} {K : Exit → Rg → Hp → List Deferred → Prop} (h : Tri P kn lo n false c S H fun e S' H' => K e S' H' []) : TriR P kn lo n c S H K := by
  intro A h1 h2 _ h3
  obtain ⟨e, S', H', T', a, b, N, r⟩ := h A h1 (by rw [h2]; rfl) h3
  exact ⟨e, S', H', T', [], a, b, N, r⟩
theorem TriR.seqR {x y : Code} {S : Rg} {H : Hp} {K : Exit → Rg → Hp → List Deferred → Prop} (h : Tri P kn lo n false x S H fun e S' H' => match e with | .normal => TriR P kn lo n y S' H' K | e => K e S' H' []) : TriR P kn lo n (.seq x y) S H K := by
  intro A h1 h2 h4 h3
  obtain ⟨e, S1, H1, T1, a, b, N1, c⟩ := h A h1 (by rw [h2]; rfl) h3
  cases e with
  | normal =>
    obtain ⟨e, S', H', T', D, a', b', N2, c'⟩ := a { A with T := T1 } h1 h2 h4 b
    refine ⟨e, S', H', T', D, a', b', N1 + N2 + 1, fun f m k hf hm hk => ?_⟩
    obtain ⟨f, rfl⟩ : ∃ g, f = g + 1 := ⟨f - 1, by omega⟩
    rw [runCode]
    simp only [c f m k (by omega) (by omega) (by omega)]
    exact c' f m k (by omega) (by omega) (by omega)
  | _ =>
    refine ⟨_, S1, H1, T1, [], a, b, N1 + 1, fun f m k hf hm hk => ?_⟩
    obtain ⟨f, rfl⟩ : ∃ g, f = g + 1 := ⟨f - 1, by omega⟩
    rw [runCode]
    simp only [c f m k (by omega) (by omega) (by omega), List.nil_append]
theorem TriR.seqL {x y : Code} {S : Rg} {H : Hp} {K : Exit → Rg → Hp → List Deferred → Prop} (h : TriR P kn lo n x S H fun e S' H' D => match e with | .normal => Tri P kn lo n false y S' H' (fun e S2 H2 => K e S2 H2 D) | e => K e S' H' D) : TriR P kn lo n (.seq x y) S H K := by
  intro A h1 h2 h4 h3
  obtain ⟨e, S1, H1, T1, D, a, b, N1, c⟩ := h A h1 h2 h4 h3
  cases e with
  | normal =>
    obtain ⟨e, S', H', T', a', b', N2, c'⟩ := a { A with T := T1, defers := D ++ A.defers } h1 (by show A.round.isSome = false; rw [h2]; rfl) b
    refine ⟨e, S', H', T', D, a', b', N1 + N2 + 1, fun f m k hf hm hk => ?_⟩
    obtain ⟨f, rfl⟩ : ∃ g, f = g + 1 := ⟨f - 1, by omega⟩
    rw [runCode]
    simp only [c f m k (by omega) (by omega) (by omega)]
    exact c' f m k (by omega) (by omega) (by omega)
  | _ =>
    refine ⟨_, S1, H1, T1, D, a, b, N1 + 1, fun f m k hf hm hk => ?_⟩
    obtain ⟨f, rfl⟩ : ∃ g, f = g + 1 := ⟨f - 1, by omega⟩
    rw [runCode]
    simp only [c f m k (by omega) (by omega) (by omega)]
theorem TriR.block {id : Nat} {b : Code} {S : Rg} {H : Hp} {K : Exit → Rg → Hp → List Deferred → Prop} (h : TriR P kn lo n b S H fun e S' H' D => match e with | .exit j => (bif Nat.beq j id then K .normal S' H' D else K (.exit j) S' H' D) | e => K e S' H' D) : TriR P kn lo n (.block id b) S H K := by
  intro A h1 h2 h4 h3
  obtain ⟨e, S', H', T', D, p, q, N, r⟩ := h A h1 h2 h4 h3
  have unf : ∀ f m k, runCode P lo (callF P kn m k) (f + 1) (.block id b) A H none = match runCode P lo (callF P kn m k) f b A H none with
    | some (.exit j, A', H', p') => bif Nat.beq j id then some (.normal, A', H', p') else some (.exit j, A', H', p')
    | r => r := fun f m k => by rw [runCode]; rfl
  cases e with
  | exit j =>
    simp only at p
    cases hj : Nat.beq j id with
    | true =>
      rw [hj] at p
      refine ⟨.normal, S', H', T', D, p, q, N + 1, fun f m k hf hm hk => ?_⟩
      obtain ⟨f, rfl⟩ : ∃ g, f = g + 1 := ⟨f - 1, by omega⟩
      rw [unf, r f m k (by omega) (by omega) (by omega)]
      simp only [hj, cond_true]
    | false =>
      rw [hj] at p
      refine ⟨.exit j, S', H', T', D, p, q, N + 1, fun f m k hf hm hk => ?_⟩
      obtain ⟨f, rfl⟩ : ∃ g, f = g + 1 := ⟨f - 1, by omega⟩
      rw [unf, r f m k (by omega) (by omega) (by omega)]
      simp only [hj, cond_false]
  | _ =>
    refine ⟨_, S', H', T', D, p, q, N + 1, fun f m k hf hm hk => ?_⟩
    obtain ⟨f, rfl⟩ : ∃ g, f = g + 1 := ⟨f - 1, by omega⟩
    rw [unf, r f m k (by omega) (by omega) (by omega)]
def Lp (P : Program) (H : Hp) (l : Nat) (st : LoopState) (pe : Option Code) (n : Nat) (S : Rg) (ps : List Tmp) (asg body : Code) (r : Nat) : Prop :=
  ∃ fn T, H.t.get l = some (.lp st pe fn n T ps asg body r) ∧ (P.funcs[fn]?).isSome = true ∧ Knows S T
theorem Lp.keep {H H1 : Hp} {l : Nat} {st : LoopState} {pe : Option Code} {n : Nat} {S : Rg} {ps : List Tmp} {asg body : Code} {r : Nat} {w : List Nat} (h : Lp P H l st pe n S ps asg body r) (k : Keep H H1 w) (hl : l < H.next) (hw : l ∉ w) : Lp P H1 l st pe n S ps asg body r := by
  obtain ⟨fn, T, a, b⟩ := h
  exact ⟨fn, T, by rw [k.2 l hl hw]; exact a, b⟩
theorem Lp.weak {H : Hp} {l : Nat} {st : LoopState} {pe : Option Code} {n : Nat} {S S0 : Rg} {ps : List Tmp} {asg body : Code} {r : Nat} (h : Lp P H l st pe n S ps asg body r) (k : Subs S0 S) : Lp P H l st pe n S0 ps asg body r := by
  obtain ⟨fn, T, a, b, c⟩ := h
  exact ⟨fn, T, a, b, fun j v e => c j v (k.get j v e)⟩
def SetLp (H : Hp) (l : Nat) (st : LoopState) (pe : Option Code) (H1 : Hp) : Prop :=
  H1.next = H.next ∧ (∀ b, b ≠ l → H1.t.get b = H.t.get b) ∧ ∀ st0 pe0 fn n T ps asg body r, H.t.get l = some (.lp st0 pe0 fn n T ps asg body r) → H1.t.get l = some (.lp st pe fn n T ps asg body r)
theorem SetLp.keep {H H1 : Hp} {l : Nat} {st : LoopState} {pe : Option Code} (h : SetLp H l st pe H1) : Keep H H1 [l] := ⟨by rw [h.1]; exact Nat.le_refl _, fun b _ hb => h.2.1 b (by simpa using hb)⟩
theorem SetLp.lp {H H1 : Hp} {l : Nat} {st st0 : LoopState} {pe pe0 : Option Code} {n : Nat} {S : Rg} {ps : List Tmp} {asg body : Code} {r : Nat} (h : SetLp H l st pe H1) (k : Lp P H l st0 pe0 n S ps asg body r) : Lp P H1 l st pe n S ps asg body r := by
  obtain ⟨fn, T, a, b⟩ := k
  exact ⟨fn, T, h.2.2 _ _ _ _ _ _ _ _ _ a, b⟩
theorem setLp_up {H : Hp} {l : Nat} {st st0 : LoopState} {pe pe0 : Option Code} {fn : FuncId} {n : Nat} {T : Tr Value} {ps : List Tmp} {asg body : Code} {r : Nat} (h : H.t.get l = some (.lp st0 pe0 fn n T ps asg body r)) : SetLp H l st pe { H with t := H.t.set l (.lp st pe fn n T ps asg body r) } := by
  refine ⟨rfl, fun b hb => by simp only [Tr.get_set]; rw [if_neg hb], fun st1 pe1 fn1 n1 T1 ps1 asg1 body1 r1 e => ?_⟩
  rw [h] at e; cases e
  simp only [Tr.get_set, if_true]
def bindS : List Tmp → List Value → Rg → Option Rg
  | [], [], S => some S
  | t :: ts, v :: vs, S => bindS ts vs ((t, v) :: S)
  | _, _, _ => none
theorem set_tmps : ∀ (ps : List Tmp) (vs : List Value) (S S1 : Rg) (T : Tr Value), Knows S T → bindS ps vs S = some S1 → ∃ T1, setTmps T ps vs = some T1 ∧ Knows S1 T1
  | [], [], S, S1, T, h, e => by simp only [bindS] at e; cases e; exact ⟨T, rfl, h⟩
  | [], _ :: _, _, _, _, _, e => by simp [bindS] at e
  | _ :: _, [], _, _, _, _, e => by simp [bindS] at e
  | t :: ts, v :: vs, S, S1, T, h, e => by
    simp only [bindS] at e
    exact set_tmps ts vs _ S1 (T.set t v) (knows_put h (some t) v) e
theorem evYield {m k l : Nat} {cap : Array Value} {args : List Value} {H : Hp} : evCall P kn m (k + 1) lo (.fn (.yield l) cap) args H none = match H.t.get l with
    | some (.lp .ready pe fn n T params asg body df) =>
      match setTmps T params args with
      | none => none
      | some T' =>
        bif Nat.ble lo l then
        bif (P.funcs[fn]?).isSome && params.all (fun t => Nat.blt t n) then
        match runCode P lo (callF P kn m k) m asg { fn, n, T := T', defers := [], round := some l } H none with
        | some (.normal, A, H1, none) =>
          match H1.t.get l with
          | some (.lp .ready pe' fn' n' T2 ps' as' bo' df') =>
            match runCode P lo (callF P kn m k) m body A { H1 with t := H1.t.set l (.lp .busy pe' fn' n' T2 ps' as' bo' df') } none with
            | none => none
            | some (e, A', H3, _) =>
              match A'.defers, H3.t.get l with
              | [], some (.lp _ _ a b c d e' g h) =>
                match e with
                | .normal => some (.ret (.bool true), { H3 with t := H3.t.set l (.lp .ready none a b c d e' g h) }, none)
                | .ret => some (.ret (.bool false), { H3 with t := H3.t.set l (.lp .done (some .ret) a b c d e' g h) }, none)
                | .exit id => some (.ret (.bool false), { H3 with t := H3.t.set l (.lp .done (some (.exit id)) a b c d e' g h) }, none)
                | .panic [{ v, recovered := false, goexit := false }] => some (.pan v, H3, none)
                | _ => none
              | _, _ => none
          | _ => none
        | _ => none
        else none
        else none
    | _ => none := by
  simp only [evCall]
  cases H.t.get l with
  | none => rfl
  | some o =>
    cases o with
    | lp st a b c d e f g h => cases st <;> rfl
    | _ => rfl
theorem yield_ok {H : Hp} {l : Nat} {S S1 : Rg} {ps : List Tmp} {asg body : Code} {r : Nat} {pe : Option Code} {args : List Value} {Q : Bool → Hp → Prop} (hl : Lp P H l .ready pe n S ps asg body r) (hlo : lo ≤ l) (hps : ps.all (fun t => Nat.blt t n) = true) (hb : bindS ps args S = some S1)
    (h : Tri P kn lo n true asg S1 H fun e S2 H1 => (match e with | .normal => True | _ => False) ∧ Lp P H1 l .ready pe n S ps asg body r ∧ ∀ H2, SetLp H1 l .busy pe H2 → Tri P kn lo n true body S2 H2 fun e S3 H3 => Lp P H3 l .busy pe n S ps asg body r ∧
      (match e with | .normal => ∀ H4, SetLp H3 l .ready none H4 → Q true H4 | .ret => ∀ H4, SetLp H3 l .done (some .ret) H4 → Q false H4 | .exit id => ∀ H4, SetLp H3 l .done (some (.exit id)) H4 → Q false H4 | _ => False)) :
    ∃ b H', CallsX P kn lo (.fn (.yield l) #[]) args H (.bool b) H' ∧ Q b H' := by
  obtain ⟨fn, T, hg, hfn, hk⟩ := hl
  obtain ⟨T1, hT1, hk1⟩ := set_tmps ps args S S1 T hk hb
  obtain ⟨e, S2, H1, T2, ⟨he, hl1, hbody⟩, hk2, N1, r1⟩ := h { fn, n, T := T1, defers := [], round := some l } rfl rfl hk1
  cases e <;> simp only at he
  obtain ⟨fn1, Ta, hg1, hfn1, hka⟩ := hl1
  obtain ⟨e, S3, H3, T3, ⟨hl3, hq⟩, hk3, N2, r2⟩ := hbody _ (setLp_up (st := .busy) (pe := pe) hg1) { fn, n, T := T2, defers := [], round := some l } rfl rfl hk2
  obtain ⟨fn3, Tb, hg3, hfn3, hkb⟩ := hl3
  have run : ∀ m k, N1 + N2 + 1 ≤ m → N1 + N2 + 1 ≤ k → ∀ v st' pe', (match e with | .normal => some (En.ret (.bool true), LoopState.ready, (none : Option Code)) | .ret => some (.ret (.bool false), .done, some .ret) | .exit id => some (.ret (.bool false), .done, some (.exit id)) | _ => none) = some (.ret v, st', pe') →
      callF P kn m k lo (.fn (.yield l) #[]) args H = some (.ret v, { H3 with t := H3.t.set l (.lp st' pe' fn3 n Tb ps asg body r) }) := by
    intro m k hm hk' v st' pe' hv
    obtain ⟨k, rfl⟩ : ∃ g, k = g + 1 := ⟨k - 1, by omega⟩
    have r1' := r1 m m k (by omega) (by omega) (by omega)
    have r2' := r2 m m k (by omega) (by omega) (by omega)
    have key : evCall P kn m (k + 1) lo (.fn (.yield l) #[]) args H none = some (.ret v, { H3 with t := H3.t.set l (.lp st' pe' fn3 n Tb ps asg body r) }, none) := by
      rw [evYield]
      simp only [hg, hT1, Nat.ble_eq_true_of_le hlo, hfn, hps, Bool.and_true, cond_true, r1', hg1, r2', hg3]
      cases e <;> simp at hv
      all_goals
        obtain ⟨rfl, rfl, rfl⟩ := hv
        rfl
    unfold callF
    simp only [kcall, key]
  cases e <;> simp only at hq
  · exact ⟨true, _, ⟨N1 + N2 + 1, fun m k hm hk => run m k hm hk _ _ _ rfl⟩, hq _ (setLp_up hg3)⟩
  · exact ⟨false, _, ⟨N1 + N2 + 1, fun m k hm hk => run m k hm hk _ _ _ rfl⟩, hq _ (setLp_up hg3)⟩
  · exact ⟨false, _, ⟨N1 + N2 + 1, fun m k hm hk => run m k hm hk _ _ _ rfl⟩, hq _ (setLp_up hg3)⟩
theorem TriR.range {fo : Operand} {ps : Array Tmp} {asg body : Code} {S : Rg} {H : Hp} {K : Exit → Rg → Hp → List Deferred → Prop} {fn : Fn} {first cap : Array Value} (hfo : evS S fo = some (.func fn first cap))
    (h : ∀ H1, Keep H H1 [] → H1.next = H.next + 2 → H1.t.get H.next = some (.dfr (some [])) → Lp P H1 (H.next + 1) .ready none n S ps.toList asg body H.next →
      ∃ v H2, CallsX P kn lo (.fn fn cap) (first.toList ++ [.func (.yield (H.next + 1)) #[] #[]]) H1 v H2 ∧ ∃ st pe S', Lp P H2 (H.next + 1) st pe n S' ps.toList asg body H.next ∧ st ≠ .busy ∧
        ∀ H3, SetLp H2 (H.next + 1) .exhausted pe H3 → match pe with | none => K .normal S H3 [{ target := .collected H.next, args := #[] }] | some (.exit id) => K (.exit id) S H3 [{ target := .collected H.next, args := #[] }] | some .ret => K .ret S H3 [{ target := .collected H.next, args := #[] }] | _ => False) :
    TriR P kn lo n (.rangeFunc fo ps asg body) S H K := by
  intro A h1 h2 h4 h3
  obtain ⟨v, H2, ⟨N, hc⟩, st, pe, S', ⟨fn', T', hg, hfn, hk⟩, hst, hK⟩ := h ((H.new (.dfr (some []))).new (.lp .ready none A.fn A.n A.T ps.toList asg body H.next))
    ⟨by show H.next ≤ H.next + 1 + 1; omega, fun b hb _ => by simp only [Hp.new, Tr.get_set]; rw [if_neg (by omega), if_neg (by omega)]⟩ rfl (by simp only [Hp.new, Tr.get_set]; rw [if_neg (by omega), if_pos trivial]) ⟨A.fn, A.T, by simp only [Hp.new, Tr.get_set]; rw [if_pos trivial, h1], h4, h3⟩
  have hK := hK _ (setLp_up (st := .exhausted) (pe := pe) hg)
  cases pe with
  | none =>
    refine ⟨.normal, S, _, A.T, _, hK, h3, N + 1, fun f m k hf hm hk => ?_⟩
    obtain ⟨f, rfl⟩ : ∃ g, f = g + 1 := ⟨f - 1, by omega⟩
    have hc' := hc m k (by omega) (by omega)
    rw [runCode]
    simp only [h2, ev_of h3 hfo, hc', hg]
    cases st <;> first | exact absurd rfl hst | rfl
  | some c =>
    cases c <;> simp only at hK
    · refine ⟨.exit _, S, _, A.T, _, hK, h3, N + 1, fun f m k hf hm hk => ?_⟩
      obtain ⟨f, rfl⟩ : ∃ g, f = g + 1 := ⟨f - 1, by omega⟩
      have hc' := hc m k (by omega) (by omega)
      rw [runCode]
      simp only [h2, ev_of h3 hfo, hc', hg]
      cases st <;> first | exact absurd rfl hst | rfl
    · refine ⟨.ret, S, _, A.T, _, hK, h3, N + 1, fun f m k hf hm hk => ?_⟩
      obtain ⟨f, rfl⟩ : ∃ g, f = g + 1 := ⟨f - 1, by omega⟩
      have hc' := hc m k (by omega) (by omega)
      rw [runCode]
      simp only [h2, ev_of h3 hfo, hc', hg]
      cases st <;> first | exact absurd rfl hst | rfl
theorem fnX_of_triR {f : FuncId} {fn : Func} {c : Code} {args : List Value} {H : Hp} {Q : Value → Hp → Prop} (hf : P.funcs[f]? = some fn) (hc : fn.body = some c) (hl : args.length ≤ fn.ntmps)
    (h : TriR P kn lo fn.ntmps c (argS args 0) H fun e S' H' D => (match e with | .normal => True | .ret => True | _ => False) ∧
      ((D = [] ∧ ∃ vs, resS P S' H' fn.results.toList = some vs ∧ Q (retV vs) H') ∨
        ∃ r, D = [{ target := .collected r, args := #[] }] ∧ lo ≤ r ∧ H'.t.get r = some (.dfr (some [])) ∧ ∀ H2, H2.next = H'.next → (∀ b, b ≠ r → H2.t.get b = H'.t.get b) → ∃ vs, resS P S' H2 fn.results.toList = some vs ∧ Q (retV vs) H2)) :
    ∃ v H', FnX P kn lo f args H v H' ∧ Q v H' := by
  obtain ⟨e, S', H', T', D, ⟨he, hcase⟩, hk, N, hr⟩ := h { fn := f, n := fn.ntmps, T := trOf args 0 .nil, defers := [], round := none } rfl rfl (by rw [hf]; rfl) (knows_args args)
  have last : ∀ m k H2 vs, 1 ≤ m → resS P S' H2 fn.results.toList = some vs → unwindV P lo (fun t a H p => evCall P kn m k lo t a H p) fn m { fn := f, n := fn.ntmps, T := T', defers := [], round := none } H2 none = some (.ret (retV vs), H2) := by
    intro m k H2 vs hm hres
    obtain ⟨m', rfl⟩ : ∃ g, m = g + 1 := ⟨m - 1, by omega⟩
    rw [unwindV]
    simp only [res_of (A := { fn := f, n := fn.ntmps, T := T', defers := [], round := none }) hk hres]
    match vs with
    | [] => rfl
    | [v] => rfl
    | v :: u :: r => rfl
  rcases hcase with ⟨rfl, vs, hres, hq⟩ | ⟨r, rfl, hlr, hg, hcase⟩
  · refine ⟨retV vs, H', ⟨N + 1, fun m k hm hk' => ?_⟩, hq⟩
    have hr := hr m m k (by omega) (by omega) (by omega)
    simp only [List.append_nil] at hr
    unfold runFunc
    simp only [hf, hc, Nat.ble_eq_true_of_le hl, cond_true, hr]
    cases e <;> simp only at he <;> simp only [last m k H' vs (by omega) hres]
  · obtain ⟨vs, hres, hq⟩ := hcase { H' with t := H'.t.set r (.dfr none) } rfl fun b hb => by simp only [Tr.get_set]; rw [if_neg hb]
    refine ⟨retV vs, _, ⟨N + 2, fun m k hm hk' => ?_⟩, hq⟩
    have hr := hr m m k (by omega) (by omega) (by omega)
    simp only [List.append_nil] at hr
    have hu : unwindV P lo (fun t a H p => evCall P kn m k lo t a H p) fn m { fn := f, n := fn.ntmps, T := T', defers := [{ target := .collected r, args := #[] }], round := none } H' none = some (.ret (retV vs), { H' with t := H'.t.set r (.dfr none) }) := by
      obtain ⟨m', rfl⟩ : ∃ g, m = g + 2 := ⟨m - 2, by omega⟩
      rw [unwindV]
      simp only [hg, Nat.ble_eq_true_of_le hlr, cond_true, List.nil_append]
      rw [unwindV]
      simp only [res_of (A := { fn := f, n := fn.ntmps, T := T', defers := [], round := none }) hk hres]
      match vs with
      | [] => rfl
      | [v] => rfl
      | v :: u :: r => rfl
    unfold runFunc
    simp only [hf, hc, Nat.ble_eq_true_of_le hl, cond_true, hr]
    cases e <;> simp only at he <;> simp only [hu]
end
end Go.Ax

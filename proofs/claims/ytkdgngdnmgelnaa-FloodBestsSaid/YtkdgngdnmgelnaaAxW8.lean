import Derived.Test.YtkdgngdnmgelnaaAxW7
set_option linter.all false
/-! The evaluator for all inputs, 8: iterators whose loop panics, and functions with a deferred call that recovers. -/
namespace Go.Ax
open Go Go.RowKit
section
variable {P : Program} {kn : FuncId → Option Bool} {lo n : Nat}
theorem yield_okP {H : Hp} {l : Nat} {S S1 : Rg} {ps : List Tmp} {asg body : Code} {r : Nat} {pe : Option Code} {args : List Value} {Q : Bool → Hp → Prop} {Z : Value → Hp → Prop} (hl : Lp P H l .ready pe n S ps asg body r) (hlo : lo ≤ l) (hps : ps.all (fun t => Nat.blt t n) = true) (hb : bindS ps args S = some S1)
    (h : Tri P kn lo n true asg S1 H fun e S2 H1 => (match e with | .normal => True | _ => False) ∧ Lp P H1 l .ready pe n S ps asg body r ∧ ∀ H2, SetLp H1 l .busy pe H2 → Tri P kn lo n true body S2 H2 fun e S3 H3 => Lp P H3 l .busy pe n S ps asg body r ∧
      ((∃ v, e = pan1 v ∧ Z v H3) ∨ (match e with | .normal => ∀ H4, SetLp H3 l .ready none H4 → Q true H4 | .ret => ∀ H4, SetLp H3 l .done (some .ret) H4 → Q false H4 | .exit id => ∀ H4, SetLp H3 l .done (some (.exit id)) H4 → Q false H4 | _ => False))) :
    (∃ b H', CallsX P kn lo (.fn (.yield l) #[]) args H (.bool b) H' ∧ Q b H') ∨ ∃ v H', CallsP P kn lo (.fn (.yield l) #[]) args H v H' ∧ Z v H' := by
  obtain ⟨fn, T, hg, hfn, hk⟩ := hl
  obtain ⟨T1, hT1, hk1⟩ := set_tmps ps args S S1 T hk hb
  obtain ⟨e, S2, H1, T2, ⟨he, hl1, hbody⟩, hk2, N1, r1⟩ := h { fn, n, T := T1, defers := [], round := some l } rfl rfl hk1
  cases e <;> simp only at he
  obtain ⟨fn1, Ta, hg1, hfn1, hka⟩ := hl1
  obtain ⟨e, S3, H3, T3, ⟨hl3, hq⟩, hk3, N2, r2⟩ := hbody _ (setLp_up (st := .busy) (pe := pe) hg1) { fn, n, T := T2, defers := [], round := some l } rfl rfl hk2
  obtain ⟨fn3, Tb, hg3, hfn3, hkb⟩ := hl3
  rcases hq with ⟨v, rfl, hz⟩ | hq
  · right
    refine ⟨v, H3, ⟨N1 + N2 + 1, fun m k hm hk' => ?_⟩, hz⟩
    obtain ⟨k, rfl⟩ : ∃ g, k = g + 1 := ⟨k - 1, by omega⟩
    have r1' := r1 m m k (by omega) (by omega) (by omega)
    have r2' := r2 m m k (by omega) (by omega) (by omega)
    have key : evCall P kn m (k + 1) lo (.fn (.yield l) #[]) args H none = some (.pan v, H3, none) := by
      rw [evYield]
      simp only [hg, hT1, Nat.ble_eq_true_of_le hlo, hfn, hps, Bool.and_true, cond_true, r1', hg1, r2', hg3, pan1]
    unfold callF
    simp only [kcall, key]
  left
  have run : ∀ m k, N1 + N2 + 1 ≤ m → N1 + N2 + 1 ≤ k → ∀ v st' pe', (match e with | .normal => some (En.ret (.bool true), LoopState.ready, (none : Option Code)) | .ret => some (.ret (.bool false), .done, some .ret) | .exit id => some (.ret (.bool false), .done, some (.exit id)) | _ => none) = some (.ret v, st', pe') →
      callF P kn m k lo (.fn (.yield l) #[]) args H = some (.ret v, { H3 with t := H3.t.set l (.lp st' pe' fn3 n Tb ps asg body r) }) := by
    intro m k hm hk' v st' pe' hv
    obtain ⟨k, rfl⟩ : ∃ g, k = g + 1 := ⟨k - 1, by omega⟩
    have r1' := r1 m m k (by omega) (by omega) (by omega)
    have r2' := r2 m m k (by omega) (by omega) (by omega)
    have key : evCall P kn m (k + 1) lo (.fn (.yield l) #[]) args H none = some (.ret v, { H3 with t := H3.t.set l (.lp st' pe' fn3 n Tb ps asg body r) }, none) := by
      rw [evYield]
      simp only [hg, hT1, Nat.ble_eq_true_of_le hlo, hfn, hps, Bool.and_true, cond_true, r1', hg1, r2', hg3]
      cases e <;> simp at hv
      all_goals
        obtain ⟨rfl, rfl, rfl⟩ := hv
        rfl
    unfold callF
    simp only [kcall, key]
  cases e <;> simp only at hq
  · exact ⟨true, _, ⟨N1 + N2 + 1, fun m k hm hk => run m k hm hk _ _ _ rfl⟩, hq _ (setLp_up hg3)⟩
  · exact ⟨false, _, ⟨N1 + N2 + 1, fun m k hm hk => run m k hm hk _ _ _ rfl⟩, hq _ (setLp_up hg3)⟩
  · exact ⟨false, _, ⟨N1 + N2 + 1, fun m k hm hk => run m k hm hk _ _ _ rfl⟩, hq _ (setLp_up hg3)⟩
theorem TriR.rangeP {c : Code} {fo : Operand} {ps : Array Tmp} {asg body : Code} {S : Rg} {H : Hp} {K : Exit → Rg → Hp → List Deferred → Prop} {fn : Fn} {first cap : Array Value} (hc : c = .rangeFunc fo ps asg body) (hfo : evS S fo = some (.func fn first cap))
    (h : ∀ H1, Keep H H1 [] → H1.next = H.next + 2 → H1.t.get H.next = some (.dfr (some [])) → Lp P H1 (H.next + 1) .ready none n S ps.toList asg body H.next →
      (∃ v H2, CallsX P kn lo (.fn fn cap) (first.toList ++ [.func (.yield (H.next + 1)) #[] #[]]) H1 v H2 ∧ ∃ st pe S', Lp P H2 (H.next + 1) st pe n S' ps.toList asg body H.next ∧ st ≠ .busy ∧
        ∀ H3, SetLp H2 (H.next + 1) .exhausted pe H3 → match pe with | none => K .normal S H3 [{ target := .collected H.next, args := #[] }] | some (.exit id) => K (.exit id) S H3 [{ target := .collected H.next, args := #[] }] | some .ret => K .ret S H3 [{ target := .collected H.next, args := #[] }] | _ => False) ∨
      ∃ v H2, CallsP P kn lo (.fn fn cap) (first.toList ++ [.func (.yield (H.next + 1)) #[] #[]]) H1 v H2 ∧ K (pan1 v) S H2 [{ target := .collected H.next, args := #[] }]) :
    TriR P kn lo n c S H K := by
  subst hc
  intro A h1 h2 h4 h3
  rcases h ((H.new (.dfr (some []))).new (.lp .ready none A.fn A.n A.T ps.toList asg body H.next))
    ⟨by show H.next ≤ H.next + 1 + 1; omega, fun b hb _ => by simp only [Hp.new, Tr.get_set]; rw [if_neg (by omega), if_neg (by omega)]⟩ rfl (by simp only [Hp.new, Tr.get_set]; rw [if_neg (by omega), if_pos trivial]) ⟨A.fn, A.T, by simp only [Hp.new, Tr.get_set]; rw [if_pos trivial, h1], h4, h3⟩ with ⟨v, H2, ⟨N, hc⟩, st, pe, S', ⟨fn', T', hg, hfn, hk⟩, hst, hK⟩ | ⟨v, H2, ⟨N, hc⟩, hK⟩
  · have hK := hK _ (setLp_up (st := .exhausted) (pe := pe) hg)
    cases pe with
    | none =>
      refine ⟨.normal, S, _, A.T, _, hK, h3, N + 1, fun f m k hf hm hk => ?_⟩
      obtain ⟨f, rfl⟩ : ∃ g, f = g + 1 := ⟨f - 1, by omega⟩
      have hc' := hc m k (by omega) (by omega)
      rw [runCode]
      simp only [h2, ev_of h3 hfo, hc', hg]
      cases st <;> first | exact absurd rfl hst | rfl
    | some c =>
      cases c <;> simp only at hK
      · refine ⟨.exit _, S, _, A.T, _, hK, h3, N + 1, fun f m k hf hm hk => ?_⟩
        obtain ⟨f, rfl⟩ : ∃ g, f = g + 1 := ⟨f - 1, by omega⟩
        have hc' := hc m k (by omega) (by omega)
        rw [runCode]
        simp only [h2, ev_of h3 hfo, hc', hg]
        cases st <;> first | exact absurd rfl hst | rfl
      · refine ⟨.ret, S, _, A.T, _, hK, h3, N + 1, fun f m k hf hm hk => ?_⟩
        obtain ⟨f, rfl⟩ : ∃ g, f = g + 1 := ⟨f - 1, by omega⟩
        have hc' := hc m k (by omega) (by omega)
        rw [runCode]
        simp only [h2, ev_of h3 hfo, hc', hg]
        cases st <;> first | exact absurd rfl hst | rfl
  · refine ⟨pan1 v, S, _, A.T, _, hK, h3, N + 1, fun f m k hf hm hk => ?_⟩
    obtain ⟨f, rfl⟩ : ∃ g, f = g + 1 := ⟨f - 1, by omega⟩
    have hc' := hc m k (by omega) (by omega)
    rw [runCode]
    simp only [h2, ev_of h3 hfo, hc']
    rfl
theorem TriR.seqRR {c x y : Code} {S : Rg} {H : Hp} {K : Exit → Rg → Hp → List Deferred → Prop} (hc : c = .seq x y) (h : TriR P kn lo n x S H fun e S' H' D => match e with | .normal => TriR P kn lo n y S' H' (fun e S2 H2 D2 => K e S2 H2 (D2 ++ D)) | e => K e S' H' D) : TriR P kn lo n c S H K := by
  subst hc
  intro A h1 h2 h4 h3
  obtain ⟨e, S1, H1, T1, D, a, b, N1, c⟩ := h A h1 h2 h4 h3
  cases e with
  | normal =>
    obtain ⟨e, S', H', T', D2, a', b', N2, c'⟩ := a { A with T := T1, defers := D ++ A.defers } h1 h2 h4 b
    refine ⟨e, S', H', T', D2 ++ D, a', b', N1 + N2 + 1, fun f m k hf hm hk => ?_⟩
    obtain ⟨f, rfl⟩ : ∃ g, f = g + 1 := ⟨f - 1, by omega⟩
    rw [runCode]
    simp only [c f m k (by omega) (by omega) (by omega)]
    rw [List.append_assoc]
    exact c' f m k (by omega) (by omega) (by omega)
  | _ =>
    refine ⟨_, S1, H1, T1, D, a, b, N1 + 1, fun f m k hf hm hk => ?_⟩
    obtain ⟨f, rfl⟩ : ∃ g, f = g + 1 := ⟨f - 1, by omega⟩
    rw [runCode]
    simp only [c f m k (by omega) (by omega) (by omega)]
def DefX (P : Program) (kn : FuncId → Option Bool) (lo : Nat) (g : FuncId) (args : List Value) (H : Hp) (p p' : Par) (H' : Hp) : Prop :=
  ∃ N v, ∀ m k, N ≤ m → N ≤ k → runFunc P lo (callF P kn m k) (fun t a H p => evCall P kn m k lo t a H p) m g args H p = some (.ret v, H', p')
theorem fnX_of_triD {f : FuncId} {fn : Func} {c : Code} {args : List Value} {H : Hp} {Q : Value → Hp → Prop} (hf : P.funcs[f]? = some fn) (hc : fn.body = some c) (hl : args.length ≤ fn.ntmps)
    (h : TriR P kn lo fn.ntmps c (argS args 0) H fun e S' H' D => ∃ r g cap, D = [{ target := .collected r, args := #[] }, { target := .fn (.func g) cap, args := #[] }] ∧ lo ≤ r ∧ H'.t.get r = some (.dfr (some [])) ∧
      ∀ H2, H2.next = H'.next → (∀ b, b ≠ r → H2.t.get b = H'.t.get b) →
        (((e = .normal ∨ e = .ret) ∧ ∃ H3, DefX P kn lo g cap.toList H2 none none H3 ∧ ∃ vs, resS P S' H3 fn.results.toList = some vs ∧ Q (retV vs) H3) ∨
          ∃ v, e = pan1 v ∧ ∃ H3, DefX P kn lo g cap.toList H2 (some (v, false)) (some (v, true)) H3 ∧ ∃ vs, resS P S' H3 fn.results.toList = some vs ∧ Q (retV vs) H3)) :
    ∃ v H', FnX P kn lo f args H v H' ∧ Q v H' := by
  obtain ⟨e, S', H', T', D, ⟨r, g, cap, rfl, hlr, hg, hcase⟩, hk, N, hr⟩ := h { fn := f, n := fn.ntmps, T := trOf args 0 .nil, defers := [], round := none } rfl rfl (by rw [hf]; rfl) (knows_args args)
  have last : ∀ D m H2 vs, 1 ≤ m → resS P S' H2 fn.results.toList = some vs → unwindV P lo D fn m { fn := f, n := fn.ntmps, T := T', defers := [], round := none } H2 none = some (.ret (retV vs), H2) := by
    intro D m H2 vs hm hres
    obtain ⟨m', rfl⟩ : ∃ g, m = g + 1 := ⟨m - 1, by omega⟩
    rw [unwindV]
    simp only [res_of (A := { fn := f, n := fn.ntmps, T := T', defers := [], round := none }) hk hres]
    match vs with
    | [] => rfl
    | [v] => rfl
    | v :: u :: r => rfl
  have hcase := hcase { H' with t := H'.t.set r (.dfr none) } rfl fun b hb => by simp only [Tr.get_set]; rw [if_neg hb]
  have unw : ∀ (pm pm' : Par) (N2 : Nat) (dv : Value) (H3 : Hp) (vs : List Value) (m k : Nat), N2 + 3 ≤ m → N2 + 3 ≤ k → (match pm' with | some (_, true) => none | m' => m') = none →
      (∀ m k, N2 ≤ m → N2 ≤ k → runFunc P lo (callF P kn m k) (fun t a H p => evCall P kn m k lo t a H p) m g cap.toList { H' with t := H'.t.set r (.dfr none) } pm = some (.ret dv, H3, pm')) → resS P S' H3 fn.results.toList = some vs →
      unwindV P lo (fun t a H p => evCall P kn m k lo t a H p) fn m { fn := f, n := fn.ntmps, T := T', defers := [{ target := .collected r, args := #[] }, { target := .fn (.func g) cap, args := #[] }], round := none } H' pm = some (.ret (retV vs), H3) := by
    intro pm pm' N2 dv H3 vs m k hm hk2 hp hd hres
    have hev : evCall P kn m k lo (.fn (.func g) cap) [] { H' with t := H'.t.set r (.dfr none) } pm = some (.ret dv, H3, pm') := by
      obtain ⟨k, rfl⟩ : ∃ g, k = g + 1 := ⟨k - 1, by omega⟩
      have := hd m k (by omega) (by omega)
      rw [← this]
      simp only [evCall, List.nil_append]
      rfl
    obtain ⟨m', rfl⟩ : ∃ g, m = g + 3 := ⟨m - 3, by omega⟩
    rw [unwindV.eq_def]
    simp only [hg, Nat.ble_eq_true_of_le hlr, cond_true, List.nil_append]
    rw [unwindV.eq_def]
    simp only [hev]
    have key : ∀ q : Par, q = none → unwindV P lo (fun t a H p => evCall P kn (m' + 3) k lo t a H p) fn (m' + 1) { fn := f, n := fn.ntmps, T := T', defers := [], round := none } H3 q = some (.ret (retV vs), H3) := fun q hq => by
      subst hq
      exact last _ _ _ _ (by omega) hres
    exact key _ hp
  rcases hcase with ⟨he, H3, ⟨N2, dv, hd⟩, vs, hres, hq⟩ | ⟨v, rfl, H3, ⟨N2, dv, hd⟩, vs, hres, hq⟩
  · refine ⟨retV vs, H3, ⟨N + N2 + 3, fun m k hm hk' => ?_⟩, hq⟩
    have hr := hr m m k (by omega) (by omega) (by omega)
    simp only [List.append_nil] at hr
    have hu := unw none none N2 dv H3 vs m k (by omega) (by omega) rfl hd hres
    unfold runFunc
    simp only [hf, hc, Nat.ble_eq_true_of_le hl, cond_true, hr]
    rcases he with rfl | rfl <;> simp only [hu]
  · refine ⟨retV vs, H3, ⟨N + N2 + 3, fun m k hm hk' => ?_⟩, hq⟩
    have hr := hr m m k (by omega) (by omega) (by omega)
    simp only [List.append_nil] at hr
    have hu := unw (some (v, false)) (some (v, true)) N2 dv H3 vs m k (by omega) (by omega) rfl hd hres
    unfold runFunc
    simp only [hf, hc, Nat.ble_eq_true_of_le hl, cond_true, hr, pan1, hu]
/-! Deferred functions, which may recover. -/
def TriQ (P : Program) (kn : FuncId → Option Bool) (lo n : Nat) (c : Code) (S : Rg) (H : Hp) (p : Par) (K : Exit → Rg → Hp → Par → Prop) : Prop :=
  ∀ A : Fr, A.n = n → A.round = none → Knows S A.T →
    ∃ e S' H' T' p', K e S' H' p' ∧ Knows S' T' ∧ ∃ N, ∀ f m k, N ≤ f → N ≤ m → N ≤ k → runCode P lo (callF P kn m k) f c A H p = some (e, { A with T := T' }, H', p')
theorem TriQ.seq {c x y : Code} {S : Rg} {H : Hp} {p : Par} {K : Exit → Rg → Hp → Par → Prop} (hc : c = .seq x y) (h : TriQ P kn lo n x S H p fun e S' H' p' => match e with | .normal => TriQ P kn lo n y S' H' p' K | e => K e S' H' p') : TriQ P kn lo n c S H p K := by
  subst hc
  intro A h1 h2 h3
  obtain ⟨e, S1, H1, T1, p1, a, b, N1, c⟩ := h A h1 h2 h3
  cases e with
  | normal =>
    obtain ⟨e, S', H', T', p', a', b', N2, c'⟩ := a { A with T := T1 } h1 h2 b
    refine ⟨e, S', H', T', p', a', b', N1 + N2 + 1, fun f m k hf hm hk => ?_⟩
    obtain ⟨f, rfl⟩ : ∃ g, f = g + 1 := ⟨f - 1, by omega⟩
    rw [runCode]
    simp only [c f m k (by omega) (by omega) (by omega)]
    exact c' f m k (by omega) (by omega) (by omega)
  | _ =>
    refine ⟨_, S1, H1, T1, p1, a, b, N1 + 1, fun f m k hf hm hk => ?_⟩
    obtain ⟨f, rfl⟩ : ∃ g, f = g + 1 := ⟨f - 1, by omega⟩
    rw [runCode]
    simp only [c f m k (by omega) (by omega) (by omega)]
theorem TriQ.cond {c : Code} {o : Operand} {x y : Code} {S : Rg} {H : Hp} {p : Par} {K : Exit → Rg → Hp → Par → Prop} {t : Bool} (hc : c = .cond o x y) (ht : evS S o = some (.bool t)) (hx : t = true → TriQ P kn lo n x S H p K) (hy : t = false → TriQ P kn lo n y S H p K) : TriQ P kn lo n c S H p K := by
  subst hc
  intro A h1 h2 h3
  cases t with
  | true =>
    obtain ⟨e, S', H', T', p', a, q, N, r⟩ := hx rfl A h1 h2 h3
    refine ⟨e, S', H', T', p', a, q, N + 1, fun f m k hf hm hk => ?_⟩
    obtain ⟨f, rfl⟩ : ∃ g, f = g + 1 := ⟨f - 1, by omega⟩
    rw [runCode]
    simp only [ev_of h3 ht]
    exact r f m k (by omega) (by omega) (by omega)
  | false =>
    obtain ⟨e, S', H', T', p', a, q, N, r⟩ := hy rfl A h1 h2 h3
    refine ⟨e, S', H', T', p', a, q, N + 1, fun f m k hf hm hk => ?_⟩
    obtain ⟨f, rfl⟩ : ∃ g, f = g + 1 := ⟨f - 1, by omega⟩
    rw [runCode]
    simp only [ev_of h3 ht]
    exact r f m k (by omega) (by omega) (by omega)
theorem TriQ.skip {c : Code} {S : Rg} {H : Hp} {p : Par} {K : Exit → Rg → Hp → Par → Prop} (hc : c = .skip) (h : K .normal S H p) : TriQ P kn lo n c S H p K := by
  subst hc
  intro A h1 h2 h3
  refine ⟨.normal, S, H, A.T, p, h, h3, 1, fun f m k hf hm hk => ?_⟩
  obtain ⟨f, rfl⟩ : ∃ g, f = g + 1 := ⟨f - 1, by omega⟩
  rfl
inductive RQ where
  | ro (o : RO)
  | rcv (d : Option Nat)
def lowRQ (P : Program) (n : Nat) (ops : List Oper) (o : Oper) : Option RQ :=
  match o.op, o.guard with
  | .call { callee := .builtin .recover, args := ⟨[]⟩, .. }, none => bif (match o.dst with | none => true | some d => Nat.ble (d + 1) n) then some (.rcv o.dst) else none
  | _, _ => match lowRO P n ops true o with | some r => some (.ro r) | none => none
def lowRQs (P : Program) (n : Nat) (ops : List Oper) : List Oper → Option (List RQ)
  | [] => some []
  | o :: r => match lowRQ P n ops o with
    | none => none
    | some x => match lowRQs P n ops r with | none => none | some l => some (x :: l)
def wOpsQ (P : Program) (kn : FuncId → Option Bool) (lo n : Nat) : List RQ → Rg → Hp → Par → (Rg → Hp → Par → Prop) → Prop
  | [], S, H, p, K => K S H p
  | .ro o :: r, S, H, p, K => wRO P kn lo n S H o fun S' H' _ => wOpsQ P kn lo n r S' H' p K
  | .rcv d :: r, S, H, p, K => match p with
    | some (v, false) => wOpsQ P kn lo n r (putS S d v) H (some (v, true)) K
    | p => wOpsQ P kn lo n r (putS S d .nilIface) H p K
theorem wOpsQ_sound {ops : Array Oper} : ∀ (rest pre : List Oper) {rl : List RQ} {A : Fr} {S : Rg} {H : Hp} {p : Par} {K : Rg → Hp → Par → Prop}, ops.toList = pre ++ rest → lowRQs P n ops.toList rest = some rl → Knows S A.T → A.n = n → A.round = none → wOpsQ P kn lo n rl S H p K →
    ∃ S' H' T' p', K S' H' p' ∧ Knows S' T' ∧ ∃ N, ∀ m k, N ≤ m → N ≤ k → runOps P lo (callF P kn m k) ops (List.range' pre.length rest.length) A H p = some (.normal, { A with T := T' }, H', p')
  | [], pre, rl, A, S, H, p, K, he, hl, hA, hn, hr, h => by
    simp only [lowRQs] at hl; cases hl
    exact ⟨S, H, A.T, p, h, hA, 0, fun m k _ _ => rfl⟩
  | o :: rest, pre, rl, A, S, H, p, K, he, hl, hA, hn, hr, h => by
    simp only [lowRQs] at hl
    split at hl <;> first | (cases hl; done) | skip
    rename_i rp hrp
    split at hl <;> first | (cases hl; done) | skip
    rename_i l hrest
    cases hl
    have ho : ops[pre.length]? = some o := by
      have : ops.toList[pre.length]? = some o := by rw [he]; simp
      simpa using this
    have he2 : ops.toList = (pre ++ [o]) ++ rest := by rw [he]; simp
    have ih := fun {A' : Fr} {S' : Rg} {H' : Hp} {p' : Par} (hA' : Knows S' A'.T) (hn' : A'.n = n) (hr' : A'.round = none) (h' : wOpsQ P kn lo n l S' H' p' K) => wOpsQ_sound rest (pre ++ [o]) (rl := l) he2 hrest hA' hn' hr' h'
    simp only [List.length_append, List.length_singleton] at ih
    have hrg : List.range' pre.length (o :: rest).length = pre.length :: List.range' (pre.length + 1) rest.length := by simp [List.range']
    rw [hrg]
    unfold lowRQ at hrp
    split at hrp
    · rename_i ts hop hg
      obtain ⟨hdst, hrp⟩ := bif_some hrp
      cases hrp
      have hw : wantedA ops A o = some true := by unfold wantedA; rw [hg]
      have ea : aOp P lo A H o = some (.recov, .full) := by
        have : pureOp P A o = none := by unfold pureOp; rw [hop]; rfl
        unfold aOp; rw [this]; unfold heapOp; rw [hop]; rfl
      have hput := fun v => put_ok (A := A) (d := o.dst) (by rw [hn]; exact hdst) v
      by_cases hp : ∃ v, p = some (v, false)
      · obtain ⟨v, rfl⟩ := hp
        obtain ⟨S', H', T', p', a, b, N, c⟩ := ih (A' := { A with T := putTr A.T o.dst v }) (knows_put hA o.dst v) hn hr h
        refine ⟨S', H', T', p', a, b, N, fun m k hm hk => ?_⟩
        rw [runOps]
        simp only [ho, hw, ea, hr, hput]
        have := c m k hm hk
        simp only [hr] at this
        exact this
      · have h' : wOpsQ P kn lo n l (putS S o.dst .nilIface) H p K := by
          match p, hp, h with
          | none, _, h => exact h
          | some (v, true), _, h => exact h
          | some (v, false), hp, _ => exact absurd ⟨v, rfl⟩ hp
        obtain ⟨S', H', T', p', a, b, N, c⟩ := ih (A' := { A with T := putTr A.T o.dst .nilIface }) (knows_put hA o.dst .nilIface) hn hr h'
        refine ⟨S', H', T', p', a, b, N, fun m k hm hk => ?_⟩
        have := c m k hm hk
        simp only [hr] at this
        rw [runOps]
        simp only [ho, hw, ea, hr, hput]
        match p, hp with
        | none, _ => exact this
        | some (v, true), _ => exact this
        | some (v, false), hp => exact absurd ⟨v, rfl⟩ hp
    · split at hrp <;> first | (cases hrp; done) | skip
      rename_i ro hro
      cases hrp
      simp only [wOpsQ] at h
      obtain ⟨hput, hcase⟩ := wRO_sound hro hA hn h
      rcases hcase with ⟨hw, h⟩ | ⟨hw, hdone⟩
      · obtain ⟨S', H', T', p', a, b, N, c⟩ := ih (A' := { A with T := putTr A.T o.dst undef }) (knows_put hA o.dst undef) hn hr h
        refine ⟨S', H', T', p', a, b, N, fun m k hm hk => ?_⟩
        rw [runOps]
        simp only [ho, hw, hput]
        exact c m k hm hk
      · rcases hdone with ⟨v, H1, kd, e1, _, h⟩ | ⟨H1, kd, e1, h⟩ | ⟨t, vs, v, H1, e1, _, ⟨N1, hc⟩, h⟩ | ⟨_, _, _, _, _, _, hf, _⟩
        rotate_right
        · cases hf
        · obtain ⟨S', H', T', p', a, b, N, c⟩ := ih (A' := { A with T := putTr A.T o.dst v }) (knows_put hA o.dst v) hn hr h
          refine ⟨S', H', T', p', a, b, N, fun m k hm hk => ?_⟩
          rw [runOps]
          simp only [ho, hw, e1, hput]
          exact c m k hm hk
        · obtain ⟨S', H', T', p', a, b, N, c⟩ := ih (A' := { A with T := putTr A.T o.dst undef }) (knows_put hA o.dst undef) hn hr h
          refine ⟨S', H', T', p', a, b, N, fun m k hm hk => ?_⟩
          rw [runOps]
          simp only [ho, hw, e1, hput]
          exact c m k hm hk
        · obtain ⟨S', H', T', p', a, b, N, c⟩ := ih (A' := { A with T := putTr A.T o.dst v }) (knows_put hA o.dst v) hn hr h
          refine ⟨S', H', T', p', a, b, N + N1, fun m k hm hk => ?_⟩
          rw [runOps]
          have := hc m k (by omega) (by omega)
          simp only [cond_true] at this
          simp only [ho, hw, e1, this, hput]
          exact c m k (by omega) (by omega)
theorem TriQ.reg {c : Code} {id : Nat} {ops : Array Oper} {rl : List RQ} {S : Rg} {H : Hp} {p : Par} {K : Exit → Rg → Hp → Par → Prop} (hc : c = .region id ops false) (hl : lowRQs P n ops.toList ops.toList = some rl) (h : wOpsQ P kn lo n rl S H p fun S' H' p' => K .normal S' H' p') : TriQ P kn lo n c S H p K := by
  subst hc
  intro A h1 h2 h3
  obtain ⟨S', H', T', p', a, b, N, r⟩ := wOpsQ_sound (ops := ops) (A := A) ops.toList [] (by simp) hl h3 h1 h2 h
  refine ⟨.normal, S', H', T', p', a, b, N + 1, fun f m k hf hm hk => ?_⟩
  obtain ⟨f, rfl⟩ : ∃ g, f = g + 1 := ⟨f - 1, by omega⟩
  rw [runCode]
  have := r m k (by omega) (by omega)
  simp only [List.length_nil] at this
  simp only [cond_false, List.range_eq_range']
  simpa using this
theorem defX_of {g : FuncId} {fn : Func} {c : Code} {args : List Value} {H : Hp} {p p' : Par} {Q : Hp → Prop} (hf : P.funcs[g]? = some fn) (hc : fn.body = some c) (hl : args.length ≤ fn.ntmps) (hres : fn.results.toList = [])
    (h : TriQ P kn lo fn.ntmps c (argS args 0) H p fun e S' H' q => (e = .normal ∨ e = .ret) ∧ q = p' ∧ Q H') : ∃ H', DefX P kn lo g args H p p' H' ∧ Q H' := by
  obtain ⟨e, S', H', T', q, ⟨he, rfl, hq⟩, hk, N, hr⟩ := h { fn := g, n := fn.ntmps, T := trOf args 0 .nil, defers := [], round := none } rfl rfl (knows_args args)
  refine ⟨H', ⟨N + 1, retV [], fun m k hm hk' => ?_⟩, hq⟩
  have hr := hr m m k (by omega) (by omega) (by omega)
  obtain ⟨m', rfl⟩ : ∃ g, m = g + 1 := ⟨m - 1, by omega⟩
  have hu : unwindV P lo (fun t a H p => evCall P kn (m' + 1) k lo t a H p) fn (m' + 1) { fn := g, n := fn.ntmps, T := T', defers := [], round := none } H' none = some (.ret (retV []), H') := by
    rw [unwindV]
    simp only [hres, resultsV]
    rfl
  unfold runFunc
  simp only [hf, hc, Nat.ble_eq_true_of_le hl, cond_true, hr]
  rcases he with rfl | rfl <;> simp only [hu]
end
end Go.Ax

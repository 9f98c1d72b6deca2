import Derived.Test.YtkdgngdnmgelnaaAxW6
set_option linter.all false
/-! The evaluator for all inputs, 7: panics, and deferred calls. -/
namespace Go.Ax
open Go Go.RowKit
def pan1 (v : Value) : Exit := .panic [{ v, recovered := false }]
section
variable {P : Program} {kn : FuncId → Option Bool} {lo n : Nat} {rd : Bool}
def CallsP (P : Program) (kn : FuncId → Option Bool) (lo : Nat) (t : Target) (args : List Value) (H : Hp) (v : Value) (H' : Hp) : Prop :=
  ∃ N, ∀ m k, N ≤ m → N ≤ k → callF P kn m k lo t args H = some (.pan v, H')
def FnP (P : Program) (kn : FuncId → Option Bool) (lo : Nat) (f : FuncId) (args : List Value) (H : Hp) (v : Value) (H' : Hp) : Prop :=
  ∃ N, ∀ m k, N ≤ m → N ≤ k → runFunc P lo (callF P kn m k) (fun t a H p => evCall P kn m k lo t a H p) m f args H none = some (.pan v, H', none)
theorem callP_func {f : FuncId} {cap : Array Value} {args : List Value} {H : Hp} {v : Value} {H' : Hp} (hk : kcall kn (.fn (.func f) cap) args = none) (h : FnP P kn lo f (args ++ cap.toList) H v H') : CallsP P kn lo (.fn (.func f) cap) args H v H' := by
  obtain ⟨N, h⟩ := h
  refine ⟨N + 1, fun m k hm hk' => ?_⟩
  obtain ⟨k, rfl⟩ : ∃ g, k = g + 1 := ⟨k - 1, by omega⟩
  have := h m k (by omega) (by omega)
  have e : evCall P kn m (k + 1) lo (.fn (.func f) cap) args H none = some (.pan v, H', none) := this
  unfold callF
  simp only [hk, e]
theorem callP_args {f : FuncId} {args : List Value} {a : Value} {H : Hp} {v : Value} {H' : Hp} (h : FnP P kn lo f (a :: args) H v H') : CallsP P kn lo (.fn (.func f) #[]) (a :: args) H v H' :=
  callP_func rfl (by simpa using h)
inductive RP where
  | ro (o : RO)
  | pan (x : Operand)
  | dfr (d : Option Nat) (c : Call)
def lowRP (P : Program) (n : Nat) (ops : List Oper) (o : Oper) : Option RP :=
  match o.op, o.guard with
  | .panic x, none => some (.pan x)
  | .defer c, none => match c.callee with
    | .builtin _ => none
    | _ => bif (match o.dst with | none => true | some d => Nat.ble (d + 1) n) then some (.dfr o.dst c) else none
  | _, _ => match lowRO P n ops true o with | some r => some (.ro r) | none => none
def lowRPs (P : Program) (n : Nat) (ops : List Oper) : List Oper → Option (List RP)
  | [] => some []
  | o :: r => match lowRP P n ops o with
    | none => none
    | some x => match lowRPs P n ops r with | none => none | some l => some (x :: l)
def wPan (P : Program) (kn : FuncId → Option Bool) (lo : Nat) (S : Rg) (H : Hp) (o : RO) (K : Value → Hp → Prop) : Prop :=
  match o.guard, o.ri with
  | none, .call c true => match targetS S c with
    | some (t, vs) => ∃ v H', CallsP P kn lo t vs H v H' ∧ K v H'
    | none => False
  | _, _ => False
def wOpsP (P : Program) (kn : FuncId → Option Bool) (lo n : Nat) (rd : Bool) : List RP → Rg → Hp → List Deferred → (Exit → Rg → Hp → List Deferred → Prop) → Prop
  | [], S, H, D, K => K .normal S H D
  | .ro o :: r, S, H, D, K => (wRO P kn lo n S H o fun S' H' _ => wOpsP P kn lo n rd r S' H' D K) ∨ wPan P kn lo S H o fun v H' => K (pan1 v) S H' D
  | .pan x :: _, S, H, D, K => match evS S x with
    | some (.iface t v) => K (pan1 (.iface t v)) S H D
    | _ => False
  | .dfr d c :: r, S, H, D, K => rd = false ∧ match targetS S c with
    | some (t, vs) => wOpsP P kn lo n rd r (putS S d undef) H ({ target := t, args := vs.toArray } :: D) K
    | none => False
theorem low_call {ops : List Oper} {ord ord' : Bool} {o : Oper} {c : Call} (h : lowRI P ops ord o = some (.call c ord')) : o.op = .call c ∧ ∀ b, c.callee ≠ .builtin b := by
  unfold lowRI at h
  split at h <;> rename_i hop <;> (repeat' (first | (cases h; done) | (unfold cond at h) | (split at h)))
  all_goals first
    | (cases h; done)
    | (injection h with h; injection h with h1 h2; subst h1; refine ⟨hop, fun b e => ?_⟩; simp_all; done)
    | skip
theorem wPan_sound {ops : Array Oper} {A : Fr} {S : Rg} {H : Hp} {K : Value → Hp → Prop} {o : Oper} {ro : RO} (hl : lowRO P n ops.toList true o = some ro) (hA : Knows S A.T) (h : wPan P kn lo S H ro K) :
    wantedA ops A o = some true ∧ ∃ t vs v H', aOp P lo A H o = some (.call t vs, .full) ∧ CallsP P kn lo t vs H v H' ∧ K v H' := by
  unfold lowRO at hl
  split at hl <;> first | (cases hl; done) | skip
  rename_i ri hri
  obtain ⟨hd, hl⟩ := bif_some hl
  unfold wPan at h
  split at h <;> first | exact h.elim | skip
  rename_i c hg hc
  split at h <;> first | exact h.elim | skip
  rename_i t vs ht
  have hgo : o.guard = none := by
    split at hl
    · rename_i e; exact e
    · split at hl <;> first | (cases hl; done) | skip
      split at hl <;> first | (cases hl; done) | skip
      cases hl; cases hg
  rw [hgo] at hl
  simp only [Option.some.injEq] at hl
  subst hl
  simp only at hc
  subst hc
  obtain ⟨hop, hb⟩ := low_call hri
  obtain ⟨v, H', hcall, hk⟩ := h
  refine ⟨by unfold wantedA; rw [hgo], t, vs, v, H', ?_, hcall, hk⟩
  have e : pureOp P A o = none := by
    unfold pureOp; rw [hop]
    cases hcal : c.callee with
    | builtin b => exact absurd hcal (hb b)
    | _ => simp only [hcal]
  unfold aOp
  rw [e]
  unfold heapOp
  rw [hop]
  cases hcal : c.callee with
  | builtin b => exact absurd hcal (hb b)
  | _ => simp only [hcal, target_of hA ht]
theorem wOpsP_sound {ops : Array Oper} : ∀ (rest pre : List Oper) {rl : List RP} {A : Fr} {S : Rg} {H : Hp} {D ds : List Deferred} {K : Exit → Rg → Hp → List Deferred → Prop}, ops.toList = pre ++ rest → lowRPs P n ops.toList rest = some rl → Knows S A.T → A.n = n → A.round.isSome = rd → A.defers = D ++ ds → wOpsP P kn lo n rd rl S H D K →
    ∃ e S' H' T' D', K e S' H' D' ∧ Knows S' T' ∧ ∃ N, ∀ m k, N ≤ m → N ≤ k → runOps P lo (callF P kn m k) ops (List.range' pre.length rest.length) A H none = some (e, { A with T := T', defers := D' ++ ds }, H', none)
  | [], pre, rl, A, S, H, D, ds, K, he, hl, hA, hn, hr, hd, h => by
    simp only [lowRPs] at hl; cases hl
    refine ⟨.normal, S, H, A.T, D, h, hA, 0, fun m k _ _ => ?_⟩
    rw [← hd]; rfl
  | o :: rest, pre, rl, A, S, H, D, ds, K, he, hl, hA, hn, hr, hd, h => by
    simp only [lowRPs] at hl
    split at hl <;> first | (cases hl; done) | skip
    rename_i rp hrp
    split at hl <;> first | (cases hl; done) | skip
    rename_i l hrest
    cases hl
    have ho : ops[pre.length]? = some o := by
      have : ops.toList[pre.length]? = some o := by rw [he]; simp
      simpa using this
    have he2 : ops.toList = (pre ++ [o]) ++ rest := by rw [he]; simp
    have ih := fun {A' : Fr} {S' : Rg} {H' : Hp} {D' : List Deferred} (hA' : Knows S' A'.T) (hn' : A'.n = n) (hr' : A'.round.isSome = rd) (hd' : A'.defers = D' ++ ds) (h' : wOpsP P kn lo n rd l S' H' D' K) => wOpsP_sound rest (pre ++ [o]) (rl := l) he2 hrest hA' hn' hr' hd' h'
    simp only [List.length_append, List.length_singleton] at ih
    have hrg : List.range' pre.length (o :: rest).length = pre.length :: List.range' (pre.length + 1) rest.length := by simp [List.range']
    rw [hrg]
    unfold lowRP at hrp
    split at hrp
    · rename_i x hop hg
      cases hrp
      simp only [wOpsP] at h
      split at h <;> first | exact h.elim | skip
      rename_i t v hx
      have hw : wantedA ops A o = some true := by unfold wantedA; rw [hg]
      have ea : aOp P lo A H o = some (.pan (.iface t v), .full) := by
        have : pureOp P A o = none := by unfold pureOp; rw [hop]
        unfold aOp; rw [this]; unfold heapOp; rw [hop]; simp only [ev_of hA hx]
      refine ⟨_, S, H, A.T, D, h, hA, 0, fun m k _ _ => ?_⟩
      rw [runOps]
      simp only [ho, hw, ea]
      rw [← hd]; rfl
    · rename_i c hop hg
      split at hrp <;> first | (cases hrp; done) | skip
      rename_i hb
      obtain ⟨hdst, hrp⟩ := bif_some hrp
      cases hrp
      simp only [wOpsP] at h
      obtain ⟨rfl, h⟩ := h
      split at h <;> first | exact h.elim | skip
      rename_i t vs ht
      have hw : wantedA ops A o = some true := by unfold wantedA; rw [hg]
      have ea : aOp P lo A H o = some (.dfr { target := t, args := vs.toArray }, .full) := by
        have : pureOp P A o = none := by unfold pureOp; rw [hop]
        unfold aOp; rw [this]; unfold heapOp; rw [hop]
        cases hcal : c.callee with
        | builtin b => exact absurd hcal (hb b)
        | _ => simp only [hcal, target_of hA ht]
      have hrn : A.round = none := by cases hq : A.round with | none => rfl | some x => rw [hq] at hr; cases hr
      have hput := put_ok (A := ({ fn := A.fn, n := A.n, T := A.T, defers := { target := t, args := vs.toArray } :: A.defers, round := none } : Fr)) (d := o.dst) (by rw [show ({ fn := A.fn, n := A.n, T := A.T, defers := { target := t, args := vs.toArray } :: A.defers, round := none } : Fr).n = n from hn]; exact hdst) undef
      obtain ⟨e, S', H', T', D', a, b, N, c'⟩ := ih (A' := { A with T := putTr A.T o.dst undef, defers := { target := t, args := vs.toArray } :: A.defers }) (knows_put hA o.dst undef) hn hr (by simp only [hd]; rfl) h
      refine ⟨e, S', H', T', D', a, b, N, fun m k hm hk => ?_⟩
      rw [runOps]
      simp only [ho, hw, ea, hrn, hput]
      have := c' m k hm hk
      simp only [hrn] at this
      exact this
    · rename_i hx1 hx2
      split at hrp <;> first | (cases hrp; done) | skip
      rename_i ro hro
      cases hrp
      simp only [wOpsP] at h
      rcases h with h | h
      · obtain ⟨hput, hcase⟩ := wRO_sound hro hA hn h
        rcases hcase with ⟨hw, h⟩ | ⟨hw, hdone⟩
        · obtain ⟨e, S', H', T', D', a, b, N, c⟩ := ih (A' := { A with T := putTr A.T o.dst undef }) (knows_put hA o.dst undef) hn hr hd h
          refine ⟨e, S', H', T', D', a, b, N, fun m k hm hk => ?_⟩
          rw [runOps]
          simp only [ho, hw, hput]
          exact c m k hm hk
        · rcases hdone with ⟨v, H1, kd, e1, _, h⟩ | ⟨H1, kd, e1, h⟩ | ⟨t, vs, v, H1, e1, _, ⟨N1, hc⟩, h⟩ | ⟨_, _, _, _, _, _, hf, _⟩
          rotate_right
          · cases hf
          · obtain ⟨e, S', H', T', D', a, b, N, c⟩ := ih (A' := { A with T := putTr A.T o.dst v }) (knows_put hA o.dst v) hn hr hd h
            refine ⟨e, S', H', T', D', a, b, N, fun m k hm hk => ?_⟩
            rw [runOps]
            simp only [ho, hw, e1, hput]
            exact c m k hm hk
          · obtain ⟨e, S', H', T', D', a, b, N, c⟩ := ih (A' := { A with T := putTr A.T o.dst undef }) (knows_put hA o.dst undef) hn hr hd h
            refine ⟨e, S', H', T', D', a, b, N, fun m k hm hk => ?_⟩
            rw [runOps]
            simp only [ho, hw, e1, hput]
            exact c m k hm hk
          · obtain ⟨e, S', H', T', D', a, b, N, c⟩ := ih (A' := { A with T := putTr A.T o.dst v }) (knows_put hA o.dst v) hn hr hd h
            refine ⟨e, S', H', T', D', a, b, N + N1, fun m k hm hk => ?_⟩
            rw [runOps]
            have := hc m k (by omega) (by omega)
            simp only [cond_true] at this
            simp only [ho, hw, e1, this, hput]
            exact c m k (by omega) (by omega)
      · obtain ⟨hw, t, vs, v, H', e1, ⟨N1, hc⟩, hk⟩ := wPan_sound hro hA h
        refine ⟨_, S, H', A.T, D, hk, hA, N1, fun m k hm hk' => ?_⟩
        rw [runOps]
        simp only [ho, hw, e1, hc m k hm hk']
        rw [← hd]; rfl
theorem triR_reg {c : Code} {id : Nat} {ops : Array Oper} {rl : List RP} {S : Rg} {H : Hp} {K : Exit → Rg → Hp → List Deferred → Prop} (hc : c = .region id ops false) (hl : lowRPs P n ops.toList ops.toList = some rl) (h : wOpsP P kn lo n false rl S H [] K) : TriR P kn lo n c S H K := by
  subst hc
  intro A h1 h2 h4 h3
  obtain ⟨e, S', H', T', D', a, b, N, r⟩ := wOpsP_sound (ops := ops) (rd := false) (A := A) (ds := A.defers) (D := []) ops.toList [] (by simp) hl h3 h1 (by rw [h2]; rfl) rfl h
  refine ⟨e, S', H', T', D', a, b, N + 1, fun f m k hf hm hk => ?_⟩
  obtain ⟨f, rfl⟩ : ∃ g, f = g + 1 := ⟨f - 1, by omega⟩
  rw [runCode]
  have := r m k (by omega) (by omega)
  simp only [List.length_nil] at this
  simp only [cond_false, List.range_eq_range']
  simpa using this
theorem tri_reg {c : Code} {id : Nat} {ops : Array Oper} {rl : List RP} {S : Rg} {H : Hp} {K : Exit → Rg → Hp → Prop} (hc : c = .region id ops false) (hl : lowRPs P n ops.toList ops.toList = some rl) (h : wOpsP P kn lo n rd rl S H [] fun e S' H' D => D = [] ∧ K e S' H') : Tri P kn lo n rd c S H K := by
  subst hc
  intro A h1 h2 h3
  obtain ⟨e, S', H', T', D', ⟨rfl, a⟩, b, N, r⟩ := wOpsP_sound (ops := ops) (rd := rd) (A := A) (ds := A.defers) (D := []) ops.toList [] (by simp) hl h3 h1 h2 rfl h
  refine ⟨e, S', H', T', a, b, N + 1, fun f m k hf hm hk => ?_⟩
  obtain ⟨f, rfl⟩ : ∃ g, f = g + 1 := ⟨f - 1, by omega⟩
  rw [runCode]
  have := r m k (by omega) (by omega)
  simp only [List.length_nil] at this
  simp only [cond_false, List.range_eq_range']
  simpa using this
inductive LV (P : Program) (n : Nat) : Code → RC → Prop
  | low {c : Code} {r : RC} : Go.Ax.low P n c = some r → LV P n c r
  | other (c : Code) : LV P n c (.other c)
  | seq {x y : Code} {a b : RC} : LV P n x a → LV P n y b → LV P n (.seq x y) (.seq a b)
  | block (id : Nat) {x : Code} {a : RC} : LV P n x a → LV P n (.block id x) (.block id a)
  | cond (o : Operand) {x y : Code} {a b : RC} : LV P n x a → LV P n y b → LV P n (.cond o x y) (.cond o a b)
theorem Tri.blockV {id : Nat} {b : Code} {S : Rg} {H : Hp} {K : Exit → Rg → Hp → Prop} (h : Tri P kn lo n rd b S H fun e S' H' => match e with | .exit j => (bif Nat.beq j id then K .normal S' H' else K (.exit j) S' H') | e => K e S' H') : Tri P kn lo n rd (.block id b) S H K := by
  intro A h1 h2 h3
  obtain ⟨e, S', H', T', p, q, N, r⟩ := h A h1 h2 h3
  have unf : ∀ f m k, runCode P lo (callF P kn m k) (f + 1) (.block id b) A H none = match runCode P lo (callF P kn m k) f b A H none with
    | some (.exit j, A', H', p') => bif Nat.beq j id then some (.normal, A', H', p') else some (.exit j, A', H', p')
    | r => r := fun f m k => by rw [runCode]; rfl
  cases e with
  | exit j =>
    simp only at p
    cases hj : Nat.beq j id with
    | true =>
      rw [hj] at p
      refine ⟨.normal, S', H', T', p, q, N + 1, fun f m k hf hm hk => ?_⟩
      obtain ⟨f, rfl⟩ : ∃ g, f = g + 1 := ⟨f - 1, by omega⟩
      rw [unf, r f m k (by omega) (by omega) (by omega)]
      simp only [hj, cond_true]
    | false =>
      rw [hj] at p
      refine ⟨.exit j, S', H', T', p, q, N + 1, fun f m k hf hm hk => ?_⟩
      obtain ⟨f, rfl⟩ : ∃ g, f = g + 1 := ⟨f - 1, by omega⟩
      rw [unf, r f m k (by omega) (by omega) (by omega)]
      simp only [hj, cond_false]
  | _ =>
    refine ⟨_, S', H', T', p, q, N + 1, fun f m k hf hm hk => ?_⟩
    obtain ⟨f, rfl⟩ : ∃ g, f = g + 1 := ⟨f - 1, by omega⟩
    rw [unf, r f m k (by omega) (by omega) (by omega)]
theorem Tri.cond {o : Operand} {x y : Code} {S : Rg} {H : Hp} {K : Exit → Rg → Hp → Prop} {t : Bool} (ht : evS S o = some (.bool t)) (hx : t = true → Tri P kn lo n rd x S H K) (hy : t = false → Tri P kn lo n rd y S H K) : Tri P kn lo n rd (.cond o x y) S H K := by
  intro A h1 h2 h3
  cases t with
  | true =>
    obtain ⟨e, S', H', T', p, q, N, r⟩ := hx rfl A h1 h2 h3
    refine ⟨e, S', H', T', p, q, N + 1, fun f m k hf hm hk => ?_⟩
    obtain ⟨f, rfl⟩ : ∃ g, f = g + 1 := ⟨f - 1, by omega⟩
    rw [runCode]
    simp only [ev_of h3 ht]
    exact r f m k (by omega) (by omega) (by omega)
  | false =>
    obtain ⟨e, S', H', T', p, q, N, r⟩ := hy rfl A h1 h2 h3
    refine ⟨e, S', H', T', p, q, N + 1, fun f m k hf hm hk => ?_⟩
    obtain ⟨f, rfl⟩ : ∃ g, f = g + 1 := ⟨f - 1, by omega⟩
    rw [runCode]
    simp only [ev_of h3 ht]
    exact r f m k (by omega) (by omega) (by omega)
theorem wC_lv {c : Code} {r : RC} (hl : LV P n c r) : ∀ {S : Rg} {H : Hp} {K : Exit → Rg → Hp → Prop}, wC P kn lo n rd r S H K → Tri P kn lo n rd c S H K := by
  induction hl with
  | low h => exact fun w => wC_sound rd _ h w
  | other c => exact fun w => w
  | seq _ _ ih1 ih2 => exact fun w => Tri.seq ((ih1 w).mono fun e S' H' q => by
      cases e with
      | normal => exact ih2 q
      | _ => exact q)
  | block id _ ih => exact fun w => Tri.blockV (ih w)
  | cond o _ _ ih1 ih2 =>
    intro S H K w
    simp only [wC] at w
    split at w <;> first | exact w.elim | skip
    rename_i t ht
    exact Tri.cond ht (fun h => ih1 (w.1 h)) (fun h => ih2 (w.2 h))
theorem loop_lv {α : Type} {c b : Code} {R : RC} {S : Rg} {H : Hp} {K : Exit → Rg → Hp → Prop} (hc : c = .loop b) (hL : LV P n b R) (SS : α → Rg) (I : Nat → α → Hp → Prop)
    (k : Nat) (a : α) (hI : I k a H) (hS : Subs (SS a) S)
    (hb : ∀ k a H, I k a H → wC P kn lo n rd R (SS a) H fun e S' H' => match e with | .normal => ∃ k' a', k' < k ∧ I k' a' H' ∧ Subs (SS a') S' | e => K e S' H') :
    Tri P kn lo n rd c S H K := by
  subst hc
  refine Tri.loop (fun k S H => ∃ a, I k a H ∧ Subs (SS a) S) (fun k S H q => ?_) k S H ⟨a, hI, hS⟩
  obtain ⟨a, q, hs⟩ := q
  refine Tri.forget ((wC_lv hL (hb k a H q)).mono fun e S' H' r => ?_) hs.get
  cases e with
  | normal => obtain ⟨k', a', x, y, z⟩ := r; exact ⟨k', x, a', y, z⟩
  | _ => exact r
theorem fn_of_tri {f : FuncId} {fn : Func} {c : Code} {args : List Value} {H : Hp} {Q : Value → Hp → Prop} {R : Value → Hp → Prop} (hf : P.funcs[f]? = some fn) (hc : fn.body = some c) (hl : args.length ≤ fn.ntmps)
    (h : Tri P kn lo fn.ntmps false c (argS args 0) H fun e S' H' => (∃ v, e = pan1 v ∧ R v H') ∨ ((e = .normal ∨ e = .ret) ∧ ∃ vs, resS P S' H' fn.results.toList = some vs ∧ Q (retV vs) H')) :
    (∃ v H', FnX P kn lo f args H v H' ∧ Q v H') ∨ ∃ v H', FnP P kn lo f args H v H' ∧ R v H' := by
  obtain ⟨e, S', H', T', hcase, hk, N, hr⟩ := h { fn := f, n := fn.ntmps, T := trOf args 0 .nil, defers := [], round := none } rfl rfl (knows_args args)
  rcases hcase with ⟨v, rfl, hq⟩ | ⟨he, vs, hres, hq⟩
  · right
    refine ⟨v, H', ⟨N + 1, fun m k hm hk' => ?_⟩, hq⟩
    have hr := hr m m k (by omega) (by omega) (by omega)
    obtain ⟨m', rfl⟩ : ∃ g, m = g + 1 := ⟨m - 1, by omega⟩
    have hu : unwindV P lo (fun t a H p => evCall P kn (m' + 1) k lo t a H p) fn (m' + 1) { fn := f, n := fn.ntmps, T := T', defers := [], round := none } H' (some (v, false)) = some (.pan v, H') := by
      rw [unwindV]
    unfold runFunc
    simp only [hf, hc, Nat.ble_eq_true_of_le hl, cond_true, hr, pan1, hu]
  · left
    refine ⟨retV vs, H', ⟨N + 1, fun m k hm hk' => ?_⟩, hq⟩
    obtain ⟨m', rfl⟩ : ∃ g, m = g + 1 := ⟨m - 1, by omega⟩
    have hr := hr (m' + 1) (m' + 1) k (by omega) (by omega) (by omega)
    have hu : unwindV P lo (fun t a H p => evCall P kn (m' + 1) k lo t a H p) fn (m' + 1) { fn := f, n := fn.ntmps, T := T', defers := [], round := none } H' none = some (.ret (retV vs), H') := by
      rw [unwindV]
      simp only [res_of (A := { fn := f, n := fn.ntmps, T := T', defers := [], round := none }) hk hres]
      match vs with
      | [] => rfl
      | [v] => rfl
      | v :: u :: r => rfl
    unfold runFunc
    simp only [hf, hc, Nat.ble_eq_true_of_le hl, cond_true, hr]
    rcases he with rfl | rfl <;> simp only [hu]
theorem fn_lv {f : FuncId} {fn : Func} {R : RC} {n : Nat} {rs : List ResultVar} {args : List Value} {H : Hp} {Q Z : Value → Hp → Prop} (hf : P.funcs[f]? = some fn) (hb : fn.body = some (at_ fn [])) (hn : fn.ntmps = n) (hz : fn.results.toList = rs) (hL : LV P n (at_ fn []) R) (hl : args.length ≤ n)
    (h : wC P kn lo n false R (argS args 0) H fun e S' H' => (∃ v, e = pan1 v ∧ Z v H') ∨ ((e = .normal ∨ e = .ret) ∧ ∃ vs, resS P S' H' rs = some vs ∧ Q (retV vs) H')) :
    (∃ v H', FnX P kn lo f args H v H' ∧ Q v H') ∨ ∃ v H', FnP P kn lo f args H v H' ∧ Z v H' := by
  subst hn hz
  exact fn_of_tri hf hb hl (wC_lv hL h)
end
end Go.Ax

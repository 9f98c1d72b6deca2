import Derived.Test.YtkdgngdnmgelnaaAxW3
set_option linter.all false
/-! The evaluator for all inputs, 4: functions and calls. -/
namespace Go.Ax
open Go Go.RowKit
def argS : List Value → Nat → Rg
  | [], _ => []
  | v :: r, i => (i, v) :: argS r (i + 1)
theorem argS_lt : ∀ (vs : List Value) (i j : Nat), j < i → lk (argS vs i) j = none
  | [], _, _, _ => rfl
  | v :: r, i, j, h => by
    simp only [argS, lk, beq_eq]
    rw [decide_eq_false (by omega)]
    exact argS_lt r (i + 1) j (by omega)
theorem trOfS_get : ∀ (vs : List Value) (i : Nat) (T : Tr Value) (j : Nat), (trOf vs i T).get j = match lk (argS vs i) j with | some v => some v | none => T.get j
  | [], i, T, j => rfl
  | v :: r, i, T, j => by
    simp only [trOf, argS, lk, beq_eq]
    rw [trOfS_get r (i + 1)]
    by_cases h : i = j
    · subst h
      rw [argS_lt r (i + 1) i (by omega)]
      simp [Tr.get_set]
    · rw [decide_eq_false h]
      simp only [cond_false]
      cases lk (argS r (i + 1)) j with
      | some u => rfl
      | none => simp only [Tr.get_set]; rw [if_neg (fun e => h e.symm)]
theorem knows_args (vs : List Value) : Knows (argS vs 0) (trOf vs 0 .nil) := fun j v h => by rw [trOfS_get, h]
noncomputable def resS (P : Program) (S : Rg) (H : Hp) : List ResultVar → Option (List Value)
  | [] => some []
  | .tmp t :: r => match lk S t with
    | none => none
    | some v => match resS P S H r with | none => none | some vs => some (v :: vs)
  | .cell a t :: r => match lk S a with
    | some (.pointer (some ad)) => match loadV P H t ad with
      | none => none
      | some v => match resS P S H r with | none => none | some vs => some (v :: vs)
    | _ => none
theorem res_of {P : Program} {S : Rg} {H : Hp} {A : Fr} (hA : Knows S A.T) : ∀ {l : List ResultVar} {vs : List Value}, resS P S H l = some vs → resultsV P A H l = some vs
  | [], vs, h => h
  | .tmp t :: r, vs, h => by
    simp only [resS] at h
    cases h1 : lk S t with
    | none => simp [h1] at h
    | some v =>
      cases h2 : resS P S H r with
      | none => simp [h1, h2] at h
      | some us => simp [h1, h2] at h; subst h; simp only [resultsV, hA t v h1, res_of hA h2]
  | .cell a t :: r, vs, h => by
    simp only [resS] at h
    split at h <;> first | (cases h; done) | skip
    rename_i ad h1
    cases h3 : loadV P H t ad with
    | none => simp [h3] at h
    | some v =>
      cases h2 : resS P S H r with
      | none => simp [h3, h2] at h
      | some us => simp [h3, h2] at h; subst h; simp only [resultsV, hA a _ h1, h3, res_of hA h2]
def retV : List Value → Value
  | [v] => v
  | vs => .tuple vs.toArray
def FnX (P : Program) (kn : FuncId → Option Bool) (lo : Nat) (f : FuncId) (args : List Value) (H : Hp) (v : Value) (H' : Hp) : Prop :=
  ∃ N, ∀ m k, N ≤ m → N ≤ k → runFunc P lo (callF P kn m k) (fun t a H p => evCall P kn m k lo t a H p) m f args H none = some (.ret v, H', none)
section
variable {P : Program} {kn : FuncId → Option Bool} {lo : Nat}
theorem fnX_of_tri {f : FuncId} {fn : Func} {c : Code} {args : List Value} {H : Hp} {Q : Value → Hp → Prop} (hf : P.funcs[f]? = some fn) (hc : fn.body = some c) (hl : args.length ≤ fn.ntmps)
    (h : Tri P kn lo fn.ntmps false c (argS args 0) H fun e S' H' => (match e with | .normal => True | .ret => True | _ => False) ∧ ∃ vs, resS P S' H' fn.results.toList = some vs ∧ Q (retV vs) H') :
    ∃ v H', FnX P kn lo f args H v H' ∧ Q v H' := by
  obtain ⟨e, S', H', T', ⟨he, vs, hres, hq⟩, hk, N, hr⟩ := h { fn := f, n := fn.ntmps, T := trOf args 0 .nil, defers := [], round := none } rfl rfl (knows_args args)
  refine ⟨retV vs, H', ⟨N + 1, fun m k hm hk' => ?_⟩, hq⟩
  obtain ⟨m', rfl⟩ : ∃ g, m = g + 1 := ⟨m - 1, by omega⟩
  have hr := hr (m' + 1) (m' + 1) k (by omega) (by omega) (by omega)
  have hu : unwindV P lo (fun t a H p => evCall P kn (m' + 1) k lo t a H p) fn (m' + 1) { fn := f, n := fn.ntmps, T := T', defers := [], round := none } H' none = some (.ret (retV vs), H') := by
    rw [unwindV]
    simp only [res_of (A := { fn := f, n := fn.ntmps, T := T', defers := [], round := none }) hk hres]
    match vs with
    | [] => rfl
    | [v] => rfl
    | v :: u :: r => rfl
  unfold runFunc
  simp only [hf, hc, Nat.ble_eq_true_of_le hl, cond_true, hr]
  cases e <;> simp only at he <;> simp only [hu]
theorem callX_func {f : FuncId} {cap : Array Value} {args : List Value} {H : Hp} {v : Value} {H' : Hp} (hk : kcall kn (.fn (.func f) cap) args = none) (h : FnX P kn lo f (args ++ cap.toList) H v H') : CallsX P kn lo (.fn (.func f) cap) args H v H' := by
  obtain ⟨N, h⟩ := h
  refine ⟨N + 1, fun m k hm hk' => ?_⟩
  obtain ⟨k, rfl⟩ : ∃ g, k = g + 1 := ⟨k - 1, by omega⟩
  have := h m k (by omega) (by omega)
  have e : evCall P kn m (k + 1) lo (.fn (.func f) cap) args H none = some (.ret v, H', none) := this
  unfold callF
  simp only [hk, e]
theorem callX_args {f : FuncId} {args : List Value} {a : Value} {H : Hp} {v : Value} {H' : Hp} (h : FnX P kn lo f (a :: args) H v H') : CallsX P kn lo (.fn (.func f) #[]) (a :: args) H v H' :=
  callX_func rfl (by simpa using h)
theorem callX_method {ty : TypeId} {u : Value} {name : String} {cap : Array Value} {f : FuncId} {x : Value} {rest : List Value} {H : Hp} {v : Value} {H' : Hp} (hm : methodV P ty u name = some (f, x)) (h : FnX P kn lo f (x :: rest) H v H') : CallsX P kn lo (.fn (.method name) cap) (.iface ty u :: rest) H v H' := by
  obtain ⟨N, h⟩ := h
  refine ⟨N + 1, fun m k hm' hk' => ?_⟩
  obtain ⟨k, rfl⟩ : ∃ g, k = g + 1 := ⟨k - 1, by omega⟩
  have := h m k (by omega) (by omega)
  have e : evCall P kn m (k + 1) lo (.fn (.method name) cap) (.iface ty u :: rest) H none = some (.ret v, H', none) := by
    rw [← this]
    simp only [evCall, hm]
    rfl
  unfold callF
  simp only [kcall, e]
theorem callX_known {f : FuncId} {b : Bool} {H : Hp} (h : kn f = some b) : CallsX P kn lo (.fn (.func f) #[]) [] H (.bool b) H :=
  ⟨0, fun m k _ _ => by unfold callF; simp only [kcall, List.size_toArray, List.length_nil, Nat.beq_refl, cond_true, h]⟩
end
end Go.Ax

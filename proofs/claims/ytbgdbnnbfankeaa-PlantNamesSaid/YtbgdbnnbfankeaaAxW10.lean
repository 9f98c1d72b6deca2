import Derived.Test.YtbgdbnnbfankeaaAxW9
set_option linter.all false
/-! The evaluator for all inputs, 10: operations that are left as plain ones (arithmetic that may wrap). -/
namespace Go.Ax
open Go Go.RowKit

def lowROV (P : Program) (n : Nat) (ops : List Oper) (raw : Bool) (o : Oper) : Option RO :=
  bif raw then
    match o.guard with
    | none => bif (match o.dst with | none => true | some d => Nat.ble (d + 1) n) then some { dst := o.dst, guard := none, ri := .pur (clean o) } else none
    | some _ => none
  else lowRO P n ops true o
def memN : List Nat → Nat → Bool
  | [], _ => false
  | x :: l, i => Nat.beq x i || memN l i
def lowROsV (P : Program) (n : Nat) (ops : List Oper) (raw : List Nat) : List Oper → Nat → Option (List RO)
  | [], _ => some []
  | o :: r, i => match lowROV P n ops (memN raw i) o with
    | none => none
    | some x => match lowROsV P n ops raw r (i + 1) with
      | none => none
      | some l => some (x :: l)
section
variable {P : Program} {kn : FuncId → Option Bool} {lo n : Nat} {rd : Bool}
theorem wROV_sound {ops : Array Oper} {raw : Bool} {A : Fr} {S : Rg} {H : Hp} {K : Rg → Hp → Kd → Prop} {o : Oper} {ro : RO} (hl : lowROV P n ops.toList raw o = some ro) (hA : Knows S A.T) (hn : A.n = n) (h : wRO P kn lo n S H ro K) :
    (∀ v, A.put o.dst v = some { A with T := putTr A.T o.dst v }) ∧
    ((wantedA ops A o = some false ∧ K (putS S o.dst undef) H .pure) ∨ (wantedA ops A o = some true ∧ DoneO P kn lo true A H (fun v H' k => K (putS S o.dst v) H' k) o)) := by
  unfold lowROV at hl
  cases raw with
  | false => exact wRO_sound hl hA hn h
  | true =>
    simp only [cond_true] at hl
    split at hl <;> first | (cases hl; done) | skip
    rename_i hg
    obtain ⟨hd, hl⟩ := bif_some hl
    cases hl
    exact ⟨put_ok (by rw [hn]; exact hd), .inr ⟨by unfold wantedA; rw [hg], pur_sound hA h⟩⟩
theorem wOpsV_sound {ops : Array Oper} {raw : List Nat} : ∀ (rest pre : List Oper) {rl : List RO} {A : Fr} {S : Rg} {H : Hp} {K : Rg → Hp → Prop}, ops.toList = pre ++ rest → lowROsV P n ops.toList raw rest pre.length = some rl → Knows S A.T → A.n = n → wOps P kn lo n rl S H K →
    ∃ S' H' T', K S' H' ∧ Knows S' T' ∧ ∃ N, ∀ m k, N ≤ m → N ≤ k → runOps P lo (callF P kn m k) ops (List.range' pre.length rest.length) A H none = some (.normal, { A with T := T' }, H', none)
  | [], pre, rl, A, S, H, K, he, hl, hA, hn, h => by
    simp only [lowROsV] at hl; cases hl
    exact ⟨S, H, A.T, h, hA, 0, fun m k _ _ => rfl⟩
  | o :: rest, pre, rl, A, S, H, K, he, hl, hA, hn, h => by
    simp only [lowROsV] at hl
    split at hl <;> first | (cases hl; done) | skip
    rename_i ro hro
    split at hl <;> first | (cases hl; done) | skip
    rename_i l hrest
    cases hl
    simp only [wOps] at h
    have ho : ops[pre.length]? = some o := by
      have : ops.toList[pre.length]? = some o := by rw [he]; simp
      simpa using this
    have he2 : ops.toList = (pre ++ [o]) ++ rest := by rw [he]; simp
    have ih := fun {A' : Fr} {S' : Rg} {H' : Hp} (hA' : Knows S' A'.T) (hn' : A'.n = n) (h' : wOps P kn lo n l S' H' K) => wOpsV_sound rest (pre ++ [o]) (rl := l) he2 (by simpa using hrest) hA' hn' h'
    simp only [List.length_append, List.length_singleton] at ih
    obtain ⟨hput, hcase⟩ := wROV_sound hro hA hn h
    have hr : List.range' pre.length (o :: rest).length = pre.length :: List.range' (pre.length + 1) rest.length := by simp [List.range']
    rw [hr]
    rcases hcase with ⟨hw, h⟩ | ⟨hw, hdone⟩
    · obtain ⟨S', H', T', a, b, N, c⟩ := ih (A' := { A with T := putTr A.T o.dst undef }) (knows_put hA o.dst undef) hn h
      refine ⟨S', H', T', a, b, N, fun m k hm hk => ?_⟩
      rw [runOps]
      simp only [ho, hw, hput]
      exact c m k hm hk
    · rcases hdone with ⟨v, H1, kd, e, _, h⟩ | ⟨H1, kd, e, h⟩ | ⟨t, vs, v, H1, e, _, ⟨N1, hc⟩, h⟩ | ⟨_, _, _, _, _, _, hf, _⟩
      rotate_right
      · cases hf
      · obtain ⟨S', H', T', a, b, N, c⟩ := ih (A' := { A with T := putTr A.T o.dst v }) (knows_put hA o.dst v) hn h
        refine ⟨S', H', T', a, b, N, fun m k hm hk => ?_⟩
        rw [runOps]
        simp only [ho, hw, e, hput]
        exact c m k hm hk
      · obtain ⟨S', H', T', a, b, N, c⟩ := ih (A' := { A with T := putTr A.T o.dst undef }) (knows_put hA o.dst undef) hn h
        refine ⟨S', H', T', a, b, N, fun m k hm hk => ?_⟩
        rw [runOps]
        simp only [ho, hw, e, hput]
        exact c m k hm hk
      · obtain ⟨S', H', T', a, b, N, c⟩ := ih (A' := { A with T := putTr A.T o.dst v }) (knows_put hA o.dst v) hn h
        refine ⟨S', H', T', a, b, N + N1, fun m k hm hk => ?_⟩
        rw [runOps]
        have := hc m k (by omega) (by omega)
        simp only [cond_true] at this
        simp only [ho, hw, e, this, hput]
        exact c m k (by omega) (by omega)

theorem tri_regV {c : Code} {id : Nat} {ops : Array Oper} {raw : List Nat} {rl : List RO} {S : Rg} {H : Hp} {K : Exit → Rg → Hp → Prop} (hc : c = .region id ops false) (hl : lowROsV P n ops.toList raw ops.toList 0 = some rl) (h : wOps P kn lo n rl S H fun S' H' => K .normal S' H') : Tri P kn lo n rd c S H K := by
  subst hc
  intro A h1 h2 h3
  obtain ⟨S', H', T', a, b, N, r⟩ := wOpsV_sound (ops := ops) (raw := raw) ops.toList [] (by simp) hl h3 h1 h
  refine ⟨.normal, S', H', T', a, b, N + 1, fun f m k hf hm hk => ?_⟩
  obtain ⟨f, rfl⟩ : ∃ g, f = g + 1 := ⟨f - 1, by omega⟩
  rw [runCode]
  have := r m k (by omega) (by omega)
  simp only [List.length_nil] at this
  simp only [cond_false, List.range_eq_range']
  simpa using this
end
end Go.Ax

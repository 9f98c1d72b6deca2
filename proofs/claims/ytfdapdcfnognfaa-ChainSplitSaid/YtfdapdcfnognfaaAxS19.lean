import Derived.Test.YtfdapdcfnognfaaAxS18
import Derived.Orders
set_option linter.all false
namespace Go.Ax
open Go Go.RowKit

/-! ### The steps of a drawn region, in the order of the text -/
/-- What a callee leaves of the heap. -/
def CallA (C : CallF) : Prop := ∀ lo t args H e H', C lo t args H = some (e, H') → lo ≤ H.next → H.next ≤ H'.next ∧ ∀ b, b < lo → H'.t.get b = H.t.get b

theorem oneBlock_spec {lo : Nat} {H H' : Hp} {b : Nat} (h : oneBlock lo H H' = some b) : lo ≤ b ∧ oneOnly H H' b := by
  unfold oneBlock at h
  split at h
  · rename_i w; cases h; exact Classical.choose_spec w
  · cases h
inductive DStep (P : Program) (lo : Nat) (C : CallF) (ops : Array Oper) (o : Oper) (A : Fr) (H : Hp) : Kd → Value → Hp → Prop
  | passed : wantedA ops A o = some false → DStep P lo C ops o A H .pure undef H
  | val {v : Value} {H' : Hp} {k : Kd} : wantedA ops A o = some true → aOp P lo A H o = some (.val v H', k) → kdOk k H = true → DStep P lo C ops o A H k v H'
  | skip {H' : Hp} {k : Kd} : wantedA ops A o = some true → aOp P lo A H o = some (.skip H', k) → DStep P lo C ops o A H k undef H'
  | full {t : Target} {args : List Value} {k : Kd} {v : Value} {H' : Hp} : wantedA ops A o = some true → aOp P lo A H o = some (.call t args, k) → C lo t args H = some (.ret v, H') → DStep P lo C ops o A H .full v H'
  | quiet {t : Target} {args : List Value} {k : Kd} {v : Value} {H' : Hp} : wantedA ops A o = some true → aOp P lo A H o = some (.call t args, k) → C H.next t args H = some (.ret v, H') → DStep P lo C ops o A H .heavy v H'
  | one {t : Target} {args : List Value} {k : Kd} {v : Value} {H' : Hp} {b : Nat} : wantedA ops A o = some true → aOp P lo A H o = some (.call t args, k) → C lo t args H = some (.ret v, H') → lo ≤ b → oneOnly H H' b → DStep P lo C ops o A H (.store b) v H'

structure Trace (P : Program) (lo : Nat) (C : CallF) (ops : Array Oper) (As : Nat → Fr) (Hs : Nat → Hp) (kd : Nat → Kd) (n : Nat) : Prop where
  step : ∀ j, j < n → ∃ o v, ops[j]? = some o ∧ DStep P lo C ops o (As j) (Hs j) (kd j) v (Hs (j + 1)) ∧ (As j).put o.dst v = some (As (j + 1))

theorem draw_trace {P : Program} {lo : Nat} {C : CallF} {ops : Array Oper} : ∀ (l : List Oper) (i : Nat) (ks : List Kd) (A : Fr) (H : Hp) (ks' : List Kd) (A' : Fr) (H' : Hp), (∀ k, l[k]? = ops[i + k]?) → runDraw P lo C ops l i ks A H = some (ks', A', H') →
    ∃ (As : Nat → Fr) (Hs : Nat → Hp) (kd : Nat → Kd), As i = A ∧ Hs i = H ∧ As (i + l.length) = A' ∧ Hs (i + l.length) = H' ∧ ks' = ((List.range l.length).map fun j => kd (i + j)).reverse ++ ks ∧
      ∀ j, i ≤ j → j < i + l.length → ∃ o v, ops[j]? = some o ∧ DStep P lo C ops o (As j) (Hs j) (kd j) v (Hs (j + 1)) ∧ (As j).put o.dst v = some (As (j + 1))
  | [], i, ks, A, H, ks', A', H', _, h => by
    simp only [runDraw] at h
    cases h
    exact ⟨fun _ => A, fun _ => H, fun _ => .pure, rfl, rfl, rfl, rfl, by simp, fun j h1 h2 => by simp at h2; omega⟩
  | o :: l, i, ks, A, H, ks', A', H', hl, h => by
    have ho : ops[i]? = some o := by simpa using (hl 0).symm
    have key : ∀ (k : Kd) (v : Value) (H1 : Hp) (A1 : Fr), DStep P lo C ops o A H k v H1 → A.put o.dst v = some A1 → runDraw P lo C ops l (i + 1) (k :: ks) A1 H1 = some (ks', A', H') →
        ∃ (As : Nat → Fr) (Hs : Nat → Hp) (kd : Nat → Kd), As i = A ∧ Hs i = H ∧ As (i + (o :: l).length) = A' ∧ Hs (i + (o :: l).length) = H' ∧ ks' = ((List.range (o :: l).length).map fun j => kd (i + j)).reverse ++ ks ∧
          ∀ j, i ≤ j → j < i + (o :: l).length → ∃ o v, ops[j]? = some o ∧ DStep P lo C ops o (As j) (Hs j) (kd j) v (Hs (j + 1)) ∧ (As j).put o.dst v = some (As (j + 1)) := by
      intro k v H1 A1 hd hp hr
      obtain ⟨As, Hs, kd, e1, e2, e3, e4, e5, e6⟩ := draw_trace l (i + 1) (k :: ks) A1 H1 ks' A' H' (fun k => by have := hl (k + 1); simpa [Nat.add_assoc, Nat.add_comm 1 k] using this) hr
      refine ⟨fun j => if j = i then A else As j, fun j => if j = i then H else Hs j, fun j => if j = i then k else kd j, by simp, by simp, ?_, ?_, ?_, ?_⟩
      · have : ¬ (i + (o :: l).length = i) := by simp
        simp only [this, if_false]
        rw [← e3]; congr 1; simp; omega
      · have : ¬ (i + (o :: l).length = i) := by simp
        simp only [this, if_false]
        rw [← e4]; congr 1; simp; omega
      · rw [e5]
        simp only [List.length_cons, List.range_succ_eq_map, List.map_cons, List.map_map, List.reverse_cons, List.append_assoc, List.singleton_append, Nat.add_zero, if_true]
        congr 2
        apply List.map_congr_left
        intro j _
        simp only [Function.comp]
        rw [if_neg (by omega)]
        congr 1; omega
      · intro j h1 h2
        by_cases hji : j = i
        · subst hji
          have : ¬ (j + 1 = j) := by omega
          simp only [if_true, this, if_false, e1, e2]
          exact ⟨o, v, ho, hd, hp⟩
        · have h3 : ¬ (j + 1 = i) := by omega
          simp only [hji, if_false, h3]
          exact e6 j (by omega) (by simp at h2 ⊢; omega)
    simp only [runDraw] at h
    cases hw : wantedA ops A o with
    | none => simp [hw] at h
    | some b =>
      cases b with
      | false =>
        simp only [hw] at h
        cases hput : A.put o.dst undef with
        | none => simp [hput] at h
        | some A1 => simp only [hput] at h; exact key _ _ _ _ (.passed hw) hput h
      | true =>
        simp only [hw] at h
        cases hop : aOp P lo A H o with
        | none => simp [hop] at h
        | some q =>
          obtain ⟨rs, k⟩ := q
          simp only [hop] at h
          cases rs with
          | val v H1 =>
            simp only at h
            obtain ⟨hkd, h⟩ := bif_some h
            cases hput : A.put o.dst v with
            | none => simp [hput] at h
            | some A1 => simp only [hput] at h; exact key _ _ _ _ (.val hw hop hkd) hput h
          | skip H1 =>
            simp only at h
            cases hput : A.put o.dst undef with
            | none => simp [hput] at h
            | some A1 => simp only [hput] at h; exact key _ _ _ _ (.skip hw hop) hput h
          | call t args =>
            simp only at h
            cases hord : ordered ops.toList (ancL ops.toList) i with
            | true =>
              rw [hord] at h
              simp only [cond_true] at h
              split at h <;> first | (cases h; done) | skip
              rename_i v H1 hC
              cases hput : A.put o.dst v with
              | none => simp [hput] at h
              | some A1 => simp only [hput] at h; exact key _ _ _ _ (.full hw hop hC) hput h
            | false =>
              rw [hord] at h
              simp only [cond_false] at h
              cases hmk : marked t with
              | true =>
                rw [hmk] at h
                simp only [cond_true] at h
                split at h <;> first | (cases h; done) | skip
                rename_i v H1 hC
                cases hob : oneBlock lo H H1 with
                | none => simp [hob] at h
                | some b =>
                  simp only [hob] at h
                  cases hput : A.put o.dst v with
                  | none => simp [hput] at h
                  | some A1 => simp only [hput] at h; exact key _ _ _ _ (.one hw hop hC (oneBlock_spec hob).1 (oneBlock_spec hob).2) hput h
              | false =>
                rw [hmk] at h
                simp only [cond_false] at h
                split at h <;> first | (cases h; done) | skip
                rename_i v H1 hC
                cases hput : A.put o.dst v with
                | none => simp [hput] at h
                | some A1 => simp only [hput] at h; exact key _ _ _ _ (.quiet hw hop hC) hput h
          | _ => simp at h

theorem draw_all {P : Program} {lo : Nat} {C : CallF} {ops : Array Oper} {A A' : Fr} {H H' : Hp} (h : drawn P lo C ops A H = some (A', H')) : ∃ (As : Nat → Fr) (Hs : Nat → Hp) (kd : Nat → Kd), As 0 = A ∧ Hs 0 = H ∧ As ops.size = A' ∧ Hs ops.size = H' ∧ Trace P lo C ops As Hs kd ops.size ∧ RegS ops ∧
    ∀ i j, i < j → j < ops.size → clash (kd j) (kd i) = true → Anc ops j i := by
  unfold drawn at h
  split at h <;> first | (cases h; done) | skip
  rename_i ks A1 H1 hr
  obtain ⟨hb, h⟩ := bif_some h
  cases h
  simp only [Bool.and_eq_true, Bool.or_eq_true] at hb
  obtain ⟨As, Hs, kd, e1, e2, e3, e4, e5, e6⟩ := draw_trace ops.toList 0 [] A H ks A' H' (fun k => by simp) hr
  simp only [Nat.zero_add, Array.length_toList, List.append_nil] at e3 e4 e5 e6
  refine ⟨As, Hs, kd, e1, e2, e3, e4, ⟨fun j hj => e6 j (Nat.zero_le _) hj⟩, regOk_spec hb.2, fun i j hij hj hc => ?_⟩
  have hget : ∀ j, j < ops.size → ks[ops.size - 1 - j]? = some (kd j) := fun j hj => by
    rw [e5]
    have : ops.size = ((List.range ops.size).map fun j => kd j).length := by simp
    conv => lhs; rw [this]
    have hl : ((List.range (List.map (fun j => kd j) (List.range ops.size)).length).map fun j => kd j) = (List.range ops.size).map fun j => kd j := by simp
    rw [hl, rev_get _ _ (by simpa using hj)]
    simp [hj]
  rcases hb.1 with hcalm | hp
  · exfalso
    have c1 := List.all_eq_true.1 hcalm (kd j) (List.mem_of_getElem? (hget j hj))
    have c2 := List.all_eq_true.1 hcalm (kd i) (List.mem_of_getElem? (hget i (by omega)))
    revert hc c1 c2
    cases kd j <;> cases kd i <;> simp [calm, clash]
  · exact pairs_anc (f := kd) (by rw [e5]; simp) hget hp hij hj hc

/-! ### The order that the machine draws -/
theorem ready_iff {ops : Array Oper} {L : Array Bool} {i : Nat} : i ∈ Region.ready .any ops L ↔ (i < ops.size ∧ L.getD i true = false ∧ ∃ o, ops[i]? = some o ∧ ∀ e ∈ o.after, Region.binds .any e = true → L.getD e.on false = true) := by
  unfold Region.ready
  simp only [List.mem_filter, List.mem_range, Bool.and_eq_true, Bool.not_eq_true']
  constructor
  · rintro ⟨h1, h2, h3⟩
    refine ⟨h1, h2, ?_⟩
    cases ho : ops[i]? with
    | none => simp [ho] at h3
    | some o =>
      refine ⟨o, rfl, fun e he hb => ?_⟩
      simp only [ho, Option.map_some, Option.getD_some, Array.all_eq_true'] at h3
      have := h3 e he
      simpa [hb] using this
  · rintro ⟨h1, h2, o, ho, h3⟩
    refine ⟨h1, h2, ?_⟩
    simp only [ho, Option.map_some, Option.getD_some, Array.all_eq_true']
    intro e he
    cases hb : Region.binds .any e with
    | false => simp
    | true => simp [h3 e he hb]
/-- Where none is ready, all have been listed. -/
theorem none_ready {ops : Array Oper} {L : Array Bool} (hS : RegS ops) (hL : L.size = ops.size) (h : Region.ready .any ops L = []) : ∀ i, i < ops.size → L.getD i false = true := by
  intro i
  induction i using Nat.strongRecOn with
  | _ i ih =>
    intro hi
    cases hb : L.getD i true with
    | true =>
      have : L[i]? = some (L[i]'(by omega)) := Array.getElem?_eq_getElem (by omega)
      simp only [Array.getD_eq_getD_getElem?, this, Option.getD_some] at hb ⊢
      exact hb
    | false =>
      exfalso
      have ho : ops[i]? = some ops[i] := Array.getElem?_eq_getElem hi
      have : i ∈ Region.ready .any ops L := ready_iff.2 ⟨hi, hb, _, ho, fun e he hbind => ih e.on (hS.back i _ ho e he hbind) (by have := hS.back i _ ho e he hbind; omega)⟩
      rw [h] at this
      cases this
end Go.Ax

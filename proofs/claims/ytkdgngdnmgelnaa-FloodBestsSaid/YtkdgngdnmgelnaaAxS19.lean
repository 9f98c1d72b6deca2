import Derived.Test.YtkdgngdnmgelnaaAxS18
import Derived.Orders
set_option linter.all false
namespace Go.Ax
open Go Go.RowKit
/-! ### The steps of a drawn region, in the order of the text -/
def CallA (C : CallF) : Prop := ∀ lo t args H e H', C lo t args H = some (e, H') → lo ≤ H.next → H.next ≤ H'.next ∧ ∀ b, b < lo → H'.t.get b = H.t.get b
theorem oneBlock_spec {lo : Nat} {H H' : Hp} {b : Nat} (h : oneBlock lo H H' = some b) : lo ≤ b ∧ oneOnly H H' b := by
  unfold oneBlock at h
  split at h
  · rename_i w; cases h; exact Classical.choose_spec w
  · cases h
inductive DStep (P : Program) (lo : Nat) (C : CallF) (ops : Array Oper) (o : Oper) (A : Fr) (H : Hp) : Kd → Value → Hp → Prop
  | passed : wantedA ops A o = some false → DStep P lo C ops o A H .pure undef H
  | val {v : Value} {H' : Hp} {k : Kd} : wantedA ops A o = some true → aOp P lo A H o = some (.val v H', k) → kdOk k H = true → DStep P lo C ops o A H k v H'
  | mk {v : Value} {H' : Hp} : wantedA ops A o = some true → aOp P lo A H o = some (.val v H', .heavy) → mkOp o = true → DStep P lo C ops o A H (.mk H.next) v H'
  | skip {H' : Hp} {k : Kd} : wantedA ops A o = some true → aOp P lo A H o = some (.skip H', k) → DStep P lo C ops o A H k undef H'
  | full {t : Target} {args : List Value} {k : Kd} {v : Value} {H' : Hp} : wantedA ops A o = some true → aOp P lo A H o = some (.call t args, k) → C lo t args H = some (.ret v, H') → DStep P lo C ops o A H .full v H'
  | quiet {t : Target} {args : List Value} {k : Kd} {v : Value} {H' : Hp} : wantedA ops A o = some true → aOp P lo A H o = some (.call t args, k) → C H.next t args H = some (.ret v, H') → DStep P lo C ops o A H .heavy v H'
  | one {t : Target} {args : List Value} {k : Kd} {v : Value} {H' : Hp} {b : Nat} : wantedA ops A o = some true → aOp P lo A H o = some (.call t args, k) → C lo t args H = some (.ret v, H') → lo ≤ b → oneOnly H H' b → DStep P lo C ops o A H (.store b) v H'
theorem dstep_val {P : Program} {lo : Nat} {C : CallF} {ops : Array Oper} {o : Oper} {A : Fr} {H : Hp} {k : Kd} {v : Value} {H' : Hp} (hw : wantedA ops A o = some true) (h : aOp P lo A H o = some (.val v H', k)) (hk : kdOk k H = true) : DStep P lo C ops o A H (kdOf o H k) v H' := by
  cases k with
  | heavy =>
    unfold kdOf
    cases hm : mkOp o with
    | true => exact .mk hw h hm
    | false => exact .val hw h hk
  | _ => exact .val hw h hk
def RoLow (lo : Nat) (H : Hp) : Prop := ∀ b cs, b < H.next → H.t.get b = some (.ro cs) → b < lo
theorem roLow_spec {lo : Nat} {H : Hp} (h : roLow lo H = true) : RoLow lo H := fun b cs hb hg => by
  have := List.all_eq_true.1 h b (List.mem_range.2 hb)
  rw [hg] at this
  simp only [Bool.or_false] at this
  have := Nat.le_of_ble_eq_true this
  omega
theorem clashR_le {k c : Kd} (h : clashR k c = true) : clash k c = true := by
  cases k <;> cases c <;> first | exact h | rfl
structure Trace (P : Program) (lo : Nat) (C : CallF) (ops : Array Oper) (As : Nat → Fr) (Hs : Nat → Hp) (kd : Nat → Kd) (n : Nat) : Prop where
  step : ∀ j, j < n → ∃ o v, ops[j]? = some o ∧ DStep P lo C ops o (As j) (Hs j) (kd j) v (Hs (j + 1)) ∧ (As j).put o.dst v = some (As (j + 1))
theorem draw_trace {P : Program} {lo : Nat} {C : CallF} {ops : Array Oper} : ∀ (l : List Oper) (i : Nat) (ks : List Kd) (A : Fr) (H : Hp) (ks' : List Kd) (A' : Fr) (H' : Hp), (∀ k, l[k]? = ops[i + k]?) → runDraw P lo C ops l i ks A H = some (ks', A', H') →
    ∃ (As : Nat → Fr) (Hs : Nat → Hp) (kd : Nat → Kd), As i = A ∧ Hs i = H ∧ As (i + l.length) = A' ∧ Hs (i + l.length) = H' ∧ ks' = ((List.range l.length).map fun j => kd (i + j)).reverse ++ ks ∧
      ∀ j, i ≤ j → j < i + l.length → ∃ o v, ops[j]? = some o ∧ DStep P lo C ops o (As j) (Hs j) (kd j) v (Hs (j + 1)) ∧ (As j).put o.dst v = some (As (j + 1))
  | [], i, ks, A, H, ks', A', H', _, h => by
    simp only [runDraw] at h
    cases h
    exact ⟨fun _ => A, fun _ => H, fun _ => .pure, rfl, rfl, rfl, rfl, by simp, fun j h1 h2 => by simp at h2; omega⟩
  | o :: l, i, ks, A, H, ks', A', H', hl, h => by
    have ho : ops[i]? = some o := by simpa using (hl 0).symm
    have key : ∀ (k : Kd) (v : Value) (H1 : Hp) (A1 : Fr), DStep P lo C ops o A H k v H1 → A.put o.dst v = some A1 → runDraw P lo C ops l (i + 1) (k :: ks) A1 H1 = some (ks', A', H') →
        ∃ (As : Nat → Fr) (Hs : Nat → Hp) (kd : Nat → Kd), As i = A ∧ Hs i = H ∧ As (i + (o :: l).length) = A' ∧ Hs (i + (o :: l).length) = H' ∧ ks' = ((List.range (o :: l).length).map fun j => kd (i + j)).reverse ++ ks ∧
          ∀ j, i ≤ j → j < i + (o :: l).length → ∃ o v, ops[j]? = some o ∧ DStep P lo C ops o (As j) (Hs j) (kd j) v (Hs (j + 1)) ∧ (As j).put o.dst v = some (As (j + 1)) := by
      intro k v H1 A1 hd hp hr
      obtain ⟨As, Hs, kd, e1, e2, e3, e4, e5, e6⟩ := draw_trace l (i + 1) (k :: ks) A1 H1 ks' A' H' (fun k => by have := hl (k + 1); simpa [Nat.add_assoc, Nat.add_comm 1 k] using this) hr
      refine ⟨fun j => if j = i then A else As j, fun j => if j = i then H else Hs j, fun j => if j = i then k else kd j, by simp, by simp, ?_, ?_, ?_, ?_⟩
      · have : ¬ (i + (o :: l).length = i) := by simp
        simp only [this, if_false]
        rw [← e3]; congr 1; simp; omega
      · have : ¬ (i + (o :: l).length = i) := by simp
        simp only [this, if_false]
        rw [← e4]; congr 1; simp; omega
      · rw [e5]
        simp only [List.length_cons, List.range_succ_eq_map, List.map_cons, List.map_map, List.reverse_cons, List.append_assoc, List.singleton_append, Nat.add_zero, if_true]
        congr 2
        apply List.map_congr_left
        intro j _
        simp only [Function.comp]
        rw [if_neg (by omega)]
        congr 1; omega
      · intro j h1 h2
        by_cases hji : j = i
        · subst hji
          have : ¬ (j + 1 = j) := by omega
          simp only [if_true, this, if_false, e1, e2]
          exact ⟨o, v, ho, hd, hp⟩
        · have h3 : ¬ (j + 1 = i) := by omega
          simp only [hji, if_false, h3]
          exact e6 j (by omega) (by simp at h2 ⊢; omega)
    simp only [runDraw] at h
    cases hw : wantedA ops A o with
    | none => simp [hw] at h
    | some b =>
      cases b with
      | false =>
        simp only [hw] at h
        cases hput : A.put o.dst undef with
        | none => simp [hput] at h
        | some A1 => simp only [hput] at h; exact key _ _ _ _ (.passed hw) hput h
      | true =>
        simp only [hw] at h
        cases hop : aOp P lo A H o with
        | none => simp [hop] at h
        | some q =>
          obtain ⟨rs, k⟩ := q
          simp only [hop] at h
          cases rs with
          | val v H1 =>
            simp only at h
            obtain ⟨hkd, h⟩ := bif_some h
            cases hput : A.put o.dst v with
            | none => simp [hput] at h
            | some A1 => simp only [hput] at h; exact key _ _ _ _ (dstep_val hw hop hkd) hput h
          | skip H1 =>
            simp only at h
            cases hput : A.put o.dst undef with
            | none => simp [hput] at h
            | some A1 => simp only [hput] at h; exact key _ _ _ _ (.skip hw hop) hput h
          | call t args =>
            simp only at h
            cases hord : ordered ops.toList (ancL ops.toList) i with
            | true =>
              rw [hord] at h
              simp only [cond_true] at h
              split at h <;> first | (cases h; done) | skip
              rename_i v H1 hC
              cases hput : A.put o.dst v with
              | none => simp [hput] at h
              | some A1 => simp only [hput] at h; exact key _ _ _ _ (.full hw hop hC) hput h
            | false =>
              rw [hord] at h
              simp only [cond_false] at h
              cases hmk : marked t with
              | true =>
                rw [hmk] at h
                simp only [cond_true] at h
                split at h <;> first | (cases h; done) | skip
                rename_i v H1 hC
                cases hob : oneBlock lo H H1 with
                | none => simp [hob] at h
                | some b =>
                  simp only [hob] at h
                  cases hput : A.put o.dst v with
                  | none => simp [hput] at h
                  | some A1 => simp only [hput] at h; exact key _ _ _ _ (.one hw hop hC (oneBlock_spec hob).1 (oneBlock_spec hob).2) hput h
              | false =>
                rw [hmk] at h
                simp only [cond_false] at h
                split at h <;> first | (cases h; done) | skip
                rename_i v H1 hC
                cases hput : A.put o.dst v with
                | none => simp [hput] at h
                | some A1 => simp only [hput] at h; exact key _ _ _ _ (.quiet hw hop hC) hput h
          | _ => simp at h
theorem draw_all {P : Program} {lo : Nat} {C : CallF} {ops : Array Oper} {A A' : Fr} {H H' : Hp} (h : drawn P lo C ops A H = some (A', H')) : ∃ (As : Nat → Fr) (Hs : Nat → Hp) (kd : Nat → Kd), As 0 = A ∧ Hs 0 = H ∧ As ops.size = A' ∧ Hs ops.size = H' ∧ Trace P lo C ops As Hs kd ops.size ∧ RegS ops ∧
    (∀ i j, i < j → j < ops.size → clashR (kd j) (kd i) = true → Anc ops j i) ∧ (RoLow lo H ∨ ∀ i j, i < j → j < ops.size → clash (kd j) (kd i) = true → Anc ops j i) := by
  unfold drawn at h
  split at h <;> first | (cases h; done) | skip
  rename_i ks A1 H1 hr
  obtain ⟨hb, h⟩ := bif_some h
  cases h
  simp only [Bool.and_eq_true, Bool.or_eq_true] at hb
  obtain ⟨As, Hs, kd, e1, e2, e3, e4, e5, e6⟩ := draw_trace ops.toList 0 [] A H ks A' H' (fun k => by simp) hr
  simp only [Nat.zero_add, Array.length_toList, List.append_nil] at e3 e4 e5 e6
  have hget : ∀ j, j < ops.size → ks[ops.size - 1 - j]? = some (kd j) := fun j hj => by
    rw [e5]
    have : ops.size = ((List.range ops.size).map fun j => kd j).length := by simp
    conv => lhs; rw [this]
    have hl : ((List.range (List.map (fun j => kd j) (List.range ops.size)).length).map fun j => kd j) = (List.range ops.size).map fun j => kd j := by simp
    rw [hl, rev_get _ _ (by simpa using hj)]
    simp [hj]
  have hlen : ks.length = ops.size := by rw [e5]; simp
  suffices hs : (∀ i j, i < j → j < ops.size → clash (kd j) (kd i) = true → Anc ops j i) ∨ ((∀ i j, i < j → j < ops.size → clashR (kd j) (kd i) = true → Anc ops j i) ∧ RoLow lo H) by
    refine ⟨As, Hs, kd, e1, e2, e3, e4, ⟨fun j hj => e6 j (Nat.zero_le _) hj⟩, regOk_spec hb.2, ?_⟩
    rcases hs with hs | ⟨hs, hr⟩
    · exact ⟨fun i j a b c => hs i j a b (clashR_le c), .inr hs⟩
    · exact ⟨hs, .inl hr⟩
  rcases hb.1 with (hcalm | hp) | hp
  · refine .inl fun i j hij hj hc => ?_
    exfalso
    have c1 := List.all_eq_true.1 hcalm (kd j) (List.mem_of_getElem? (hget j hj))
    have c2 := List.all_eq_true.1 hcalm (kd i) (List.mem_of_getElem? (hget i (by omega)))
    revert hc c1 c2
    cases kd j <;> cases kd i <;> simp [calm, clash]
  · exact .inl fun i j hij hj hc => pairs_anc (f := kd) hlen hget hp hij hj hc
  · exact .inr ⟨fun i j hij hj hc => pairs_anc (f := kd) hlen hget hp.1 hij hj hc, roLow_spec hp.2⟩
theorem Trace.le {P : Program} {lo : Nat} {C : CallF} {ops : Array Oper} {As : Nat → Fr} {Hs : Nat → Hp} {kd : Nat → Kd} {n : Nat} (h : Trace P lo C ops As Hs kd n) : n ≤ ops.size := by
  rcases Nat.eq_zero_or_pos n with rfl | hp
  · exact Nat.zero_le _
  · obtain ⟨o, v, ho, _⟩ := h.step (n - 1) (by omega)
    rcases Nat.lt_or_ge (n - 1) ops.size with q | q
    · omega
    · rw [Array.getElem?_eq_none q] at ho; cases ho
def PStep (P : Program) (lo : Nat) (C : CallF) (ops : Array Oper) (o : Oper) (A : Fr) (H : Hp) (v : Value) (H' : Hp) : Prop :=
  wantedA ops A o = some true ∧ ((∃ k, aOp P lo A H o = some (.pan v, k) ∧ H' = H) ∨ ∃ t args k lo', aOp P lo A H o = some (.call t args, k) ∧ (lo' = lo ∨ lo' = H.next) ∧ C lo' t args H = some (.pan v, H'))
def PK2 (k : Kd) : Prop := k = .full ∨ k = .heavy
theorem draw_traceP {P : Program} {lo : Nat} {C : CallF} {ops : Array Oper} : ∀ (l : List Oper) (i : Nat) (ks : List Kd) (A : Fr) (H : Hp) (ks' : List Kd) (v : Value) (H' : Hp), (∀ k, l[k]? = ops[i + k]?) → runDrawP P lo C ops l i ks A H = some (ks', v, H') →
    ∃ (d : Nat) (As : Nat → Fr) (Hs : Nat → Hp) (kd : Nat → Kd), d < l.length ∧ As i = A ∧ Hs i = H ∧ PK2 (kd (i + d)) ∧ ks' = ((List.range (d + 1)).map fun j => kd (i + j)).reverse ++ ks ∧
      (∀ j, i ≤ j → j < i + d → ∃ o v, ops[j]? = some o ∧ DStep P lo C ops o (As j) (Hs j) (kd j) v (Hs (j + 1)) ∧ (As j).put o.dst v = some (As (j + 1))) ∧
      ∃ o, ops[i + d]? = some o ∧ PStep P lo C ops o (As (i + d)) (Hs (i + d)) v H'
  | [], i, ks, A, H, ks', v, H', _, h => by
    simp only [runDrawP] at h
    cases h
  | o :: l, i, ks, A, H, ks', pv, H', hl, h => by
    have ho : ops[i]? = some o := by simpa using (hl 0).symm
    have key : ∀ (k : Kd) (v : Value) (H1 : Hp) (A1 : Fr), DStep P lo C ops o A H k v H1 → A.put o.dst v = some A1 → runDrawP P lo C ops l (i + 1) (k :: ks) A1 H1 = some (ks', pv, H') →
        ∃ (d : Nat) (As : Nat → Fr) (Hs : Nat → Hp) (kd : Nat → Kd), d < (o :: l).length ∧ As i = A ∧ Hs i = H ∧ PK2 (kd (i + d)) ∧ ks' = ((List.range (d + 1)).map fun j => kd (i + j)).reverse ++ ks ∧
          (∀ j, i ≤ j → j < i + d → ∃ o v, ops[j]? = some o ∧ DStep P lo C ops o (As j) (Hs j) (kd j) v (Hs (j + 1)) ∧ (As j).put o.dst v = some (As (j + 1))) ∧
          ∃ o, ops[i + d]? = some o ∧ PStep P lo C ops o (As (i + d)) (Hs (i + d)) pv H' := by
      intro k v H1 A1 hd hp hr
      obtain ⟨d, As, Hs, kd, e0, e1, e2, e3, e5, e6, e7⟩ := draw_traceP l (i + 1) (k :: ks) A1 H1 ks' pv H' (fun k => by have := hl (k + 1); simpa [Nat.add_assoc, Nat.add_comm 1 k] using this) hr
      have hd1 : i + (d + 1) = i + 1 + d := by omega
      have hne : ¬ (i + 1 + d = i) := by omega
      refine ⟨d + 1, fun j => if j = i then A else As j, fun j => if j = i then H else Hs j, fun j => if j = i then k else kd j, by simp; omega, by simp, by simp, ?_, ?_, ?_, ?_⟩
      · simp only [hd1, if_neg hne]; exact e3
      · rw [e5]
        rw [List.range_succ_eq_map (n := d + 1)]
        simp only [List.map_cons, List.map_map, List.reverse_cons, List.append_assoc, List.singleton_append, Nat.add_zero, if_true]
        congr 2
        apply List.map_congr_left
        intro j _
        simp only [Function.comp]
        rw [if_neg (by omega)]
        congr 1; omega
      · intro j h1 h2
        by_cases hji : j = i
        · subst hji
          have : ¬ (j + 1 = j) := by omega
          simp only [if_true, this, if_false, e1, e2]
          exact ⟨o, v, ho, hd, hp⟩
        · have h3 : ¬ (j + 1 = i) := by omega
          simp only [hji, if_false, h3]
          exact e6 j (by omega) (by omega)
      · simp only [hd1, if_neg hne]; exact e7
    have stop : ∀ (kp : Kd) (v : Value) (H1 : Hp), PK2 kp → PStep P lo C ops o A H v H1 → some (kp :: ks, v, H1) = some (ks', pv, H') →
        ∃ (d : Nat) (As : Nat → Fr) (Hs : Nat → Hp) (kd : Nat → Kd), d < (o :: l).length ∧ As i = A ∧ Hs i = H ∧ PK2 (kd (i + d)) ∧ ks' = ((List.range (d + 1)).map fun j => kd (i + j)).reverse ++ ks ∧
          (∀ j, i ≤ j → j < i + d → ∃ o v, ops[j]? = some o ∧ DStep P lo C ops o (As j) (Hs j) (kd j) v (Hs (j + 1)) ∧ (As j).put o.dst v = some (As (j + 1))) ∧
          ∃ o, ops[i + d]? = some o ∧ PStep P lo C ops o (As (i + d)) (Hs (i + d)) pv H' := by
      intro kp v H1 hkp hp he
      cases he
      exact ⟨0, fun _ => A, fun _ => H, fun _ => kp, by simp, rfl, rfl, hkp, by simp, fun j h1 h2 => by omega, o, ho, hp⟩
    simp only [runDrawP] at h
    cases hw : wantedA ops A o with
    | none => simp [hw] at h
    | some b =>
      cases b with
      | false =>
        simp only [hw] at h
        cases hput : A.put o.dst undef with
        | none => simp [hput] at h
        | some A1 => simp only [hput] at h; exact key _ _ _ _ (.passed hw) hput h
      | true =>
        simp only [hw] at h
        cases hop : aOp P lo A H o with
        | none => simp [hop] at h
        | some q =>
          obtain ⟨rs, k⟩ := q
          simp only [hop] at h
          cases rs with
          | val v H1 =>
            simp only at h
            obtain ⟨hkd, h⟩ := bif_some h
            cases hput : A.put o.dst v with
            | none => simp [hput] at h
            | some A1 => simp only [hput] at h; exact key _ _ _ _ (dstep_val hw hop hkd) hput h
          | skip H1 =>
            simp only at h
            cases hput : A.put o.dst undef with
            | none => simp [hput] at h
            | some A1 => simp only [hput] at h; exact key _ _ _ _ (.skip hw hop) hput h
          | pan v => exact stop _ _ _ (.inl rfl) ⟨hw, .inl ⟨k, hop, rfl⟩⟩ h
          | call t args =>
            simp only at h
            cases hord : ordered ops.toList (ancL ops.toList) i with
            | true =>
              rw [hord] at h
              simp only [cond_true] at h
              split at h <;> first | (cases h; done) | skip
              · rename_i v H1 hC
                cases hput : A.put o.dst v with
                | none => simp [hput] at h
                | some A1 => simp only [hput] at h; exact key _ _ _ _ (.full hw hop hC) hput h
              · rename_i v H1 hC
                exact stop _ _ _ (.inl rfl) ⟨hw, .inr ⟨t, args, k, lo, hop, .inl rfl, hC⟩⟩ h
            | false =>
              rw [hord] at h
              simp only [cond_false] at h
              cases hmk : marked t with
              | true =>
                rw [hmk] at h
                simp only [cond_true] at h
                split at h <;> first | (cases h; done) | skip
                rename_i v H1 hC
                cases hob : oneBlock lo H H1 with
                | none => simp [hob] at h
                | some b =>
                  simp only [hob] at h
                  cases hput : A.put o.dst v with
                  | none => simp [hput] at h
                  | some A1 => simp only [hput] at h; exact key _ _ _ _ (.one hw hop hC (oneBlock_spec hob).1 (oneBlock_spec hob).2) hput h
              | false =>
                rw [hmk] at h
                simp only [cond_false] at h
                split at h <;> first | (cases h; done) | skip
                · rename_i v H1 hC
                  cases hput : A.put o.dst v with
                  | none => simp [hput] at h
                  | some A1 => simp only [hput] at h; exact key _ _ _ _ (.quiet hw hop hC) hput h
                · rename_i v H1 hC
                  exact stop _ _ _ (.inr rfl) ⟨hw, .inr ⟨t, args, k, H.next, hop, .inr rfl, hC⟩⟩ h
          | _ => simp at h
theorem draw_allP {P : Program} {lo : Nat} {C : CallF} {ops : Array Oper} {A : Fr} {H : Hp} {v : Value} {H' : Hp} (h : drawnP P lo C ops A H = some (v, H')) : ∃ (n : Nat) (As : Nat → Fr) (Hs : Nat → Hp) (kd : Nat → Kd) (o : Oper), As 0 = A ∧ Hs 0 = H ∧ Trace P lo C ops As Hs kd n ∧ RegS ops ∧
    (∀ i j, i < j → j ≤ n → clash (kd j) (kd i) = true → Anc ops j i) ∧ (∀ j, n < j → j < ops.size → Anc ops j n) ∧ PK2 (kd n) ∧ ops[n]? = some o ∧ PStep P lo C ops o (As n) (Hs n) v H' := by
  unfold drawnP at h
  split at h <;> first | (cases h; done) | skip
  rename_i ks v1 H1 hr
  obtain ⟨hb, h⟩ := bif_some h
  cases h
  simp only [Bool.and_eq_true] at hb
  obtain ⟨n, As, Hs, kd, e0, e1, e2, e3, e5, e6, o, ho, hp⟩ := draw_traceP ops.toList 0 [] A H ks v H' (fun k => by simp) hr
  simp only [Nat.zero_add, Array.length_toList, List.append_nil] at e0 e3 e5 e6 ho hp
  have hlen : ks.length = n + 1 := by rw [e5]; simp
  rw [hlen] at hb
  refine ⟨n, As, Hs, kd, o, e1, e2, ⟨fun j hj => e6 j (Nat.zero_le _) hj⟩, regOk_spec hb.2, fun i j hij hj hc => ?_, fun j h1 h2 => behind_anc hb.1.2 h1 h2, e3, ho, hp⟩
  have hget : ∀ j, j < n + 1 → ks[n + 1 - 1 - j]? = some (kd j) := fun j hj => by
    rw [e5]
    have hl : ((List.range (n + 1)).map fun j => kd j).length = n + 1 := by simp
    have := rev_get ((List.range (n + 1)).map fun j => kd j) j (by rw [hl]; exact hj)
    rw [hl] at this
    rw [this]
    simp [hj]
  exact pairs_ancP (f := kd) hlen (by omega) hget hb.1.1 hij (by omega) hc
/-! ### The order that the machine draws -/
theorem ready_iff {ops : Array Oper} {L : Array Bool} {i : Nat} : i ∈ Region.ready .any ops L ↔ (i < ops.size ∧ L.getD i true = false ∧ ∃ o, ops[i]? = some o ∧ ∀ e ∈ o.after, Region.binds .any e = true → L.getD e.on false = true) := by
  unfold Region.ready
  simp only [List.mem_filter, List.mem_range, Bool.and_eq_true, Bool.not_eq_true']
  constructor
  · rintro ⟨h1, h2, h3⟩
    refine ⟨h1, h2, ?_⟩
    cases ho : ops[i]? with
    | none => simp [ho] at h3
    | some o =>
      refine ⟨o, rfl, fun e he hb => ?_⟩
      simp only [ho, Option.map_some, Option.getD_some, Array.all_eq_true'] at h3
      have := h3 e he
      simpa [hb] using this
  · rintro ⟨h1, h2, o, ho, h3⟩
    refine ⟨h1, h2, ?_⟩
    simp only [ho, Option.map_some, Option.getD_some, Array.all_eq_true']
    intro e he
    cases hb : Region.binds .any e with
    | false => simp
    | true => simp [h3 e he hb]
theorem none_ready {ops : Array Oper} {L : Array Bool} (hS : RegS ops) (hL : L.size = ops.size) (h : Region.ready .any ops L = []) : ∀ i, i < ops.size → L.getD i false = true := by
  intro i
  induction i using Nat.strongRecOn with
  | _ i ih =>
    intro hi
    cases hb : L.getD i true with
    | true =>
      have : L[i]? = some (L[i]'(by omega)) := Array.getElem?_eq_getElem (by omega)
      simp only [Array.getD_eq_getD_getElem?, this, Option.getD_some] at hb ⊢
      exact hb
    | false =>
      exfalso
      have ho : ops[i]? = some ops[i] := Array.getElem?_eq_getElem hi
      have : i ∈ Region.ready .any ops L := ready_iff.2 ⟨hi, hb, _, ho, fun e he hbind => ih e.on (hS.back i _ ho e he hbind) (by have := hS.back i _ ho e he hbind; omega)⟩
      rw [h] at this
      cases this
end Go.Ax

import Derived.Test.YtkdgngdnmgelnaaAxW1
set_option linter.all false
/-! The evaluator for all inputs, 2: what is asked is enough for one operation. -/
namespace Go.Ax
open Go Go.RowKit
theorem trS_get : ∀ (S : Rg) (j : Nat), (trS S).get j = lk S j
  | [], j => by simp [trS, Tr.get_nil, lk]
  | (i, v) :: r, j => by
    simp only [trS, lk, Tr.get_set, trS_get r j, beq_eq]
    by_cases h : j = i
    · subst h; simp
    · rw [if_neg h, decide_eq_false (fun e => h e.symm)]; rfl
theorem ev_frS (n : Nat) (S : Rg) (x : Operand) : ev (frS n S) x = evS S x := by
  cases x <;> simp [ev, evS, frS, trS_get]
section
variable {S : Rg} {A : Fr}
theorem ev_of (hA : Knows S A.T) {x : Operand} {v : Value} (h : evS S x = some v) : ev A x = some v := by
  cases x with
  | tmp t => exact hA t v h
  | const c => exact h
  | func f => exact h
  | global g => exact h
theorem evs_of (hA : Knows S A.T) : ∀ {xs : List Operand} {vs : List Value}, evsS S xs = some vs → evs A xs = some vs
  | [], vs, h => h
  | x :: xs, vs, h => by
    simp only [evsS] at h
    cases h1 : evS S x with
    | none => simp [h1] at h
    | some v =>
      cases h2 : evsS S xs with
      | none => simp [h1, h2] at h
      | some vs' =>
        simp [h1, h2] at h; subst h
        simp only [evs, ev_of hA h1, evs_of hA h2]
theorem target_of (hA : Knows S A.T) {c : Call} {p : Target × List Value} (h : targetS S c = some p) : targetOf A c = some p := by
  unfold targetS at h
  unfold targetOf
  cases h1 : evsS S c.args.toList with
  | none => simp [h1] at h
  | some vs =>
    simp only [h1] at h
    simp only [evs_of hA h1]
    cases hc : c.callee with
    | builtin b => simp [hc] at h
    | invoke r name =>
      simp only [hc] at h ⊢
      cases h2 : evS S r with
      | none => simp [h2] at h
      | some v => simp only [h2] at h; simp only [ev_of hA h2]; exact h
    | value f =>
      simp only [hc] at h ⊢
      cases h2 : evS S f with
      | none => simp [h2] at h
      | some v => simp only [h2] at h; simp only [ev_of hA h2]; exact h
theorem defd_mem : ∀ {l : List Operand}, defd S l = true → ∀ x ∈ l, ∃ v, evS S x = some v
  | [], _, x, hx => by cases hx
  | y :: l, h, x, hx => by
    simp only [defd, Bool.and_eq_true] at h
    cases hx with
    | head =>
      cases h1 : evS S y with
      | none => simp [h1] at h
      | some v => exact ⟨v, rfl⟩
    | tail _ hx => exact defd_mem h.2 x hx
theorem defd_congr (hA : Knows S A.T) {n : Nat} {o : Oper} (h : defd S o.op.operands.toList = true) : ∀ x ∈ o.op.operands, ev A x = ev (frS n S) x := by
  intro x hx
  obtain ⟨v, hv⟩ := defd_mem h x (by simpa using hx)
  rw [ev_frS, hv, ev_of hA hv]
end
theorem wrap_i64 {x : Int} (h : InR x) : IntKind.i64.wrap x = x := by
  obtain ⟨h1, h2⟩ := h
  unfold IntKind.wrap IntKind.bits IntKind.signed
  simp
  omega
theorem bif_true {α : Type} {b : Bool} (h : b = true) (x y : α) : (bif b then x else y) = x := by rw [h]; rfl
theorem add_none (b o k : Nat) : Addr.add ⟨b, o, none⟩ k = ⟨b, o + k, none⟩ := by
  unfold Addr.add
  by_cases h : k = 0
  · subst h; rfl
  · rw [if_neg h]
def DoneO (P : Program) (kn : FuncId → Option Bool) (lo : Nat) (ord : Bool) (A : Fr) (H : Hp) (K : Value → Hp → Kd → Prop) (o : Oper) : Prop :=
  (∃ v H' k, aOp P lo A H o = some (.val v H', k) ∧ ((∀ b, k = .read b → b < H.next) → kdOk k H = true) ∧ K v H' k) ∨ (∃ H' k, aOp P lo A H o = some (.skip H', k) ∧ K undef H' k) ∨
  (∃ t vs v H', aOp P lo A H o = some (.call t vs, .full) ∧ (!ord && marked t) = false ∧ CallsX P kn (bif ord then lo else H.next) t vs H v H' ∧ K v H' (bif ord then .full else .heavy)) ∨
  (∃ t vs v H' b, aOp P lo A H o = some (.call t vs, .full) ∧ ord = false ∧ marked t = true ∧ CallsX P kn lo t vs H v H' ∧ oneBlock lo H H' = some b ∧ K v H' (.store b))
theorem kd_of {k : Kd} {H : Hp} : (∀ b, k = .read b → b < H.next) → kdOk k H = true := by
  intro h
  cases k with
  | read b => exact Nat.ble_eq_true_of_le (h b rfl)
  | _ => rfl
section
variable {P : Program} {kn : FuncId → Option Bool} {lo n : Nat} {ops : List Oper} {ord : Bool} {A : Fr} {S : Rg} {H : Hp} {K : Value → Hp → Kd → Prop} {o : Oper}
theorem done_pure {v : Value} (h : pureOp P A o = some v) (hk : K v H .pure) : DoneO P kn lo ord A H K o :=
  .inl ⟨v, H, .pure, by unfold aOp; rw [h], kd_of, hk⟩
theorem done_mem {v : Value} {H' : Hp} {k : Kd} (h1 : pureOp P A o = none) (h2 : heapOp P lo A H o = some (.val v H', k)) (hk : K v H' k) : DoneO P kn lo ord A H K o :=
  .inl ⟨v, H', k, by unfold aOp; rw [h1]; exact h2, kd_of, hk⟩
theorem done_skip {H' : Hp} {k : Kd} (h1 : pureOp P A o = none) (h2 : heapOp P lo A H o = some (.skip H', k)) (hk : K undef H' k) : DoneO P kn lo ord A H K o :=
  .inr (.inl ⟨H', k, by unfold aOp; rw [h1]; exact h2, hk⟩)
theorem clean_pure (B : Fr) (o : Oper) : pureOp P B (clean o) = pureOp P B o := rfl
theorem clean_heap (B : Fr) (o : Oper) : heapOp P lo B H (clean o) = heapOp P lo B H o := rfl
theorem pur_sound (hA : Knows S A.T) (h : wRI P kn lo n S H K (.pur (clean o))) : DoneO P kn lo ord A H K o := by
  obtain ⟨hd, v, hv, hk⟩ := h
  rw [clean_pure] at hv
  have hd : defd S o.op.operands.toList = true := hd
  exact done_pure ((pureOp_congr (defd_congr hA hd)).trans hv) hk
theorem mem_sound (hA : Knows S A.T) (h : wRI P kn lo n S H K (.mem (clean o))) : DoneO P kn lo ord A H K o := by
  obtain ⟨hd, ⟨v, hv, hk⟩ | ⟨h1, v, H', k, h2, _, hk⟩⟩ := h
  all_goals have hd : defd S o.op.operands.toList = true := hd
  · rw [clean_pure] at hv
    exact done_pure ((pureOp_congr (defd_congr hA hd)).trans hv) hk
  · rw [clean_pure] at h1
    rw [clean_heap] at h2
    exact done_mem ((pureOp_congr (defd_congr hA hd)).trans h1) ((heapOp_congr (defd_congr hA hd)).trans h2) hk
theorem call_sound {c : Call} (hb : ∀ b, c.callee ≠ .builtin b) (hop : o.op = .call c) (hA : Knows S A.T) (h : wRI P kn lo n S H K (.call c ord)) : DoneO P kn lo ord A H K o := by
  simp only [wRI] at h
  split at h <;> first | exact h.elim | skip
  rename_i t vs ht
  have e1 : aOp P lo A H o = some (.call t vs, .full) := by
    have e : pureOp P A o = none := by
      unfold pureOp; rw [hop]
      cases hcal : c.callee with
      | builtin b => exact absurd hcal (hb b)
      | _ => simp only [hcal]
    unfold aOp
    rw [e]
    unfold heapOp
    rw [hop]
    cases hcal : c.callee with
    | builtin b => exact absurd hcal (hb b)
    | _ => simp only [hcal, target_of hA ht]
  cases hm : (!ord && marked t) with
  | false =>
    rw [hm] at h
    simp only [cond_false] at h
    obtain ⟨v, H', hc, hk⟩ := h
    exact .inr (.inr (.inl ⟨t, vs, v, H', e1, hm, hc, hk⟩))
  | true =>
    rw [hm] at h
    simp only [cond_true] at h
    obtain ⟨v, H', b, hc, h1, h2, h3, h4, hk⟩ := h
    simp only [Bool.and_eq_true, Bool.not_eq_true'] at hm
    refine .inr (.inr (.inr ⟨t, vs, v, H', b, e1, hm.1, hm.2, hc, ?_, hk⟩))
    have hex : ∃ b, lo ≤ b ∧ oneOnly H H' b := ⟨b, h1, h4⟩
    unfold oneBlock
    rw [dif_pos hex]
    have hs := (Classical.choose_spec hex).2
    by_cases q : Classical.choose hex = b
    · rw [q]
    · exact absurd (hs b h3 (fun e => q e.symm)) h2
theorem tdiv_pos {a b : Int} (ha : 0 ≤ a) (_hb : 0 < b) : a.tdiv b = a / b := Int.tdiv_eq_ediv_of_nonneg ha
theorem tmod_pos {a b : Int} (ha : 0 ≤ a) : a.tmod b = a % b := Int.tmod_eq_emod_of_nonneg ha
theorem ari_sound {op : BinOp} {t ty : TypeId} {x y : Operand} (hop : o.op = .binOp op t x y ty) (hA : Knows S A.T) (h : wRI P kn lo n S H K (.ari op x y)) : DoneO P kn lo ord A H K o := by
  simp only [wRI] at h
  split at h <;> first | exact h.elim | skip
  · rename_i a b h1 h2
    obtain ⟨hr, h⟩ := h
    refine done_pure ?_ h
    have : pureOp P A o = some (.int .i64 (IntKind.i64.wrap (a + b))) := by unfold pureOp; rw [hop]; simp only [ev_of hA h1, ev_of hA h2]; rfl
    rw [this, wrap_i64 hr]
  · rename_i a b h1 h2
    obtain ⟨hr, h⟩ := h
    refine done_pure ?_ h
    have : pureOp P A o = some (.int .i64 (IntKind.i64.wrap (a - b))) := by unfold pureOp; rw [hop]; simp only [ev_of hA h1, ev_of hA h2]; rfl
    rw [this, wrap_i64 hr]
  · rename_i a b h1 h2
    obtain ⟨hr, h⟩ := h
    refine done_pure ?_ h
    have : pureOp P A o = some (.int .i64 (IntKind.i64.wrap (a * b))) := by unfold pureOp; rw [hop]; simp only [ev_of hA h1, ev_of hA h2]; rfl
    rw [this, wrap_i64 hr]
  · rename_i a b h1 h2
    obtain ⟨ha, hb, hr, h⟩ := h
    refine done_pure ?_ h
    have : pureOp P A o = match prun P (Op.intDiv .quo .i64 a b) with | some v => bif flat v then some v else none | none => none := by unfold pureOp; rw [hop]; simp only [ev_of hA h1, ev_of hA h2]; rfl
    rw [this]
    unfold Op.intDiv
    rw [if_neg (by omega)]
    simp only [tdiv_pos ha hb]
    show some (Value.int .i64 (IntKind.i64.wrap (a / b))) = _
    rw [wrap_i64 ⟨by have := Int.ediv_nonneg ha (Int.le_of_lt hb); omega, by have := Int.ediv_le_self b ha; have := hr.2; omega⟩]
  · rename_i a b h1 h2
    obtain ⟨ha, hb, hr, hr2, h⟩ := h
    refine done_pure ?_ h
    have : pureOp P A o = match prun P (Op.intDiv .rem .i64 a b) with | some v => bif flat v then some v else none | none => none := by unfold pureOp; rw [hop]; simp only [ev_of hA h1, ev_of hA h2]; rfl
    rw [this]
    unfold Op.intDiv
    rw [if_neg (by omega)]
    simp only [tmod_pos ha]
    rfl
theorem cmp_sound {op : BinOp} {t ty : TypeId} {x y : Operand} (hop : o.op = .binOp op t x y ty) (hA : Knows S A.T) (h : wRI P kn lo n S H K (.cmp op x y)) : DoneO P kn lo ord A H K o := by
  simp only [wRI] at h
  split at h <;> first | exact h.elim | skip
  all_goals
    rename_i a b h1 h2
    refine done_pure ?_ h
    unfold pureOp; rw [hop]; simp only [ev_of hA h1, ev_of hA h2]; rfl
theorem cmpb_sound {op : BinOp} {t ty : TypeId} {x y : Operand} (hop : o.op = .binOp op t x y ty) (hA : Knows S A.T) (h : wRI P kn lo n S H K (.cmpb op x y)) : DoneO P kn lo ord A H K o := by
  simp only [wRI] at h
  split at h <;> first | exact h.elim | skip
  all_goals
    rename_i a b h1 h2
    refine done_pure ?_ (h _ rfl)
    unfold pureOp; rw [hop]; simp only [ev_of hA h1, ev_of hA h2]; rfl
theorem mm_int (a b : Int) : (if b < a then b else a) = min a b := by
  rw [Int.min_def]
  split <;> split <;> omega
theorem mx_int (a b : Int) : (if b > a then b else a) = max a b := by
  rw [Int.max_def]
  split <;> split <;> omega
theorem wRI_sound {ri : RI} (hl : lowRI P ops ord o = some ri) (hA : Knows S A.T) (h : wRI P kn lo n S H K ri) : DoneO P kn lo ord A H K o := by
  unfold lowRI at hl
  split at hl <;> (rename_i hop; first | (cases hl; done) | skip)
  case h_1 x =>
    cases hl
    simp only [wRI] at h
    split at h <;> first | exact h.elim | skip
    rename_i v hv
    exact done_pure (by unfold pureOp; rw [hop]; exact ev_of hA hv) h
  case h_2 x =>
    cases hl
    simp only [wRI] at h
    split at h <;> first | exact h.elim | skip
    rename_i v hv
    exact done_pure (by unfold pureOp; rw [hop]; exact ev_of hA hv) h
  case h_3 x =>
    cases hl
    simp only [wRI] at h
    split at h <;> first | exact h.elim | skip
    all_goals
      rename_i hv
      exact done_pure (by unfold pureOp; rw [hop]; simp only [ev_of hA hv]) h
  case h_4 s x f =>
    split at hl <;> first | (cases hl; done) | skip
    rename_i fs hs
    split at hl <;> first | (cases hl; done) | skip
    rename_i fd hf
    split at hl <;> first | (cases hl; done) | skip
    rename_i i hi
    cases hz : Nat.beq i.size 0 with
    | true => rw [hz] at hl; cases hl
    | false =>
      rw [hz] at hl; cases hl
      simp only [wRI] at h
      split at h <;> first | exact h.elim | skip
      rename_i b o' hv
      exact done_pure (by unfold pureOp; rw [hop]; simp only [ev_of hA hv, hs, hf, hi, hz, cond_false, add_none]) h
  case h_5 t x i =>
    split at hl <;> first | (cases hl; done) | skip
    · rename_i e ht
      split at hl <;> first | (cases hl; done) | skip
      rename_i inf hi
      cases hl
      simp only [wRI] at h
      split at h <;> first | exact h.elim | skip
      rename_i b o' len cp kd j h1 h2
      obtain ⟨k, rfl, hk, h⟩ := h
      exact done_pure (by unfold pureOp; rw [hop]; simp only [ev_of hA h1, ev_of hA h2, ht, hi, show ((k : Nat) : Int) = Int.ofNat k from rfl, Nat.ble_eq_true_of_le (show k + 1 ≤ len from hk), cond_true, add_none]) h
    · rename_i len e ht
      split at hl <;> first | (cases hl; done) | skip
      rename_i inf hi
      cases hl
      simp only [wRI] at h
      split at h <;> first | exact h.elim | skip
      rename_i b o' kd j h1 h2
      obtain ⟨k, rfl, hk, h⟩ := h
      exact done_pure (by unfold pureOp; rw [hop]; simp only [ev_of hA h1, ev_of hA h2, ht, hi, show ((k : Nat) : Int) = Int.ofNat k from rfl, Nat.ble_eq_true_of_le (show k + 1 ≤ len from hk), cond_true, add_none]) h
  case h_6 t x =>
    split at hl <;> first | (cases hl; done) | skip
    · rename_i i hi ha
      cases hl
      simp only [wRI] at h
      split at h <;> first | exact h.elim | skip
      rename_i b o' hv
      obtain ⟨cs, r, hc, hr, h⟩ := h
      exact done_mem (by unfold pureOp; rw [hop]) (by unfold heapOp; rw [hop]; simp only [ev_of hA hv, loadV, hc, ha, hi, hr]) h
    · rename_i i hi ha
      cases hl
      simp only [wRI] at h
      split at h <;> first | exact h.elim | skip
      rename_i b o' hv
      obtain ⟨cs, v, hc, hr, h⟩ := h
      exact done_mem (by unfold pureOp; rw [hop]) (by unfold heapOp; rw [hop]; simp only [ev_of hA hv, loadV, hc, ha, hr]) h
  case h_7 t x y =>
    split at hl <;> first | (cases hl; done) | skip
    rename_i i hi
    have key : ∀ m, i.size = m → wRI P kn lo n S H K (.sta x y m) → DoneO P kn lo ord A H K o := by
      intro m hm h
      simp only [wRI] at h
      split at h <;> first | exact h.elim | skip
      rename_i b o' v h1 h2
      obtain ⟨cs, e, l, hc, hlo, hv1, hv2, ho, h⟩ := h
      refine done_skip (by unfold pureOp; rw [hop]) (k := .store b) (H' := H.up b (.cells (putRow cs o' v.cells.toList) e l)) ?_ (h _ rfl)
      unfold heapOp
      rw [hop]
      simp only [ev_of hA h1, ev_of hA h2, storeV, hc, hi, hm, Nat.ble_eq_true_of_le hlo, Nat.ble_eq_true_of_le ho, hv1, hv2, Nat.beq_refl, Bool.and_true, cond_true]
      rfl
    cases hz : Nat.beq i.size 1 with
    | false => rw [hz] at hl; cases hl; exact key _ rfl h
    | true =>
      rw [hz] at hl
      simp only [cond_true] at hl
      split at hl
      · cases hl
        refine key 1 (Nat.eq_of_beq_eq_true hz) ?_
        simp only [wRI] at h ⊢
        split at h <;> first | exact h.elim | skip
        rename_i b o' v h1 h2
        obtain ⟨cs, e, l, hc, hlo, hv1, hv2, ho, h⟩ := h
        refine ⟨cs, e, l, hc, hlo, by rw [hv1]; rfl, by rw [hv1]; simp [hv2], ho, ?_⟩
        rw [hv1]
        exact h
      · cases hl; exact key _ rfl h
  case h_8 op t x y ty =>
    cases hi : isI64 P t with
    | false => rw [hi] at hl; cases hl; exact pur_sound hA h
    | true =>
      rw [hi] at hl
      simp only [cond_true] at hl
      cases ha : arith op with
      | true => rw [ha] at hl; cases hl; exact ari_sound hop hA h
      | false =>
        rw [ha] at hl
        simp only [cond_false] at hl
        cases hc : compares op with
        | true =>
          rw [hc] at hl
          simp only [cond_true] at hl
          cases hg : hasGuard ops with
          | true => rw [hg] at hl; cases hl; exact cmpb_sound hop hA h
          | false => rw [hg] at hl; cases hl; exact cmp_sound hop hA h
        | false => rw [hc] at hl; cases hl; exact pur_sound hA h
  case h_9 e x =>
    cases hl
    simp only [wRI] at h
    split at h <;> first | exact h.elim | skip
    rename_i v hv
    exact done_mem (by unfold pureOp; rw [hop]) (by unfold heapOp; rw [hop]; simp only [ev_of hA hv]) (h _ rfl)
  case h_10 e =>
    split at hl <;> first | (cases hl; done) | skip
    rename_i z hz
    cases hl
    simp only [wRI] at h
    exact done_mem (by unfold pureOp; rw [hop]) (by unfold heapOp; rw [hop]; simp only [hz]) (h _ rfl)
  case h_11 c =>
    split at hl
    · rename_i hcal
      split at hl <;> first | (cases hl; done) | skip
      rename_i t ht
      split at hl
      · rename_i e x hu hargs
        cases hl
        simp only [wRI] at h
        split at h <;> first | exact h.elim | skip
        rename_i a m cp hv
        refine done_pure ?_ h
        unfold pureOp
        rw [hop]
        simp only [hcal, hargs, evs, ev_of hA hv, pureCall, ht, hu]
      · cases hl; exact pur_sound hA h
    · rename_i hcal
      split at hl
      · rename_i x y hargs
        cases hi : isI64 P o.type with
        | false => rw [hi] at hl; cases hl; exact pur_sound hA h
        | true =>
          rw [hi] at hl; cases hl
          simp only [wRI] at h
          split at h <;> first | exact h.elim | skip
          rename_i a b h1 h2
          refine done_pure ?_ h
          unfold pureOp
          rw [hop]
          simp only [hcal, hargs, evs, ev_of hA h1, ev_of hA h2, cond_true]
          show some (Value.int .i64 (if b < a then b else a)) = _
          rw [mm_int]
      · cases hl; exact pur_sound hA h
    · rename_i hcal
      split at hl
      · rename_i x y hargs
        cases hi : isI64 P o.type with
        | false => rw [hi] at hl; cases hl; exact pur_sound hA h
        | true =>
          rw [hi] at hl; cases hl
          simp only [wRI] at h
          split at h <;> first | exact h.elim | skip
          rename_i a b h1 h2
          refine done_pure ?_ h
          unfold pureOp
          rw [hop]
          simp only [hcal, hargs, evs, ev_of hA h1, ev_of hA h2, cond_false]
          show some (Value.int .i64 (if b > a then b else a)) = _
          rw [mx_int]
      · cases hl; exact pur_sound hA h
    · cases hl; exact mem_sound hA h
    · rename_i hcal
      cases hl; exact call_sound (fun b e => hcal b e) hop hA h
  case h_15 =>
    split at hl
    · cases hl; exact pur_sound hA h
    · cases hl; exact mem_sound hA h
  all_goals first
    | (cases hl; exact mem_sound hA h)
    | (cases hl; exact pur_sound hA h)
    | (cases hl; exact False.elim h)
end
end Go.Ax

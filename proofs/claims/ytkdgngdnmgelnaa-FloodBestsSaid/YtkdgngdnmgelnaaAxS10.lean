import Derived.Test.YtkdgngdnmgelnaaAxS9
set_option linter.all false
namespace Go.Ax
open Go Go.RowKit
section
variable {P : Program} {lo base : Nat} {r : Ren} {A : Fr} {H : Hp} {w : World} {tmps : Array Value}
def OpS (P : Program) (lo base : Nat) (r : Ren) (H : Hp) (w : World) (s : Sem Next) : Rs → Prop
  | .val v H' => ∃ r' v' w', s.run P w = .ok (.value v') w' ∧ VR r' v v' ∧ Post P lo base r H w r' H' w'
  | .skip H' => ∃ w', s.run P w = .ok .skip w' ∧ Post P lo base r H w r H' w'
  | .dfr d => ∃ d', s.run P w = .ok (.defer d') w ∧ DR r d d'
  | .recov => s.run P w = .ok .recover w
  | .call t args => ∃ t' args', s.run P w = (invoke t' args').run P w ∧ TgR r t t' ∧ LR r args args'.toList
  | .pan v => ∃ v', s.run P w = .halt (.panic v') w ∧ VR r v v'
theorem OpS.value {s : Sem Value} {v : Value} {H' : Hp} (h : ValS P lo base r H w s v H') : OpS P lo base r H w (do pure (.value (← s))) (.val v H') := by
  obtain ⟨r', v', w', h1, h2, h3⟩ := h
  exact ⟨r', v', w', by simp only [Sem.run_bind, h1, Result.andThen_ok, Sem.run_pure], h2, h3⟩
theorem flatT_vr {r : Ren} {v : Value} (h : flatT v = true) : VR r v v := by
  unfold flatT at h
  split at h
  · rename_i cs
    refine .tuple rfl fun i u u' e e' => ?_
    rw [e] at e'; cases e'
    refine flat_vr (List.all_eq_true.1 h u ?_)
    exact Array.mem_toList_iff.2 (Array.mem_of_getElem? e)
  · exact flat_vr h
theorem lookup_run {t kt et : TypeId} {b : Nat} {es : Array MapEntry} {c : Nat} {k : Value} {ok : Bool} {w : World} (hu : P.underlying t = some (.map kt et)) (hg : w.heap[b]? = some (.map es c)) :
    (Instr.lookup t (.map (some b)) k ok).run P w = (lookupIn t es k ok).run P w := by
  have hgo : (getObj b).run P w = .ok (.map es c) w := by simp [getObj, Sem.run, hg]
  unfold Instr.lookup lookupIn
  simp only [Sem.run_bind, run_underlying hu, Result.andThen_ok, hgo, Sem.run_pure]
  rfl
theorem prun_bindM {α β : Type} (f : α → Sem β) : ∀ (x : Sem α), prun P (x >>= f) = match prun P x with | some a => prun P (f a) | none => none := by
  intro x
  induction x with
  | pure a => rfl
  | program k ih => exact ih P
  | _ => rfl
theorem update_run {t kt et : TypeId} {b : Nat} {es es' : Array MapEntry} {c c' : Nat} {k v : Value} {w : World} (hu : P.underlying t = some (.map kt et)) (hg : w.heap[b]? = some (.map es c)) (hp : prun P (updateIn t es c k v) = some (es', c')) :
    (Instr.mapUpdate t (.map (some b)) k v).run P w = (setObj b (.map es' c')).run P w := by
  have hgo : (getObj b).run P w = .ok (.map es c) w := by simp [getObj, Sem.run, hg]
  have hpu : prun P (underlying t) = some (.map kt et) := by
    simp only [underlying, prun_bindM, program, prun, hu]
    rfl
  unfold updateIn at hp
  rw [prun_bindM, hpu] at hp
  simp only at hp
  rw [prun_bindM] at hp
  split at hp <;> first | (cases hp; done) | skip
  rename_i u1 h1
  rw [prun_bindM] at hp
  split at hp <;> first | (cases hp; done) | skip
  rename_i u2 h2
  unfold Instr.mapUpdate
  simp only [Sem.run_bind, run_underlying hu, Result.andThen_ok, hgo, prun_run _ h1 w, prun_run _ h2 w]
  cases u2 with
  | none =>
    simp only at hp ⊢
    cases hp; rfl
  | some q =>
    obtain ⟨i, x⟩ := q
    simp only at hp ⊢
    rw [prun_bindM] at hp
    split at hp <;> first | (cases hp; done) | skip
    rename_i k2 h3
    simp only [Sem.run_bind, prun_run _ h3 w, Result.andThen_ok]
    cases hp; rfl
theorem entry_run {t kt et : TypeId} {b : Nat} {es es' : Array MapEntry} {c c' : Nat} {k v : Value} {w : World} (hu : P.underlying t = some (.map kt et)) (hg : w.heap[b]? = some (.map es c)) (hp : prun P (entryIn t es c k) = some (v, es', c')) :
    (Instr.mapEntry t (.map (some b)) k).run P w = (do setObj b (.map es' c'); pure v : Sem Value).run P w := by
  have hgo : (getObj b).run P w = .ok (.map es c) w := by simp [getObj, Sem.run, hg]
  have hpu : prun P (underlying t) = some (.map kt et) := by
    simp only [underlying, prun_bindM, program, prun, hu]
    rfl
  unfold entryIn at hp
  rw [prun_bindM, hpu] at hp
  simp only at hp
  rw [prun_bindM] at hp
  split at hp <;> first | (cases hp; done) | skip
  rename_i u1 h1
  rw [prun_bindM] at hp
  split at hp <;> first | (cases hp; done) | skip
  rename_i u2 h2
  unfold Instr.mapEntry
  simp only [Sem.run_bind, run_underlying hu, Result.andThen_ok, hgo, prun_run _ h1 w, prun_run _ h2 w]
  cases u2 with
  | none =>
    simp only at hp ⊢
    rw [prun_bindM] at hp
    split at hp <;> first | (cases hp; done) | skip
    rename_i k2 h3
    simp only [Sem.run_bind, prun_run _ h3 w, Result.andThen_ok]
    cases hp; rfl
  | some q =>
    obtain ⟨i, x⟩ := q
    simp only at hp ⊢
    rw [prun_bindM] at hp
    split at hp <;> first | (cases hp; done) | skip
    rename_i k2 h3
    simp only [Sem.run_bind, prun_run _ h3 w, Result.andThen_ok]
    cases hp; rfl
theorem entryStore_run {t : TypeId} {b : Nat} {es es' : Array MapEntry} {c : Nat} {s v : Value} {w : World} (hg : w.heap[b]? = some (.map es c)) (hp : prun P (entryStoreIn es s v) = some es') :
    (Instr.entryStore t (.map (some b)) s v).run P w = (setObj b (.map es' c)).run P w := by
  have hgo : (getObj b).run P w = .ok (.map es c) w := by simp [getObj, Sem.run, hg]
  unfold entryStoreIn at hp
  rw [prun_bindM] at hp
  split at hp <;> first | (cases hp; done) | skip
  rename_i u1 h1
  unfold Instr.entryStore
  simp only [Sem.run_bind, Result.andThen_ok, hgo, prun_run _ h1 w]
  split at hp <;> first | (cases hp; done) | skip
  rename_i i hi
  cases hp
  rw [hi]
theorem cells_LR {v v' : Value} (k : VR r v v') : LR r v.cells.toList v'.cells.toList := k.cells
theorem ptr_new (r : Ren) (n : Nat) (w : World) (lz : Option (Nat × Nat)) : VR (r.add n ⟨w.heap.size, 0, lz⟩) (ptr n) (.pointer (some ⟨w.heap.size, 0, none⟩)) := by
  have := VR.ptr (r := r.add n ⟨w.heap.size, 0, lz⟩) (o := 0) (Ren.add_same r n ⟨w.heap.size, 0, lz⟩)
  simpa [ptr] using this
theorem slice_new (r : Ren) (n : Nat) (w : World) {a b : Nat} (h : a ≤ b) : VR (r.add n ⟨w.heap.size, 0, none⟩) (.slice (some ⟨n, 0, none⟩) a b) (.slice (some ⟨w.heap.size, 0, none⟩) a b) := by
  have := VR.slice (r := r.add n ⟨w.heap.size, 0, none⟩) (o := 0) (Ren.add_same r n ⟨w.heap.size, 0, none⟩) rfl h
  simpa using this
theorem nilSlice_same {n c : Nat} {u : Value} (h : VR r (.slice none n c) u) : u = .slice none n c := by cases h; rfl
theorem bound_R (hT : TmpR r A.n A.T tmps) {d n : Nat} {q : Option Operand} (h : boundOf A d q = some n) : (q = none ∧ n = d) ∨ ∃ x k, q = some x ∧ evT tmps x = .int k (n : Int) := by
  cases q with
  | none => simp [boundOf] at h; exact .inl ⟨rfl, h.symm⟩
  | some x =>
    simp only [boundOf] at h
    cases hx : ev A x with
    | none => simp [hx] at h
    | some v =>
      rw [hx] at h
      split at h <;> first | (cases h; done) | skip
      rename_i k m heq
      cases heq; cases h
      exact .inr ⟨x, k, rfl, int_same (evR hT hx)⟩
theorem run_bound {k : IntKind} {n y : Nat} {c : BoundsCode} (h : n ≤ y) (w : World) : (Instr.sliceBound (.int k (n : Int)) y c).run P w = .ok n w := by
  have : (0 : Int) ≤ (n : Int) ∧ (n : Int) ≤ (y : Int) := by omega
  simp [Instr.sliceBound, asIntOf]
  intro q; omega
theorem run_bounds (hT : TmpR r A.n A.T tmps) {isS : Bool} {len cap l h : Nat} {lw hi : Option Operand} (hh : boundOf A len hi = some h) (hl : boundOf A 0 lw = some l) (h1 : h ≤ cap) (h2 : l ≤ h) (w : World) :
    (Instr.sliceBounds isS len cap (lw.map (evT tmps)) (hi.map (evT tmps)) none).run P w = .ok (l, h, cap) w := by
  unfold Instr.sliceBounds
  rcases bound_R hT hh with ⟨rfl, rfl⟩ | ⟨x, k, rfl, e1⟩ <;> rcases bound_R hT hl with ⟨rfl, rfl⟩ | ⟨y, k', rfl, e2⟩
  · simp
  · simp [e2, run_bound h2]
  · simp [e1, run_bound h1]
  · simp [e1, e2, run_bound h1, run_bound h2]
theorem slice_op {t : TypeId} {x : Operand} {lw hi mx : Option Operand} (hT : TmpR r A.n A.T tmps) {v : Value} {H' : Hp} {k : Kd} {lo : Nat} {o : Oper} (hop : o.op = .slice t x lw hi mx) (h : heapOp P lo A H o = some (.val v H', k)) :
    H' = H ∧ ((k = .pure ∧ ∃ v', VR r v v' ∧ ∀ w, (Instr.sliceAt t (evT tmps x) (lw.map (evT tmps)) (hi.map (evT tmps)) (mx.map (evT tmps))).run P w = .ok v' w) ∨
      ∃ b ob, k = .read b ∧ H.t.get b = some ob ∧ ((∀ loc, r b = some loc → ∃ x, ObR P r loc ob x) → ∃ v', VR r v v' ∧ ∀ w, (Instr.sliceAt t (evT tmps x) (lw.map (evT tmps)) (hi.map (evT tmps)) (mx.map (evT tmps))).run P w = .ok v' w)) := by
  unfold heapOp at h
  simp only [hop] at h
  split at h <;> first | (cases h; done) | skip
  · rename_i e a len cap hu hx
    split at h <;> first | (cases h; done) | skip
    rename_i i hh ll hi' hhi hlo'
    cases a with
    | none =>
      simp only at h
      obtain ⟨hc, h⟩ := bif_some h
      cases h
      simp only [Bool.and_eq_true, beq_eq, decide_eq_true_eq] at hc
      obtain ⟨⟨⟨rfl, rfl⟩, rfl⟩, rfl⟩ := hc
      refine ⟨rfl, .inl ⟨rfl, _, .nilSlice, fun w => ?_⟩⟩
      have k := evR hT hx
      have e3 : evT tmps x = .slice none 0 0 := nilSlice_same k
      have hb := run_bounds (P := P) hT (isS := true) (len := 0) (cap := 0) hhi hlo' (Nat.le_refl _) (Nat.le_refl _) w
      rw [e3]
      simp [Instr.sliceAt, Instr.slice, run_underlying hu, hb, run_size hi']
    | some ad =>
      simp only at h
      have k0 := evR hT hx
      have hspt : ad.spot = none := by
        cases q : ad.spot with
        | none => rfl
        | some x => simp [q] at h
      obtain ⟨loc, c', e1, e2, e3, e4⟩ := slice_R k0 (.inl hspt)
      split at h <;> first | (cases h; done) | skip
      · rename_i cs e' hget
        obtain ⟨hc, h⟩ := bif_some h
        simp only [Bool.and_eq_true, beq_eq, decide_eq_true_eq, Bool.not_eq_true', decide_eq_false_iff_not] at hc
        obtain ⟨⟨⟨hee, hsz⟩, h1⟩, h2⟩ := hc
        cases h
        cases h3 : (!(Nat.beq ll len) || Nat.beq ll 0) with
        | false =>
          rw [cond_false]
          simp only [Bool.or_eq_false_iff, Bool.not_eq_false', beq_eq, decide_eq_true_eq, decide_eq_false_iff_not] at h3
          obtain ⟨h3, h4⟩ := h3
          subst h3
          have h1 := Nat.le_of_ble_eq_true h1
          have h2 := Nat.le_of_ble_eq_true h2
          obtain rfl : hh = ll := by omega
          refine ⟨rfl, .inr ⟨_, _, rfl, hget, fun _ => ?_⟩⟩
          have hle : hh ≤ c' := by
            rcases e4 with ⟨_, _, q⟩ | ⟨_, _, _, q, _⟩
            · omega
            · exact q
          refine ⟨.slice (some (if c' = hh then ⟨loc.blk, ad.off + loc.delta, none⟩ else (⟨loc.blk, ad.off + loc.delta, none⟩ : Addr).add (hh * i.size))) 0 (c' - hh), .weird, fun w => ?_⟩
          have hb := run_bounds (P := P) hT (isS := true) (len := hh) (cap := c') hhi hlo' (by omega) (Nat.le_refl _) w
          rw [e3]
          simp only [Instr.sliceAt, Instr.slice, Sem.run_bind, run_underlying hu, Result.andThen_ok, Option.map_none]
          simp only [hb, Result.andThen_ok, run_size hi', Sem.run_pure, Option.map_some]
          by_cases hcl : c' = hh
          · simp [hcl]
          · simp [hcl]
        | true =>
        rw [cond_true]
        simp only [beq_eq, decide_eq_true_eq, Bool.not_eq_true', Bool.or_eq_true, decide_eq_false_iff_not] at h3
        have h1 := Nat.le_of_ble_eq_true h1
        have h2 := Nat.le_of_ble_eq_true h2
        subst hee
        refine ⟨rfl, .inr ⟨_, _, rfl, hget, fun hOb => ?_⟩⟩
        obtain ⟨_, C, _, _, hzz⟩ := hOb loc e1
        rcases hzz with ⟨hf, _⟩ | ⟨total, sz, _, hlo2, _, _, hsz2, hce⟩
        · cases hf
        rcases e4 with ⟨hf, _⟩ | ⟨t2, s2, hlo3, hle, heq⟩
        · rw [hlo2] at hf; cases hf
        rw [hlo2] at hlo3; cases hlo3
        have hsi : i.size = sz := by rw [← hce]; simp [Program.cellsOf, hi']
        have hlc : ll ≤ c' := by omega
        have hmul : (c' - ll) * sz = c' * sz - ll * sz := Nat.sub_mul _ _ _
        have hml : ll * sz ≤ c' * sz := Nat.mul_le_mul_right _ hlc
        refine ⟨.slice (some ((⟨loc.blk, ad.off + loc.delta, none⟩ : Addr).add (ll * i.size))) (hh - ll) (c' - ll), ?_, fun w => ?_⟩
        · obtain ⟨ab, ao, asp⟩ := ad
          simp only at e1 e2 e3 heq
          subst e2
          rw [add_off, add_off]
          have := VR.loose (r := r) (o := ao + ll * i.size) (n := hh - ll) (c := cap - ll) (c' := c' - ll) e1 hlo2 (by omega) (by rw [hsi, hmul]; omega)
          have hD : ao + ll * i.size + loc.delta = ao + loc.delta + ll * i.size := by omega
          rw [hD] at this
          exact this
        · have hb := run_bounds (P := P) hT (isS := true) (len := len) (cap := c') hhi hlo' (by omega) h2 w
          rw [e3]
          simp only [Instr.sliceAt, Instr.slice, Sem.run_bind, run_underlying hu, Result.andThen_ok, Option.map_none]
          simp only [hb, Result.andThen_ok, run_size hi', Sem.run_pure, Option.map_some]
          by_cases hcl : c' = ll
          · have hll : ll = 0 := by
              rcases h3 with h3 | h3
              · omega
              · exact h3
            subst hll
            simp [hcl, Addr.add]
          · simp [hcl]
      · rename_i cs e' hget
        obtain ⟨hc, h⟩ := bif_some h
        cases h
        simp only [Bool.and_eq_true] at hc
        obtain ⟨h1, h2⟩ := hc
        have h1 := Nat.le_of_ble_eq_true h1
        have h2 := Nat.le_of_ble_eq_true h2
        refine ⟨rfl, .inr ⟨_, _, rfl, hget, fun hOb => ?_⟩⟩
        obtain ⟨_, C, _, _, hzz⟩ := hOb loc e1
        rcases hzz with ⟨_, hln, hd0, hCs⟩ | ⟨_, _, hf, _⟩
        rotate_left
        · cases hf
        rcases e4 with ⟨_, hcc, hle⟩ | ⟨_, _, hf, _⟩
        rotate_left
        · rw [hln] at hf; cases hf
        subst hcc
        obtain ⟨ab, ao, asp⟩ := ad
        simp only at e1 e2 e3
        subst e2
        refine ⟨.slice (some (if c' = ll then ⟨loc.blk, ao + loc.delta, none⟩ else (⟨loc.blk, ao + loc.delta, none⟩ : Addr).add (ll * i.size))) (hh - ll) (c' - ll), ?_, fun w => ?_⟩
        · simp only [beq_eq]
          by_cases hcl : c' = ll
          · simp only [hcl, decide_true, cond_true, if_true]
            exact VR.slice e1 hln (by omega)
          · simp only [hcl, decide_false, cond_false, if_false]
            rw [add_off, add_off]
            have := VR.slice (r := r) (o := ao + ll * i.size) (n := hh - ll) (c := c' - ll) e1 hln (by omega)
            have hD : ao + ll * i.size + loc.delta = ao + loc.delta + ll * i.size := by omega
            rw [hD] at this
            exact this
        · have hb := run_bounds (P := P) hT (isS := true) (len := len) (cap := c') hhi hlo' h1 h2 w
          rw [e3]
          simp only [Instr.sliceAt, Instr.slice, Sem.run_bind, run_underlying hu, Result.andThen_ok, Option.map_none]
          simp only [hb, Result.andThen_ok, run_size hi', Sem.run_pure, Option.map_some]
          by_cases hcl : c' = ll <;> simp [hcl]
      · rename_i cs hget
        obtain ⟨hc, h⟩ := bif_some h
        cases h
        simp only [Bool.and_eq_true] at hc
        obtain ⟨h1, h2⟩ := hc
        have h1 := Nat.le_of_ble_eq_true h1
        have h2 := Nat.le_of_ble_eq_true h2
        refine ⟨rfl, .inr ⟨_, _, rfl, hget, fun hOb => ?_⟩⟩
        obtain ⟨_, hln, _⟩ := hOb loc e1
        rcases e4 with ⟨_, hcc, hle⟩ | ⟨_, _, hf, _⟩
        rotate_left
        · rw [hln] at hf; cases hf
        subst hcc
        obtain ⟨ab, ao, asp⟩ := ad
        simp only at e1 e2 e3
        subst e2
        refine ⟨.slice (some (if c' = ll then ⟨loc.blk, ao + loc.delta, none⟩ else (⟨loc.blk, ao + loc.delta, none⟩ : Addr).add (ll * i.size))) (hh - ll) (c' - ll), ?_, fun w => ?_⟩
        · simp only [beq_eq]
          by_cases hcl : c' = ll
          · simp only [hcl, decide_true, cond_true, if_true]
            exact VR.slice e1 hln (by omega)
          · simp only [hcl, decide_false, cond_false, if_false]
            rw [add_off, add_off]
            have := VR.slice (r := r) (o := ao + ll * i.size) (n := hh - ll) (c := c' - ll) e1 hln (by omega)
            have hD : ao + ll * i.size + loc.delta = ao + loc.delta + ll * i.size := by omega
            rw [hD] at this
            exact this
        · have hb := run_bounds (P := P) hT (isS := true) (len := len) (cap := c') hhi hlo' h1 h2 w
          rw [e3]
          simp only [Instr.sliceAt, Instr.slice, Sem.run_bind, run_underlying hu, Result.andThen_ok, Option.map_none]
          simp only [hb, Result.andThen_ok, run_size hi', Sem.run_pure, Option.map_some]
          by_cases hcl : c' = ll <;> simp [hcl]
  · rename_i n e ad hu hx
    split at h <;> first | (cases h; done) | skip
    rename_i i hh ll hi' hhi hlo'
    split at h <;> first | (cases h; done) | skip
    rename_i cs e' hget
    obtain ⟨hc, h⟩ := bif_some h
    cases h
    simp only [Bool.and_eq_true] at hc
    obtain ⟨h1, h2⟩ := hc
    have h1 := Nat.le_of_ble_eq_true h1
    have h2 := Nat.le_of_ble_eq_true h2
    have k0 := evR hT hx
    obtain ⟨loc, e1, e2, e3⟩ := ptr_R k0
    refine ⟨rfl, .inr ⟨_, _, rfl, hget, fun hOb => ?_⟩⟩
    obtain ⟨_, C, _, _, hzz⟩ := hOb loc e1
    rcases hzz with ⟨_, hln, hd0, hCs⟩ | ⟨_, _, hf, _⟩
    rotate_left
    · cases hf
    obtain ⟨ab, ao, asp⟩ := ad
    simp only at e1 e2 e3
    subst e2
    refine ⟨.slice (some (if n = ll then ⟨loc.blk, ao + loc.delta, none⟩ else (⟨loc.blk, ao + loc.delta, none⟩ : Addr).add (ll * i.size))) (hh - ll) (n - ll), ?_, fun w => ?_⟩
    · simp only [beq_eq]
      by_cases hcl : n = ll
      · simp only [hcl, decide_true, cond_true, if_true]
        exact VR.slice e1 hln (by omega)
      · simp only [hcl, decide_false, cond_false, if_false]
        rw [add_off, add_off]
        have := VR.slice (r := r) (o := ao + ll * i.size) (n := hh - ll) (c := n - ll) e1 hln (by omega)
        have hD : ao + ll * i.size + loc.delta = ao + loc.delta + ll * i.size := by omega
        rw [hD] at this
        exact this
    · have hb := run_bounds (P := P) hT (isS := false) (len := n) (cap := n) hhi hlo' h1 h2 w
      rw [e3]
      simp only [Instr.sliceAt, Sem.run_bind, run_underlying hu, Result.andThen_ok, Option.map_none, Instr.sureAddr, Sem.run_pure]
      simp [hb, run_size hi']
end
end Go.Ax

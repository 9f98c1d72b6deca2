import Derived.Test.YtkdgngdnmgelnaaAxS2
set_option linter.all false
namespace Go.Ax
open Go Go.RowKit
theorem VR.cells {r : Ren} {v v' : Value} (h : VR r v v') : LR r v.cells.toList v'.cells.toList := by
  cases h with
  | agg s k => exact LR_toArray.2 ⟨s, k⟩
  | bool b => exact LR.cons (.bool b) .nil
  | int k n => exact LR.cons (.int k n) .nil
  | str s => exact LR.cons (.str s) .nil
  | nilIface => exact LR.cons .nilIface .nil
  | nilFunc => exact LR.cons .nilFunc .nil
  | nilPtr => exact LR.cons .nilPtr .nil
  | nilMap => exact LR.cons .nilMap .nil
  | nilSlice => exact LR.cons .nilSlice .nil
  | ptr e => exact LR.cons (.ptr e) .nil
  | slice e l q => exact LR.cons (.slice e l q) .nil
  | loose e l a b => exact LR.cons (.loose e l a b) .nil
  | mapv e => exact LR.cons (.mapv e) .nil
  | weird => exact LR.cons .weird .nil
  | iface t k => exact LR.cons (.iface t k) .nil
  | func f a b c d => exact LR.cons (.func f a b c d) .nil
  | tuple s k => exact LR.cons (.tuple s k) .nil
theorem putRow_length : ∀ (cs : List Value) (i : Nat) (vs : List Value), (putRow cs i vs).length = cs.length
  | _, _, [] => rfl
  | cs, i, v :: vs => by rw [putRow, putRow_length]; simp
theorem putRow_LR {r : Ren} : ∀ {vs vs' cs cs' : List Value} (i : Nat), LR r cs cs' → LR r vs vs' → LR r (putRow cs i vs) (putRow cs' i vs')
  | [], vs', cs, cs', i, h, k => by rw [k.of_nil]; exact h
  | v :: vs, vs', cs, cs', i, h, k => by
    obtain ⟨u, us, rfl, hu, hus⟩ := k.of_cons
    exact putRow_LR (i + 1) (h.set i hu) hus
theorem foldl_putRow : ∀ (vs : List Value) (off j : Nat) (cs : Array Value), ((vs.zipIdx j).foldl (fun cs (x : Value × Nat) => cs.setIfInBounds (off + x.2) x.1) cs).toList = putRow cs.toList (off + j) vs
  | [], _, _, _ => rfl
  | v :: vs, off, j, cs => by
    rw [List.zipIdx_cons, List.foldl_cons, foldl_putRow vs off (j + 1)]
    simp [putRow, Nat.add_assoc]
theorem fold_cells (v : Value) (off : Nat) (cs : Array Value) : (v.cells.zipIdx.foldl (fun cs (x : Value × Nat) => cs.setIfInBounds (off + x.2) x.1) cs).toList = putRow cs.toList off v.cells.toList := by
  rw [← Array.foldl_toList]
  have : v.cells.zipIdx.toList = v.cells.toList.zipIdx := by simp
  rw [this, foldl_putRow]
  simp
def PR (r : Ren) (l l' : List (Nat × Value)) : Prop := l.length = l'.length ∧ ∀ (i : Nat) p p', l[i]? = some p → l'[i]? = some p' → p.1 = p'.1 ∧ VR r p.2 p'.2
theorem fill_R {r : Ren} (place : Nat → Option (Nat × Nat)) : ∀ (ps ps' : List (Nat × Value)) (cs : List Value) (C : Array Value) (out : List Value), LR r cs C.toList →
    ps.length = ps'.length → (∀ (i : Nat) p p', ps[i]? = some p → ps'[i]? = some p' → p.1 = p'.1 ∧ VR r p.2 p'.2) → fillL place cs ps = some out →
    ∃ C', Instr.fill place C ps' = some C' ∧ LR r out C'.toList
  | [], ps', cs, C, out, h, hl, hp, e => by
    have : ps' = [] := List.eq_nil_of_length_eq_zero hl.symm
    subst this
    simp only [fillL] at e; cases e
    exact ⟨C, rfl, h⟩
  | (i, v) :: ps, ps', cs, C, out, h, hl, hp, e => by
    cases ps' with
    | nil => simp at hl
    | cons q ps' =>
      obtain ⟨i', v'⟩ := q
      obtain ⟨hi, hv⟩ := hp 0 (i, v) (i', v') rfl rfl
      simp only at hi hv
      subst hi
      simp only [fillL] at e
      cases hpl : place i with
      | none => simp [hpl] at e
      | some os =>
        obtain ⟨off, size⟩ := os
        simp only [hpl, beq_eq] at e
        by_cases hc : (decide (v.cells.toList.length = size) && Nat.ble (off + size) cs.length) = true
        · rw [hc] at e
          simp only [cond_true] at e
          simp only [Bool.and_eq_true, decide_eq_true_eq] at hc
          obtain ⟨h1, h2⟩ := hc
          have h2' := Nat.le_of_ble_eq_true h2
          have hcl := hv.cells
          have hlen : v'.cells.size = size := by have := hcl.1; simp at this h1; omega
          have hC : C.size = cs.length := by have := h.1; simp at this; omega
          obtain ⟨C', e', k'⟩ := fill_R (r := r) place ps ps' (putRow cs off v.cells.toList) (v'.cells.zipIdx.foldl (fun cs (x : Value × Nat) => cs.setIfInBounds (off + x.2) x.1) C) out
            (by rw [fold_cells]; exact putRow_LR off h hcl) (by simpa using hl) (fun j p p' a b => hp (j + 1) p p' (by simpa using a) (by simpa using b)) e
          refine ⟨C', ?_, k'⟩
          simp only [Instr.fill, hpl]
          have : (decide (v'.cells.size ≠ size) || decide (off + v'.cells.size > C.size)) = false := by simp; omega
          rw [this]
          simpa using e'
        · have : (decide (v.cells.toList.length = size) && Nat.ble (off + size) cs.length) = false := Bool.eq_false_iff.2 hc
          rw [this] at e
          cases e
section
variable {P : Program} {r : Ren} {A : Fr} {tmps : Array Value}
theorem partsR (hT : TmpR r A.n A.T tmps) : ∀ {xs : List (Nat × Operand)} {ps : List (Nat × Value)}, partsOf A xs = some ps →
    ps.length = (xs.map fun p => (p.1, evT tmps p.2)).length ∧ ∀ (i : Nat) p p', ps[i]? = some p → (xs.map fun p => (p.1, evT tmps p.2))[i]? = some p' → p.1 = p'.1 ∧ VR r p.2 p'.2
  | [], ps, h => by simp [partsOf] at h; subst h; simp
  | (i, x) :: xs, ps, h => by
    simp only [partsOf] at h
    cases h1 : ev A x with
    | none => simp [h1] at h
    | some v =>
      cases h2 : partsOf A xs with
      | none => simp [h1, h2] at h
      | some ps' =>
        simp [h1, h2] at h; subst h
        obtain ⟨a, b⟩ := partsR hT h2
        refine ⟨by simpa using a, fun j p p' e e' => ?_⟩
        cases j with
        | zero => simp at e e'; subst e e'; exact ⟨rfl, evR hT h1⟩
        | succ j => exact b j p p' (by simpa using e) (by simpa using e')
theorem places_run : ∀ {fs : List Field} {pl : List (Nat × Nat)}, placesOf P fs = some pl → ∀ w, (fs.mapM fun f => (do pure (f.offset, ← sizeOf f.type) : Sem (Nat × Nat))).run P w = .ok pl w
  | [], pl, h, w => by simp [placesOf] at h; subst h; rfl
  | f :: fs, pl, h, w => by
    simp only [placesOf] at h
    cases hi : P.info? f.type with
    | none => simp [hi] at h
    | some i =>
      cases h2 : placesOf P fs with
      | none => simp [hi, h2] at h
      | some l =>
        simp [hi, h2] at h; subst h
        have := places_run h2 w
        rw [List.mapM_cons]
        simp only [Sem.run_bind, run_size hi, Result.andThen_ok, Sem.run_pure, this]
theorem flat_LR {z : Value} (h : flat z = true) : LR r z.cells.toList z.cells.toList := (flat_vr (r := r) h).cells
theorem build_R (hT : TmpR r A.n A.T tmps) {t : TypeId} {parts : Array (Nat × Operand)} {z : Value} {ps : List (Nat × Value)} (hz : zeroOf P t = some z) (hp : partsOf A parts.toList = some ps) {v : Value}
    (h : (match P.underlying t with
      | some (.struct fs) => match placesOf P fs.toList with
        | some pl => match fillL (fun i => pl[i]?) z.cells.toList ps with | some cs => some (Value.agg cs.toArray) | none => none
        | none => none
      | some (.array _ e) => match P.info? e with
        | some i => match fillL (fun k => some (k * i.size, i.size)) z.cells.toList ps with | some cs => some (.agg cs.toArray) | none => none
        | none => none
      | _ => none) = some v) : ∃ v', VR r v v' ∧ ∀ w, (Instr.build t (parts.map fun (i, x) => (i, evT tmps x))).run P w = .ok v' w := by
  obtain ⟨pl1, pl2⟩ := partsR hT hp
  have hlist : (parts.map fun (x : Nat × Operand) => (x.1, evT tmps x.2)).toList = parts.toList.map fun p => (p.1, evT tmps p.2) := by simp
  cases hu : P.underlying t with
  | none => simp [hu] at h
  | some d =>
    cases d <;> simp only [hu] at h <;> try (cases h; done)
    case array n e =>
      cases hi : P.info? e with
      | none => simp [hi] at h
      | some i =>
        simp only [hi] at h
        cases hf : fillL (fun k => some (k * i.size, i.size)) z.cells.toList ps with
        | none => simp [hf] at h
        | some cs =>
          simp [hf] at h; subst h
          obtain ⟨C', e', k'⟩ := fill_R (r := r) _ ps _ _ z.cells _ (flat_LR (run_zero hz default).2) pl1 pl2 hf
          refine ⟨.agg C', ?_, fun w => ?_⟩
          · have := VR.aggL k'; simpa using this
          · unfold Instr.build
            simp only [Sem.run_bind, (run_zero hz w).1, Result.andThen_ok, run_underlying hu, run_size hi, hlist, e']
            rfl
    case struct fs =>
      cases hpl : placesOf P fs.toList with
      | none => simp [hpl] at h
      | some pl =>
        simp only [hpl] at h
        cases hf : fillL (fun i => pl[i]?) z.cells.toList ps with
        | none => simp [hf] at h
        | some cs =>
          simp [hf] at h; subst h
          obtain ⟨C', e', k'⟩ := fill_R (r := r) _ ps _ _ z.cells _ (flat_LR (run_zero hz default).2) pl1 pl2 hf
          refine ⟨.agg C', ?_, fun w => ?_⟩
          · have := VR.aggL k'; simpa using this
          · have hm : (fs.mapM fun f => (do pure (f.offset, ← sizeOf f.type) : Sem (Nat × Nat))).run P w = .ok pl.toArray w := by
              rw [← Array.toArray_toList (xs := fs), List.mapM_toArray, Sem.run_map, places_run hpl w]
              rfl
            have e'' : Instr.fill (fun (i : Nat) => pl.toArray[i]?) z.cells (parts.toList.map fun p => (p.1, evT tmps p.2)) = some C' := by
              have : (fun (i : Nat) => pl.toArray[i]?) = fun (i : Nat) => pl[i]? := by funext i; simp
              rw [this]; exact e'
            unfold Instr.build
            simp only [Sem.run_bind, (run_zero hz w).1, Result.andThen_ok, run_underlying hu, hm, hlist, e'']
            rfl
end
end Go.Ax

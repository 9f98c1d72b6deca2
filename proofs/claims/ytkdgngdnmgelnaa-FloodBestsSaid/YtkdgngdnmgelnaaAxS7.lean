import Derived.Test.YtkdgngdnmgelnaaAxS6
set_option linter.all false
namespace Go.Ax
open Go Go.RowKit
theorem putRow_get : ∀ (vs : List Value) (cs : List Value) (i k : Nat), (putRow cs i vs)[k]? = if i ≤ k ∧ k < i + vs.length then (if k < cs.length then vs[k - i]? else none) else cs[k]?
  | [], cs, i, k => by
    have : ¬ (i ≤ k ∧ k < i + 0) := by omega
    simp [putRow]
    intro h1 h2; omega
  | v :: vs, cs, i, k => by
    rw [putRow, putRow_get vs (cs.set i v) (i + 1) k]
    by_cases h1 : i + 1 ≤ k ∧ k < i + 1 + vs.length
    · have h2 : i ≤ k ∧ k < i + (v :: vs).length := by simp; omega
      rw [if_pos h1, if_pos h2]
      simp only [List.length_set]
      have : k - i = (k - (i + 1)) + 1 := by omega
      rw [this, List.getElem?_cons_succ]
    · rw [if_neg h1, List.getElem?_set]
      by_cases hk : i = k
      · subst hk
        have h2 : i ≤ i ∧ i < i + (v :: vs).length := by simp
        simp
      · have h2 : ¬ (i ≤ k ∧ k < i + (v :: vs).length) := by simp; omega
        rw [if_neg hk, if_neg h2]
def laid (C : Array Value) (o : Nat) (vs : List Value) : Array Value := (C.toList.take o ++ vs ++ C.toList.drop (o + vs.length)).toArray
theorem laid_size {C : Array Value} {o : Nat} {vs : List Value} (h : o + vs.length ≤ C.size) : (laid C o vs).size = C.size := by
  simp [laid]; omega
theorem laid_get {C : Array Value} {o : Nat} {vs : List Value} (h : o + vs.length ≤ C.size) (k : Nat) : (laid C o vs)[k]? = if o ≤ k ∧ k < o + vs.length then vs[k - o]? else C[k]? := by
  unfold laid
  rw [List.getElem?_toArray, List.append_assoc]
  have hl : (C.toList.take o).length = o := by simp; omega
  by_cases h1 : k < o
  · have : ¬ (o ≤ k ∧ k < o + vs.length) := by omega
    rw [if_neg this, List.getElem?_append_left (by omega), List.getElem?_take, if_pos h1]
    simp
  · rw [List.getElem?_append_right (by omega), hl]
    by_cases h2 : k < o + vs.length
    · rw [if_pos ⟨by omega, h2⟩, List.getElem?_append_left (by omega)]
    · have : ¬ (o ≤ k ∧ k < o + vs.length) := by omega
      rw [if_neg this, List.getElem?_append_right (by omega), List.getElem?_drop]
      have : o + vs.length + (k - o - vs.length) = k := by omega
      rw [this]; simp
theorem CellsR_laid {r : Ren} {d : Nat} {cs : List Value} {C : Array Value} (h : CellsR r d cs C) {vs vs' : List Value} (k : LR r vs vs') (i : Nat) (hfit : d + i + vs'.length ≤ C.size) :
    CellsR r d (putRow cs i vs) (laid C (d + i) vs') := by
  intro j v e
  rw [putRow_get] at e
  rw [laid_get hfit]
  have hl := k.1
  by_cases hj : i ≤ j ∧ j < i + vs.length
  · rw [if_pos hj] at e
    have h2 : d + i ≤ d + j ∧ d + j < d + i + vs'.length := by omega
    rw [if_pos h2]
    split at e
    · obtain ⟨v', e', q⟩ := k.get e
      have : d + j - (d + i) = j - i := by omega
      rw [this]
      exact ⟨v', e', q⟩
    · cases e
  · rw [if_neg hj] at e
    have h2 : ¬ (d + i ≤ d + j ∧ d + j < d + i + vs'.length) := by omega
    rw [if_neg h2]
    exact h j v e
theorem one_R {r : Ren} {v v' : Value} (h : one v = true) (k : VR r v v') : v'.oneCell' = true := by
  cases k <;> first | rfl | (simp [one] at h)
theorem ones_R {r : Ren} : ∀ {vs vs' : List Value}, vs.all one = true → LR r vs vs' → ∀ v ∈ vs', v.oneCell' = true
  | [], vs', _, k => by rw [k.of_nil]; simp
  | v :: vs, vs', h, k => by
    obtain ⟨u, us, rfl, hu, hus⟩ := k.of_cons
    simp only [List.all_cons, Bool.and_eq_true] at h
    intro x hx
    cases hx with
    | head => exact one_R h.1 hu
    | tail _ hx => exact ones_R h.2 hus x hx
section
variable {P : Program} {lo base : Nat} {r : Ren} {H : Hp} {w : World}
theorem block_R (h : Rel P r base H w) {b : Nat} {loc : Loc} {cs : List Value} {e : TypeId} {lz : Bool} (hr : r b = some loc) (hb : H.t.get b = some (.cells cs e lz)) : ObR P r loc (.cells cs e lz) w.heap[loc.blk]? := h.cont b loc _ hr hb
theorem ObR_fits {loc : Loc} {cs : List Value} {e : TypeId} {lz : Bool} {C : Array Value} (h : (lz = false ∧ loc.loose = none ∧ loc.delta = 0 ∧ C.size = cs.length) ∨
        ∃ total sz, lz = true ∧ loc.loose = some (total, sz) ∧ C.size = total ∧ cs.length + loc.delta ≤ total ∧ 0 < sz ∧ P.cellsOf e = sz) : cs.length + loc.delta ≤ C.size := by
  rcases h with ⟨_, _, h1, h2⟩ | ⟨t, s, _, _, h1, h2, _⟩ <;> omega
theorem setRow_other (w : World) (g : Nat) (C : Array Value) (k : Nat) (h : k ≠ g) : (w.setRow g C).heap[k]? = w.heap[k]? := by
  simp only [World.setRow, Array.getElem?_modify]
  rw [if_neg (by omega)]
theorem setRow_size (w : World) (g : Nat) (C : Array Value) : (w.setRow g C).heap.size = w.heap.size := by simp [World.setRow]
theorem Post.put (h : Rel P r base H w) {b : Nat} {loc : Loc} {cs : List Value} {e : TypeId} {lz : Bool} {C : Array Value} (hr : r b = some loc) (hb : H.t.get b = some (.cells cs e lz)) (hlo : lo ≤ b)
    (hC : w.heap[loc.blk]? = some (.cells C e (0, 0))) {vs vs' : List Value} (k : LR r vs vs') (i : Nat) (hfit : i + vs.length ≤ cs.length) :
    Post P lo base r H w r { H with t := H.t.set b (.cells (putRow cs i vs) e lz) } (w.setRow loc.blk (laid C (loc.delta + i) vs')) := by
  obtain ⟨C0, e0, hc, hz⟩ := block_R h hr hb
  rw [hC] at e0; cases e0
  have hfits := ObR_fits hz
  have hlen := k.1
  refine Post.change h hr ⟨_, hb, by simp, rfl⟩ hlo (setRow_size _ _ _) (fun q hq => setRow_other _ _ _ _ hq) ⟨rfl, rfl, rfl⟩ ?_
  refine ⟨laid C (loc.delta + i) vs', setRow_heap w _ C _ e _ hC, CellsR_laid hc k i (by omega), ?_⟩
  rw [putRow_length, laid_size (by omega)]
  exact hz
theorem add_off (g o n : Nat) : (⟨g, o, none⟩ : Addr).add n = ⟨g, o + n, none⟩ := by
  unfold Addr.add; split <;> simp_all
theorem cell_of (w : World) {g : Nat} {C : Array Value} {e : TypeId} {f : Nat × Nat} (h : w.heap[g]? = some (.cells C e f)) (o : Nat) : w.cell? ⟨g, o, none⟩ = C[o]? := by
  simp [World.cell?, h]
def obCells : Ob → Option (List Value)
  | .cells cs _ _ => some cs
  | .ro cs => some cs
  | _ => none
theorem cells_ob {H : Hp} {b : Nat} {cs : List Value} (h : cellsOf H b = some cs) : ∃ ob, H.t.get b = some ob ∧ obCells ob = some cs := by
  unfold cellsOf at h
  split at h <;> first | (cases h; done) | skip
  · rename_i e l hg; cases h; exact ⟨_, hg, rfl⟩
  · rename_i hg; cases h; exact ⟨_, hg, rfl⟩
theorem ob_cells {H : Hp} {b : Nat} {cs : List Value} {ob : Ob} (h : H.t.get b = some ob) (k : obCells ob = some cs) : cellsOf H b = some cs := by
  unfold cellsOf
  rw [h]
  cases ob <;> first | exact k | cases k
theorem reads_R {loc : Loc} {ob : Ob} {cs : List Value} (hk : obCells ob = some cs) (hc : ObR P r loc ob w.heap[loc.blk]?) (i : Nat) (v : Value) (e : cs[i]? = some v) : ∃ v', w.cell? ⟨loc.blk, loc.delta + i, none⟩ = some v' ∧ VR r v v' := by
  cases ob with
  | cells cs' e' lz =>
    cases hk
    obtain ⟨C, hC, hcells, _⟩ := hc
    obtain ⟨v', a, b⟩ := hcells i v e
    exact ⟨v', by rw [cell_of w hC]; exact a, b⟩
  | ro cs' =>
    cases hk
    obtain ⟨C, e', f, v', a, b, c⟩ := hc.2 i v e
    exact ⟨v', by rw [cell_of w a]; exact b, c⟩
  | _ => cases hk
theorem pick_row {F : Nat → Option Value} : ∀ (l : List Value), (∀ (i : Nat) v, l[i]? = some v → ∃ v', F i = some v' ∧ VR r v v') → ∃ L : List Value, LR r l L ∧ ∀ (j : Nat) u, L[j]? = some u → F j = some u
  | [], _ => ⟨[], .nil, fun j u h => by simp at h⟩
  | v :: l, h => by
    obtain ⟨v', a, b⟩ := h 0 v rfl
    obtain ⟨L, c, d⟩ := pick_row (F := fun i => F (i + 1)) l fun i u e => h (i + 1) u (by simpa using e)
    refine ⟨v' :: L, .cons b c, fun j u e => ?_⟩
    cases j with
    | zero => simp at e; subst e; exact a
    | succ j => exact d j u (by simpa using e)
theorem row_R {loc : Loc} {ob : Ob} {cs l : List Value} {n off : Nat} (hk : obCells ob = some cs) (hc : ObR P r loc ob w.heap[loc.blk]?) (hrow : row n cs off = some l) :
    ∃ L : List Value, LR r l L ∧ L.length = n ∧ ∀ (j : Nat) u, L[j]? = some u → w.cell? ((⟨loc.blk, off + loc.delta, none⟩ : Addr).add j) = some u := by
  obtain ⟨e1, hl⟩ := row_some hrow
  obtain ⟨L, a, b⟩ := pick_row (r := r) (F := fun j => w.cell? ((⟨loc.blk, off + loc.delta, none⟩ : Addr).add j)) l fun i v e => by
    rw [e1, List.getElem?_take] at e
    split at e
    · rw [List.getElem?_drop] at e
      obtain ⟨v', f1, f2⟩ := reads_R hk hc _ v e
      refine ⟨v', ?_, f2⟩
      rw [add_off]
      have : off + loc.delta + i = loc.delta + (off + i) := by omega
      rw [this]; exact f1
    · cases e
  exact ⟨L, a, by rw [← a.1, hl], b⟩
theorem load_get {t : TypeId} {a : Addr} {v : Value} (h : loadV P H t a = some v) : ∃ ob, H.t.get a.block = some ob := by
  unfold loadV at h
  cases hcs : cellsOf H a.block with
  | none => simp [hcs] at h
  | some cs => exact ⟨_, (cells_ob hcs).choose_spec.1⟩
theorem load_R {t : TypeId} {a : Addr} {v : Value} {ob : Ob} {loc : Loc} (hget : H.t.get a.block = some ob) (h : loadV P H t a = some v) (hr : r a.block = some loc)
    (hc : ObR P r loc ob w.heap[loc.blk]?) : ∃ v', VR r v v' ∧ (loadVar t ⟨loc.blk, a.off + loc.delta, none⟩).run P w = .ok v' w := by
  unfold loadV at h
  cases hcs : cellsOf H a.block with
  | none => simp [hcs] at h
  | some cs =>
  obtain ⟨ob', hg', hk⟩ := cells_ob hcs
  rw [hget] at hg'; cases hg'
  simp only [hcs] at h
  cases hs : a.spot with
  | some s => simp [hs] at h
  | none =>
    cases ha : isAggB P t with
    | none => simp [hs, ha] at h
    | some b =>
      cases b with
      | true =>
        simp only [hs, ha] at h
        cases hi : P.info? t with
        | none => simp [hi] at h
        | some i =>
          simp only [hi] at h
          cases hrow : row i.size cs a.off with
          | none => simp [hrow] at h
          | some l =>
            simp [hrow] at h; subst h
            obtain ⟨L, hLR, hLlen, hL⟩ := row_R (w := w) hk hc hrow
            refine ⟨_, VR.aggL hLR, ?_⟩
            have hrun := run_loadCells_list (P := P) w ⟨loc.blk, a.off + loc.delta, none⟩ L hL
            rw [hLlen] at hrun
            simp [loadVar, run_agg ha, run_size hi, hrun]
      | false =>
        simp only [hs, ha] at h
        obtain ⟨v', f1, f2⟩ := reads_R hk hc _ v h
        refine ⟨v', f2, ?_⟩
        have hcell : w.cell? ⟨loc.blk, a.off + loc.delta, none⟩ = some v' := by
          rw [Nat.add_comm]; exact f1
        simp [loadVar, run_agg ha, hcell]
theorem store_R (h : Rel P r base H w) {t : TypeId} {a : Addr} {v v' : Value} {H' : Hp} {loc : Loc} (hr : r a.block = some loc) (k : VR r v v') (he : storeV P lo H t a v = some H') :
    ∃ w', (storeVar t ⟨loc.blk, a.off + loc.delta, none⟩ v').run P w = .ok () w' ∧ Post P lo base r H w r H' w' ∧ ∃ cs e lz, H.t.get a.block = some (.cells cs e lz) ∧ ∃ cs', H' = { H with t := H.t.set a.block (.cells cs' e lz) } := by
  unfold storeV at he
  cases hget : H.t.get a.block with
  | none => simp [hget] at he
  | some o =>
    cases o <;> simp only [hget] at he <;> try (cases he; done)
    rename_i cs e lz
    cases hs : a.spot with
    | some s => simp [hs] at he
    | none =>
      cases hi : P.info? t with
      | none => simp [hs, hi] at he
      | some i =>
        simp only [hs, hi] at he
        obtain ⟨hb, he⟩ := bif_some he
        cases he
        simp only [Bool.and_eq_true, beq_eq, decide_eq_true_eq] at hb
        obtain ⟨⟨⟨h1, h2⟩, h3⟩, h4⟩ := hb
        have h1 := Nat.le_of_ble_eq_true h1
        have h3 := Nat.le_of_ble_eq_true h3
        obtain ⟨C, hC, hcells, hz⟩ := block_R h hr hget
        have hfits := ObR_fits hz
        have hcl := k.cells
        have hlen : v'.cells.toList.length = i.size := by rw [← hcl.1]; exact h2
        have hp := Post.put (lo := lo) h hr hget h1 hC hcl a.off (by omega)
        refine ⟨_, ?_, hp, cs, e, lz, rfl, _, rfl⟩
        have hst := run_storeCells_at P loc.blk (a.off + loc.delta) e v'.cells.toList 0 C w hC (by omega) (ones_R h4 hcl)
        have hsz : v'.cells.size = i.size := by simpa using hlen
        have hD : a.off + loc.delta = loc.delta + a.off := by omega
        rw [hD] at hst ⊢
        simp only [Nat.add_zero] at hst
        simp only [storeVar, Sem.run_bind, run_size hi, Result.andThen_ok, hsz, ne_eq, not_true_eq_false, if_false]
        exact hst
end
end Go.Ax

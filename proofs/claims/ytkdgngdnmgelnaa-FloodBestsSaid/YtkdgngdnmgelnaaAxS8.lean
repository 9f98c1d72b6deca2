import Derived.Test.YtkdgngdnmgelnaaAxS7
set_option linter.all false
namespace Go.Ax
open Go Go.RowKit
theorem zeros_length (z : List Value) : ∀ n, (zeros z n).length = n * z.length
  | 0 => by simp [zeros]
  | n + 1 => by simp [zeros, zeros_length z n, Nat.add_mul, Nat.add_comm]
theorem zeros_get (z : List Value) : ∀ (n i : Nat), i < n * z.length → (zeros z n)[i]? = z[i % z.length]?
  | 0, i, h => by simp at h
  | n + 1, i, h => by
    rw [zeros]
    by_cases hi : i < z.length
    · rw [List.getElem?_append_left hi, Nat.mod_eq_of_lt hi]
    · have h2 : i - z.length < n * z.length := by rw [Nat.add_mul] at h; omega
      rw [List.getElem?_append_right (by omega), zeros_get z n _ h2]
      congr 1
      rw [Nat.mod_eq_sub_mod (a := i) (by omega)]
theorem zeros_range (z : Array Value) (n : Nat) : ((Array.range (n * z.size)).map fun i => z[i % z.size]!) = (zeros z.toList n).toArray := by
  apply Array.ext_getElem?
  intro i
  by_cases hi : i < n * z.size
  · have e1 : (zeros z.toList n).toArray[i]? = z.toList[i % z.toList.length]? := by rw [List.getElem?_toArray]; exact zeros_get _ _ _ (by simpa using hi)
    rw [e1]
    have hz : 0 < z.size := by
      rcases Nat.eq_zero_or_pos z.size with h | h
      · rw [h] at hi; simp at hi
      · exact h
    have hm : i % z.size < z.size := Nat.mod_lt _ hz
    simp [hi, hm]
  · rw [Array.getElem?_eq_none (by simp; omega), List.getElem?_toArray, List.getElem?_eq_none (by rw [zeros_length]; simp; omega)]
theorem flat_all1 {r : Ren} : ∀ {l : List Value}, (∀ v ∈ l, VR r v v) → LR r l l
  | [], _ => LR.nil
  | v :: l, h => LR.cons (h v (by simp)) (flat_all1 fun u hu => h u (by simp [hu]))
theorem LR_mem {r : Ren} {l : List Value} (h : LR r l l) : ∀ v ∈ l, VR r v v := fun v hv => by
  obtain ⟨i, hi, e⟩ := List.getElem_of_mem hv
  have e2 : l[i]? = some v := by rw [List.getElem?_eq_getElem hi, e]
  exact h.2 i v v e2 e2
theorem zeros_LR {r : Ren} {z : List Value} (h : LR r z z) : ∀ n, LR r (zeros z n) (zeros z n)
  | 0 => LR.nil
  | n + 1 => LR.append h (zeros_LR h n)
section
variable {P : Program} {lo base : Nat} {r : Ren} {H : Hp} {w : World}
theorem run_newRow (e : TypeId) (C : Array Value) (w : World) : (newRow e C).run P w = .ok ⟨w.heap.size, 0, none⟩ (w.alloc (.cells C e)) := by
  rfl
theorem CellsR_LR {d : Nat} {cs : List Value} {C : Array Value} (k : LR r cs C.toList) (hd : d = 0) : CellsR r d cs C := by
  subst hd
  intro i v e
  obtain ⟨v', e', q⟩ := k.get e
  exact ⟨v', by simpa using e', q⟩
theorem Post.exact_ (h : Rel P r base H w) (hlo : lo ≤ H.next) {cs : List Value} {C : Array Value} {e : TypeId} (k : LR r cs C.toList) :
    Post P lo base r H w (r.add H.next ⟨w.heap.size, 0, none⟩) (H.new (.cells cs e false)) (w.alloc (.cells C e)) := by
  have hle := Ren.le_add (⟨w.heap.size, 0, none⟩ : Loc) h.none_next
  exact Post.fresh h hlo rfl ⟨rfl, rfl, rfl⟩ ⟨C, rfl, CellsR_LR (k.mono hle) rfl, .inl ⟨rfl, rfl, rfl, by have := k.1; simpa using this.symm⟩⟩
theorem Post.loose_ (h : Rel P r base H w) (hlo : lo ≤ H.next) {cs rest : List Value} {C : Array Value} {e : TypeId} {total sz : Nat} (k : LR r cs C.toList) (hsz : 0 < sz) (hc : P.cellsOf e = sz) (ht : C.size + rest.length = total) :
    Post P lo base r H w (r.add H.next ⟨w.heap.size, 0, some (total, sz)⟩) (H.new (.cells cs e true)) (w.alloc (.cells (C ++ rest.toArray) e)) := by
  have hle := Ren.le_add (⟨w.heap.size, 0, some (total, sz)⟩ : Loc) h.none_next
  have hl := k.1
  refine Post.fresh h hlo rfl ⟨rfl, rfl, rfl⟩ ⟨C ++ rest.toArray, rfl, ?_, .inr ⟨total, sz, rfl, rfl, by simpa using ht, by simp at hl ⊢; omega, hsz, hc⟩⟩
  intro i v e
  obtain ⟨v', e', q⟩ := (k.mono hle).get e
  refine ⟨v', ?_, q⟩
  have hi : i < C.size := by
    rcases Nat.lt_or_ge i C.size with h | h
    · exact h
    · rw [List.getElem?_eq_none (by simpa using h)] at e'; cases e'
  simp only [Nat.zero_add]
  rw [Array.getElem?_append_left hi]
  simpa using e'
theorem sliceElem_spec {t e : TypeId} {size : Nat} (h : sliceElem P t = some (e, size)) :
    P.underlying t = some (.slice e) ∧ 0 < size ∧ P.cellsOf e = size ∧ ∃ i z, P.info? e = some i ∧ i.size = size ∧ i.bytes ≤ 1048576 ∧ zeroOf P e = some z ∧ z.cells.size = size := by
  unfold sliceElem at h
  cases hu : P.underlying t with
  | none => simp [hu] at h
  | some d =>
    cases d <;> simp only [hu] at h <;> try (cases h; done)
    rename_i e'
    cases hi : P.info? e' with
    | none => simp [hi] at h
    | some i =>
      cases hz : zeroOf P e' with
      | none => simp [hi, hz] at h
      | some z =>
        simp only [hi, hz] at h
        cases hb : (Nat.beq i.size 0 || !(Nat.beq z.cells.toList.length i.size) || !(Nat.ble i.bytes 1048576)) with
        | true => rw [hb] at h; cases h
        | false =>
          rw [hb] at h
          simp only [cond_false] at h
          cases h
          simp only [beq_eq, Bool.or_eq_false_iff, Bool.not_eq_false', decide_eq_false_iff_not, decide_eq_true_eq] at hb
          obtain ⟨⟨h1, h2⟩, h3⟩ := hb
          have h3 := Nat.le_of_ble_eq_true h3
          refine ⟨rfl, by omega, ?_, i, z, hi, rfl, h3, hz, by simpa using h2⟩
          simp [Program.cellsOf, hi]
theorem src_R (h : Rel P r base H w) {size n : Nat} {x x' : Value} {news : List Value} (k : VR r x x') (hs : srcCells H size x = some (n, news)) :
    ∃ L : List Value, LR r news L ∧ (Builtin.lenOf x').run P w = .ok n w ∧ (∀ w' : World, w'.heap = w.heap → (Builtin.firstCells size n x').run P w' = .ok L.toArray w') ∧ L.length = n * size := by
  unfold srcCells at hs
  split at hs
  · rename_i n' c
    obtain ⟨hb, hs⟩ := bif_some hs
    cases hs
    cases k
    exact ⟨[], LR.nil, rfl, fun _ _ => rfl, by simp⟩
  · rename_i a n' c
    split at hs <;> first | (cases hs; done) | skip
    rotate_left
    · rename_i sp h1
      obtain ⟨hb, hs⟩ := bif_some hs
      cases hs
      rw [beq_eq] at hb
      have hb := of_decide_eq_true hb
      subst hb
      cases k with
      | slice e l q => cases h1
      | loose e l a b => cases h1
      | weird => exact ⟨[], LR.nil, rfl, fun w' _ => by simp [Builtin.firstCells, loadCells, loadCellsFrom], by simp⟩
    rename_i cs h1 h2
    cases hrow : row (n' * size) cs a.off with
    | none => simp [hrow] at hs
    | some l =>
      simp [hrow] at hs
      obtain ⟨rfl, rfl⟩ := hs
      obtain ⟨loc, c', e1, e2, e3, _⟩ := slice_R k (.inl h1)
      obtain ⟨ob, hg, hk⟩ := cells_ob h2
      have hOb := h.cont _ _ _ e1 hg
      obtain ⟨L, hLR, hLlen, hL⟩ := row_R (w := w) hk hOb hrow
      refine ⟨L, hLR, by rw [e3]; rfl, fun w' hw => ?_, hLlen⟩
      rw [e3]
      have hrun := run_loadCells_list (P := P) w' ⟨loc.blk, a.off + loc.delta, none⟩ L (fun j u hj => by
        have := hL j u hj
        unfold World.cell? at this ⊢
        rw [hw]; exact this)
      rw [hLlen] at hrun
      exact hrun
  · cases hs
theorem growBy_le (need : Nat) : ∀ (k c B : Nat), c ≤ B → need + (need + 768) / 4 ≤ B → Builtin.growBy need k c ≤ B
  | 0, c, B, h, _ => h
  | k + 1, c, B, h, hB => by
    unfold Builtin.growBy
    split
    · exact h
    · exact growBy_le need k _ B (by omega) hB
theorem nextcap_le {need old : Nat} (h : old < need) (hn : need ≤ 1048576) : Builtin.nextslicecap need old ≤ 4194304 := by
  unfold Builtin.nextslicecap
  split
  · omega
  · split
    · omega
    · exact growBy_le need 4 old _ (by omega) (by omega)
theorem run_grow {sT xT ty e : TypeId} {i : TypeInfo} {z : Value} {s x : Value} {b : Option Addr} {len cap n size : Nat} {old news : List Value} (hu : P.underlying sT = some (.slice e)) (hi : P.info? e = some i) (hsz : i.size = size) (hb : i.bytes ≤ 1048576)
    (hz : ∀ w, (zeroValue e).run P w = .ok z w) (hzs : z.cells.size = size) (hs : s = .slice b len cap) (hgrow : ¬ len + n ≤ cap) (hneed : len + n ≤ 1048576)
    (hold : ∀ w' : World, w'.heap = w.heap → (Builtin.firstCells size len s).run P w' = .ok old.toArray w')
    (hx : (∃ e1, P.underlying xT = some (.slice e1) ∧ (Builtin.lenOf x).run P w = .ok n w ∧ ∀ w' : World, w'.heap = w.heap → (Builtin.firstCells size n x).run P w' = .ok news.toArray w') ∨
      (∃ k kx, P.underlying xT = some (.int k) ∧ x = .int kx n ∧ news = zeros z.cells.toList n)) :
    ∃ newCap w', (Builtin.append_ #[sT, xT] ty #[s, x]).run P w = .ok (.slice (some ⟨w.heap.size, 0, none⟩) (len + n) newCap) w' ∧ len + n ≤ newCap ∧
      w' = ({ w with drawn := w.drawn + 1 } : World).alloc (.cells ((old.toArray ++ news.toArray) ++ (zeros z.cells.toList (newCap - (len + n))).toArray) e) := by
  have hcap := nextcap_le (need := len + n) (old := cap) (by omega) hneed
  have h2 : ¬ (Builtin.nextslicecap (len + n) cap * i.bytes > 2 ^ 48) := by
    have : Builtin.nextslicecap (len + n) cap * i.bytes ≤ 4194304 * 1048576 := Nat.mul_le_mul hcap hb
    omega
  have h1 : ¬ (((len + n : Nat) : Int) > IntKind.i64.max) := by
    have : IntKind.i64.max = 9223372036854775807 := by decide
    rw [this]; omega
  have hroom : ∀ (k : Nat) (w : World), (askRoom k).run P w = .ok () w := fun k w => by
    unfold askRoom; split <;> rfl
  have hchoose : ∀ w : World, (choose (.appendCap (len + n) cap e)).run P w = .ok ((Question.appendCap (len + n) cap e).cut (w.tape w.drawn (.appendCap (len + n) cap e))) { w with drawn := w.drawn + 1 } := fun w => by
    simp [choose, Sem.run, Question.forced]
  generalize hcc : (Question.appendCap (len + n) cap e).cut (w.tape w.drawn (.appendCap (len + n) cap e)) = newCap
  have hge : len + n ≤ newCap := by rw [← hcc]; simp only [Question.cut]; omega
  refine ⟨newCap, _, ?_, hge, rfl⟩
  have hzr : Builtin.zeroCells z.cells (newCap - (len + n)) = (zeros z.cells.toList (newCap - (len + n))).toArray := by
    unfold Builtin.zeroCells; exact zeros_range _ _
  subst hs
  rcases hx with ⟨e1, hd, hlen, hnew⟩ | ⟨k, kx, hd, rfl, rfl⟩
  · unfold Builtin.append_
    simp only [List.getElem?_toArray, List.getElem?_cons_zero, List.getElem?_cons_succ, Sem.run_bind, run_underlying hu, run_underlying hd, Result.andThen_ok, run_size hi, Sem.run_pure, Bool.false_eq_true, if_false, hlen, hgrow, run_info hi, h1, h2, hchoose, hroom, hsz,
      false_and, hcc, hold { w with drawn := w.drawn + 1 } rfl, hnew { w with drawn := w.drawn + 1 } rfl, hz, hzr, run_newRow, Bool.not_false, if_true]
  · have hw : IntKind.i64.wrap (n : Int) = n := by rw [IntKind.wrap_i64]; omega
    have hneg : ¬ ((n : Int) < 0) := by omega
    have hbig : ¬ ((n : Int) * (i.bytes : Int) > 2 ^ 48) := by
      have : n * i.bytes ≤ 1048576 * 1048576 := Nat.mul_le_mul (by omega) hb
      have : ((n * i.bytes : Nat) : Int) ≤ 1099511627776 := by omega
      rw [Int.natCast_mul] at this
      omega
    have hzn : Builtin.zeroCells z.cells n = (zeros z.cells.toList n).toArray := by
      unfold Builtin.zeroCells; exact zeros_range _ _
    have hne : ¬ (n * size = 0) ∨ (n * size = 0 ∧ (zeros z.cells.toList n) = []) := by
      by_cases h : n * size = 0
      · refine .inr ⟨h, List.eq_nil_of_length_eq_zero ?_⟩
        rw [zeros_length]; simpa [hzs] using h
      · exact .inl h
    unfold Builtin.append_
    simp only [List.getElem?_toArray, List.getElem?_cons_zero, List.getElem?_cons_succ, Sem.run_bind, run_underlying hu, run_underlying hd, Result.andThen_ok, run_size hi, Sem.run_pure, if_true, asInt, asIntOf, hw, hneg, if_false, run_info hi, hbig, Int.toNat_natCast, hgrow, h1, h2,
      hchoose, hroom, hsz, false_and, hcc, hold { w with drawn := w.drawn + 1 } rfl, Bool.not_true, Bool.false_eq_true]
    rcases hne with h | ⟨h, h'⟩
    · simp only [h, if_false, Sem.run_bind, hz, Result.andThen_ok, Sem.run_pure, hzn, hzr, run_newRow]
    · simp only [h, if_true, Sem.run_pure, Result.andThen_ok, Sem.run_bind, hz, hzr, run_newRow, h']
end
end Go.Ax

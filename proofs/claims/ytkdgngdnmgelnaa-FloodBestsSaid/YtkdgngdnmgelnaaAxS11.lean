import Derived.Test.YtkdgngdnmgelnaaAxS10
set_option linter.all false
namespace Go.Ax
open Go Go.RowKit
section
variable {P : Program} {lo base : Nat} {r : Ren} {A : Fr} {H : Hp} {w : World} {tmps : Array Value}
theorem append_args {ts : Array TypeId} {sT xT ty : TypeId} {s x : Value} (h0 : ts[0]? = some sT) (h1 : ts[1]? = some xT) : Builtin.append_ ts ty #[s, x] = Builtin.append_ #[sT, xT] ty #[s, x] := by
  unfold Builtin.append_
  simp only [h0, h1, List.getElem?_toArray, List.getElem?_cons_zero, List.getElem?_cons_succ]
theorem two_R {a b : Value} {l : List Value} (h : LR r [a, b] l) : ∃ a' b', l = [a', b'] ∧ VR r a a' ∧ VR r b b' := by
  obtain ⟨a', l', rfl, ha, hl⟩ := h.of_cons
  obtain ⟨b', l'', rfl, hb, hl'⟩ := hl.of_cons
  rw [hl'.of_nil]
  exact ⟨a', b', rfl, ha, hb⟩
theorem one_arg {a : Value} {l : List Value} (h : LR r [a] l) : ∃ a', l = [a'] ∧ VR r a a' := by
  obtain ⟨a', l', rfl, ha, hl⟩ := h.of_cons
  rw [hl.of_nil]
  exact ⟨a', rfl, ha⟩
theorem builtin_R (h : Rel P r base H w) (hlo : lo ≤ H.next) {b : Builtin} {ts : Array TypeId} {ty : TypeId} {consts : Array Bool} {vs vs' : List Value} {rs : Rs} {k : Kd} (kv : LR r vs vs') (hb : builtinV P lo H b ts vs = some (rs, k)) :
    OpS P lo base r H w (builtin b ts ty consts vs'.toArray) rs := by
  unfold builtinV at hb
  split at hb
  · -- append
    rename_i s x
    obtain ⟨s', x', rfl, ks, kx⟩ := two_R kv
    split at hb <;> first | (cases hb; done) | skip
    rename_i t0 t1 h0 h1
    have hap := append_args (ty := ty) (s := s') (x := x') h0 h1
    split at hb <;> first | (cases hb; done) | skip
    · rename_i e size e1 hse hu1
      obtain ⟨hu, hsz0, hcells, i, z, hi, hsz, hby, hz, hzs⟩ := sliceElem_spec hse
      split at hb <;> first | (cases hb; done) | skip
      rename_i n news hsrc
      obtain ⟨L, kn, hlen, hfc, hL⟩ := src_R h kx hsrc
      have hval : ∀ v H' k', appendV lo H e size s n news = some (.val v H', k') → ValS P lo base r H w (Builtin.append_ #[t0, t1] ty #[s', x']) v H' := fun v H' k' q =>
        append_R h hlo hu hsz0 hcells hi hsz hby hz hzs ks kn hL (.inl ⟨e1, hu1, hlen, hfc⟩) q
      cases rs with
      | val v H' =>
        have := OpS.value (hval v H' k hb)
        rw [← hap] at this
        exact this
      | _ => exfalso; revert hb; unfold appendV; (repeat' split) <;> simp [bif_ite] <;> (repeat' split) <;> simp
    · rename_i e size kk hse hu1
      obtain ⟨hu, hsz0, hcells, i, z, hi, hsz, hby, hz, hzs⟩ := sliceElem_spec hse
      split at hb <;> first | (cases hb; done) | skip
      rename_i kx' n z' hzz
      rw [hz] at hzz; cases hzz
      obtain ⟨hn, hb⟩ := bif_some hb
      have ex : x' = .int kx' (n : Int) := int_same kx
      have kzz : LR r (zeros z.cells.toList n) (zeros z.cells.toList n) := zeros_LR (flat_LR (run_zero hz default).2) n
      have hL : (zeros z.cells.toList n).length = n * size := by rw [zeros_length]; simp [hzs]
      have hval : ∀ v H' k', appendV lo H e size s n (zeros z.cells.toList n) = some (.val v H', k') → ValS P lo base r H w (Builtin.append_ #[t0, t1] ty #[s', x']) v H' := fun v H' k' q =>
        append_R h hlo hu hsz0 hcells hi hsz hby hz hzs ks kzz hL (.inr ⟨kk, kx', hu1, ex, rfl⟩) q
      cases rs with
      | val v H' =>
        have := OpS.value (hval v H' k hb)
        rw [← hap] at this
        exact this
      | _ => exfalso; revert hb; unfold appendV; (repeat' split) <;> simp [bif_ite] <;> (repeat' split) <;> simp
  · -- copy
    rename_i d s
    obtain ⟨d', s', rfl, kd, ks⟩ := two_R kv
    split at hb <;> first | (cases hb; done) | skip
    rename_i t0 h0
    split at hb <;> first | (cases hb; done) | skip
    · rename_i e0 size a dl dc sa sl sc hse
      obtain ⟨hu, hsz0, hcells, i, z, hi, hsz, hby, hz, hzs⟩ := sliceElem_spec hse
      simp only at hb
      split at hb <;> first | (cases hb; done) | skip
      rename_i n0 news hsrc
      split at hb <;> first | (cases hb; done) | skip
      rename_i cs e lz hspot hget
      obtain ⟨hc, hb⟩ := bif_some hb
      cases hb
      simp only [Bool.and_eq_true] at hc
      obtain ⟨⟨h1, h2⟩, h3⟩ := hc
      have h1 := Nat.le_of_ble_eq_true h1
      have h2 := Nat.le_of_ble_eq_true h2
      obtain ⟨loc, c', e1, e2, e3, e4⟩ := slice_R kd (.inl hspot)
      obtain ⟨C, hC, hcR, hzz⟩ := block_R h e1 hget
      have hmin : Nat.min sl dl ≤ sl := Nat.min_le_left _ _
      -- the source, cut to what is copied
      have hs' : ∃ sa' sc', s' = .slice sa' sl sc' ∧ VR r (.slice sa (Nat.min sl dl) sc) (.slice sa' (Nat.min sl dl) sc') := by
        cases ks with
        | nilSlice => exact ⟨none, 0, rfl, by have : Nat.min 0 dl = 0 := Nat.zero_min _; rw [this]; exact .nilSlice⟩
        | slice e l q => exact ⟨_, _, rfl, .slice e l (Nat.le_trans hmin q)⟩
        | loose e l a b => exact ⟨_, _, rfl, .loose e l (Nat.le_trans hmin a) b⟩
        | weird => exact ⟨_, _, rfl, by have : Nat.min 0 dl = 0 := Nat.zero_min _; rw [this]; exact .weird⟩
      obtain ⟨sa', sc', rfl, ks2⟩ := hs'
      have hn0 : n0 = Nat.min sl dl := by
        unfold srcCells at hsrc
        split at hsrc
        · rename_i heq; cases heq; obtain ⟨q, hsrc⟩ := bif_some hsrc; cases hsrc
          have : Nat.beq (Nat.min sl dl) 0 = true := q
          rw [beq_eq] at this; exact (of_decide_eq_true this).symm
        · rename_i heq; cases heq
          split at hsrc <;> first | (cases hsrc; done) | skip
          · split at hsrc <;> first | (cases hsrc; done) | skip
            cases hsrc; rfl
          · obtain ⟨q, hsrc⟩ := bif_some hsrc
            cases hsrc
            have q : Nat.beq (Nat.min sl dl) 0 = true := q
            rw [beq_eq] at q; exact (of_decide_eq_true q).symm
        · cases hsrc
      subst hn0
      obtain ⟨L, kn, _, hfc, hL⟩ := src_R h ks2 hsrc
      have hnl : news.length = Nat.min sl dl * size := by rw [kn.1]; exact hL
      have hfits := ObR_fits hzz
      have hp := Post.put (lo := lo) h e1 hget h1 hC kn a.off (by omega)
      have hst := run_storeCells_at P loc.blk (a.off + loc.delta) e L 0 C w hC (by omega) (ones_R h3 kn)
      have hfc' := hfc w rfl
      have hlenr : ∀ w : World, (Builtin.lenOf (.slice sa' sl sc')).run P w = .ok sl w := fun _ => rfl
      have hfirst : (Builtin.firstCells size (Nat.min sl dl) (.slice sa' sl sc')).run P w = .ok L.toArray w := by
        cases sa' with
        | none => simpa [Builtin.firstCells] using hfc'
        | some q => simpa [Builtin.firstCells] using hfc'
      refine ⟨r, .int .i64 (Nat.min sl dl : Nat), w.setRow loc.blk (laid C (loc.delta + a.off) L), ?_, .int _ _, hp⟩
      rw [e3]
      have hD : a.off + loc.delta = loc.delta + a.off := by omega
      rw [hD] at hst
      simp only [Nat.add_zero] at hst
      simp only [builtin, Builtin.copy_, h0, List.getElem?_toArray, List.getElem?_cons_zero, List.getElem?_cons_succ, Sem.run_bind, run_underlying hu, Result.andThen_ok, hlenr, run_size hi, hsz, hfirst, hD]
      have hst2 : (storeCells ⟨loc.blk, loc.delta + a.off, none⟩ L).run P w = .ok () (w.setRow loc.blk (laid C (loc.delta + a.off) L)) := by simpa [laid] using hst
      simp only [hst2, Result.andThen_ok, Sem.run_pure, goInt]
    · rename_i e0 dl dc sa sl sc hse
      obtain ⟨⟨e, size⟩⟩ : Nonempty (TypeId × Nat) := ⟨e0⟩
      cases hb
      have hdl := nilSlice_same kd
      obtain ⟨hu, hsz0, hcells, i, z, hi, hsz, hby, hz, hzs⟩ := sliceElem_spec (e := e0.1) (size := e0.2) hse
      cases kd
      have hs' : ∃ sa' sc', s' = .slice sa' sl sc' := by cases ks <;> exact ⟨_, _, rfl⟩
      obtain ⟨sa', sc', rfl⟩ := hs'
      have hm : Nat.min sl 0 = 0 := Nat.min_zero _
      refine ⟨r, .int .i64 0, w, ?_, .int _ _, Post.refl h⟩
      have hlenr : ∀ w : World, (Builtin.lenOf (.slice sa' sl sc')).run P w = .ok sl w := fun _ => rfl
      have hfirst : (Builtin.firstCells i.size 0 (.slice sa' sl sc')).run P w = .ok #[] w := by
        cases sa' <;> simp [Builtin.firstCells, loadCells, loadCellsFrom]
      simp only [builtin, Builtin.copy_, h0, List.getElem?_toArray, List.getElem?_cons_zero, List.getElem?_cons_succ, Sem.run_bind, run_underlying hu, Result.andThen_ok, hlenr, run_size hi, hm, hfirst, Sem.run_pure, goInt]
      rfl
  · -- cap
    rename_i a n c
    obtain ⟨x', rfl, kx⟩ := one_arg kv
    split at hb <;> first | (cases hb; done) | skip
    rename_i t h0
    split at hb <;> first | (cases hb; done) | skip
    · rename_i e hu
      cases hb
      have := nilSlice_same kx
      subst this
      refine ⟨r, .int .i64 c, w, ?_, .int _ _, Post.refl h⟩
      simp [builtin, Builtin.cap_, h0, run_underlying hu, goInt]
    · rename_i e ad hu
      split at hb <;> first | (cases hb; done) | skip
      · rename_i cs e' hsp hget
        cases hb
        obtain ⟨loc, c', e1, e2, e3, e4⟩ := slice_R kx (.inl hsp)
        obtain ⟨C, hC, hcR, hzz⟩ := block_R h e1 hget
        rcases hzz with ⟨_, hln, hd0, hCs⟩ | ⟨_, _, hf, _⟩
        rotate_left
        · cases hf
        rcases e4 with ⟨_, hcc, hle⟩ | ⟨_, _, hf, _⟩
        rotate_left
        · rw [hln] at hf; cases hf
        subst hcc
        refine ⟨r, .int .i64 c', w, ?_, .int _ _, Post.refl h⟩
        rw [e3]
        simp [builtin, Builtin.cap_, h0, run_underlying hu, goInt]
      · rename_i cs hsp hget
        cases hb
        obtain ⟨loc, c', e1, e2, e3, e4⟩ := slice_R kx (.inl hsp)
        have hln : loc.loose = none := (h.cont _ loc _ e1 hget).1
        rcases e4 with ⟨_, hcc, hle⟩ | ⟨_, _, hf, _⟩
        rotate_left
        · rw [hln] at hf; cases hf
        subst hcc
        refine ⟨r, .int .i64 c', w, ?_, .int _ _, Post.refl h⟩
        rw [e3]
        simp [builtin, Builtin.cap_, h0, run_underlying hu, goInt]
  · -- panic
    rename_i t v
    obtain ⟨x', rfl, kx⟩ := one_arg kv
    cases hb
    obtain ⟨u', rfl, ku⟩ := iface_R kx
    exact ⟨.iface t u', by simp [builtin, Instr.panic, goPanic, Sem.run], .iface t ku⟩
  · -- recover
    cases hb
    rw [kv.of_nil]
    rfl
  · cases hb
end
end Go.Ax

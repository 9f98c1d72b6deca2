import Derived.Test.YtkdgngdnmgelnaaAxS15
set_option linter.all false
namespace Go.Ax
open Go Go.RowKit
section
variable {P : Program} {lo : Nat} {A : Fr} {H : Hp}
def Lit (P : Program) (A : Fr) (H : Hp) (o : Oper) (v : Value) : Kd → Prop
  | .pure => ∀ (r : Ren) (w : World) (tmps : Array Value), TmpR r A.n A.T tmps → ∃ v', VR r v v' ∧ (execOp (evT tmps) o).run P w = .ok (.value v') w
  | .read b => ∃ ob, H.t.get b = some ob ∧ ∀ (r : Ren) (w : World) (tmps : Array Value), TmpR r A.n A.T tmps → ∃ loc, r b = some loc ∧
      (ObR P r loc ob w.heap[loc.blk]? → ∃ v', VR r v v' ∧ (execOp (evT tmps) o).run P w = .ok (.value v') w)
  | _ => True
theorem exec_builtin {c : Call} {b : Builtin} {o : Oper} (hop : o.op = .call c) (hc : c.callee = .builtin b) (tmps : Array Value) (w : World) :
    (execOp (evT tmps) o).run P w = (builtin b c.argTypes o.type (c.args.map fun | .const _ => true | _ => false) (c.args.map (evT tmps))).run P w := by
  simp only [execOp, hop, resolve, hc, Sem.run_bind, Sem.run_pure, Result.andThen_ok, invoke]; rfl
theorem append_zero {lo : Nat} {e : TypeId} {size n : Nat} {s : Value} {news : List Value} {v : Value} {H' : Hp} (h : appendV lo H e size s n news = some (.val v H', .pure)) : n = 0 ∧ v = s ∧ n ≤ 1048576 ∧ ((∃ a len cap, s = .slice (some a) len cap ∧ len ≤ 1048576) ∨ ∃ c, s = .slice none 0 c) := by
  unfold appendV at h
  split at h
  · obtain ⟨hb, h⟩ := bif_some h
    simp only [Bool.and_eq_true, beq_eq, decide_eq_true_eq] at hb
    cases hn : Nat.beq n 0 <;> rw [hn] at h <;> simp only [cond_true, cond_false] at h <;> cases h
    rw [beq_eq] at hn
    have := of_decide_eq_true hn
    subst this
    have hl := hb.1.2
    subst hl
    exact ⟨rfl, rfl, by omega, .inr ⟨_, rfl⟩⟩
  · rename_i a len cap
    obtain ⟨hb, h⟩ := bif_some h
    have hb := Nat.le_of_ble_eq_true hb
    cases hn : Nat.beq n 0 <;> rw [hn] at h <;> simp only [cond_true, cond_false] at h
    · split at h <;> first | (cases h; done) | skip
      · rename_i cs e' _ hget
        cases hc : Nat.ble (len + n) cap <;> rw [hc] at h <;> simp only [cond_true, cond_false] at h
        · split at h <;> first | (cases h; done) | skip
        · obtain ⟨_, h⟩ := bif_some h
          cases h
      · rename_i cs e' _ hget
        obtain ⟨_, h⟩ := bif_some h
        cases hc : Nat.ble (a.off + (len + n) * size) cs.length <;> rw [hc] at h <;> simp only [cond_true, cond_false] at h
        · obtain ⟨_, h⟩ := bif_some h
          cases h
        · cases h
    · cases h
      rw [beq_eq] at hn
      have := of_decide_eq_true hn
      subst this
      exact ⟨rfl, rfl, by omega, .inl ⟨a, len, cap, rfl, by omega⟩⟩
  · cases h
theorem append_noread {lo : Nat} {e : TypeId} {size n : Nat} {s : Value} {news : List Value} {rs : Rs} {b : Nat} (h : appendV lo H e size s n news = some (rs, .read b)) : False := by
  unfold appendV at h
  split at h
  · obtain ⟨_, h⟩ := bif_some h
    cases hn : Nat.beq n 0 <;> rw [hn] at h <;> simp only [cond_true, cond_false] at h <;> cases h
  · rename_i a len cap
    obtain ⟨_, h⟩ := bif_some h
    cases hn : Nat.beq n 0 <;> rw [hn] at h <;> simp only [cond_true, cond_false] at h
    · split at h <;> first | (cases h; done) | skip
      · cases hc : Nat.ble (len + n) cap <;> rw [hc] at h <;> simp only [cond_true, cond_false] at h
        · split at h <;> first | (cases h; done) | skip
        · obtain ⟨_, h⟩ := bif_some h
          cases h
      · rename_i cs e' _ hget
        obtain ⟨_, h⟩ := bif_some h
        cases hc : Nat.ble (a.off + (len + n) * size) cs.length <;> rw [hc] at h <;> simp only [cond_true, cond_false] at h
        · obtain ⟨_, h⟩ := bif_some h
          cases h
        · cases h
    · cases h
  · cases h
theorem append_lit {r : Ren} {w : World} {sT xT ty e : TypeId} {i : TypeInfo} {z s s' x' : Value} {size : Nat} {L : List Value} (hu : P.underlying sT = some (.slice e))
    (hi : P.info? e = some i) (hsz : i.size = size) (hb : i.bytes ≤ 1048576) (hz : zeroOf P e = some z) (hzs : z.cells.size = size) (ks : VR r s s') (hL : L.length = 0) (hx : Src P w xT size z x' 0 L)
    (hs : (∃ a len cap, s = .slice (some a) len cap ∧ len ≤ 1048576) ∨ ∃ c, s = .slice none 0 c) : (Builtin.append_ #[sT, xT] ty #[s', x']).run P w = .ok s' w := by
  have hzr := fun w => (run_zero hz w).1
  have hL0 : L = [] := List.eq_nil_of_length_eq_zero hL
  subst hL0
  rcases hs with ⟨a, len, cap, rfl, hl⟩ | ⟨c, rfl⟩
  · obtain ⟨x0, c', e3, hle⟩ : ∃ x0 c', s' = .slice (some x0) len c' ∧ len ≤ c' := by
      cases ks with
      | slice e l q => exact ⟨_, _, rfl, q⟩
      | loose e l a b => exact ⟨_, _, rfl, a⟩
      | weird => exact ⟨_, _, rfl, Nat.zero_le _⟩
    rw [e3]
    exact run_place hu hi hsz hb hzr hzs rfl (by omega) (by omega) hx (w' := w) rfl
  · rw [nilSlice_same ks]
    cases ks
    exact run_place hu hi hsz hb hzr hzs rfl (by omega) (by omega) hx (w' := w) rfl
theorem first_zero {x' : Value} {size : Nat} (h : ∃ a c, x' = .slice a 0 c) (w : World) : (Builtin.firstCells size 0 x').run P w = .ok ([] : List Value).toArray w := by
  obtain ⟨a, c, rfl⟩ := h
  cases a with
  | none => rfl
  | some a => simp [Builtin.firstCells, loadCells, loadCellsFrom]
theorem lit_R {o : Oper} {v : Value} {H' : Hp} {k : Kd} (h : heapOp P lo A H o = some (.val v H', k)) : Lit P A H o v k := by
  have h0 := h
  unfold heapOp at h
  cases hop : o.op <;> simp only [hop] at h <;> try (cases h; done)
  case alloc e =>
    split at h <;> first | (cases h; done) | skip
    cases h; trivial
  case box e x =>
    split at h <;> first | (cases h; done) | skip
    cases h; trivial
  case buildSlice t len parts =>
    split at h <;> first | (cases h; done) | skip
    split at h <;> first | (cases h; done) | skip
    obtain ⟨_, h⟩ := bif_some h
    split at h <;> first | (cases h; done) | skip
    cases h; trivial
  case makeSlice t l c =>
    split at h <;> first | (cases h; done) | skip
    split at h <;> first | (cases h; done) | skip
    obtain ⟨_, h⟩ := bif_some h
    cases h; trivial
  case store t a x =>
    split at h <;> first | (cases h; done) | skip
    split at h <;> first | (cases h; done) | skip
  case makeMap t r0 =>
    cases r0 with
    | some x => cases h
    | none => cases h; trivial
  case lookup t x ix ok =>
    split at h <;> first | (cases h; done) | skip
    · rename_i kt et b kv hu hx hix
      split at h <;> first | (cases h; done) | skip
      rename_i es c hget
      obtain ⟨hk, h⟩ := bif_some h
      split at h <;> first | (cases h; done) | skip
      rename_i v0 hp
      obtain ⟨hv, h⟩ := bif_some h
      cases h
      refine ⟨_, hget, fun r w tmps hT => ?_⟩
      have kx := evR hT hx
      have kk := flat_same hk (evR hT hix)
      generalize hgx : evT tmps x = x' at kx
      cases kx with
      | mapv e =>
        refine ⟨_, e, fun hOb => ⟨_, flatT_vr hv, ?_⟩⟩
        unfold execOp
        simp only [hop, hgx, kk, Sem.run_bind, lookup_run hu hOb, prun_run _ hp w, Result.andThen_ok, Sem.run_pure]
    · rename_i kt et kv hu hx hix
      obtain ⟨hk, h⟩ := bif_some h
      split at h <;> first | (cases h; done) | skip
      rename_i v0 hp
      obtain ⟨hv, h⟩ := bif_some h
      cases h
      intro r w tmps hT
      have kx := evR hT hx
      have kk := flat_same hk (evR hT hix)
      generalize hgx : evT tmps x = x' at kx
      cases kx
      refine ⟨_, flatT_vr hv, ?_⟩
      unfold execOp
      simp only [hop, hgx, kk, Sem.run_bind, prun_run _ hp w, Result.andThen_ok, Sem.run_pure]
  case mapEntry t m k =>
    split at h <;> first | (cases h; done) | skip
    obtain ⟨_, _, _, _, rfl, _⟩ := entryV_chg h
    trivial
  case entryStore t m s x =>
    split at h <;> first | (cases h; done) | skip
    obtain ⟨_, _, e, _⟩ := entryStoreV_chg h
    cases e
  case mapUpdate t m k x =>
    split at h <;> first | (cases h; done) | skip
    obtain ⟨_, _, e, _⟩ := updateV_chg h
    cases e
  case insert t m k x =>
    split at h <;> first | (cases h; done) | skip
    obtain ⟨_, _, e, _⟩ := updateV_chg h
    cases e
  case load t a =>
    split at h <;> first | (cases h; done) | skip
    rename_i ad ha
    split at h <;> first | (cases h; done) | skip
    rename_i v0 hl
    cases h
    obtain ⟨ob, hget⟩ := load_get hl
    refine ⟨_, hget, fun r w tmps hT => ?_⟩
    obtain ⟨loc, e1, e2, e3⟩ := ptr_R (evR hT ha)
    refine ⟨loc, e1, fun hOb => ?_⟩
    obtain ⟨v', q, hrun⟩ := load_R (w := w) hget hl e1 hOb
    refine ⟨v', q, ?_⟩
    unfold execOp
    simp only [hop, e3, Instr.loadAt, Instr.sureAddr, Sem.run_bind, Sem.run_pure, Result.andThen_ok, hrun]
  case slice t x lw hi mx =>
    have hex : ∀ (tmps : Array Value) (w : World) (v' : Value), (Instr.sliceAt t (evT tmps x) (lw.map (evT tmps)) (hi.map (evT tmps)) (mx.map (evT tmps))).run P w = .ok v' w → (execOp (evT tmps) o).run P w = .ok (.value v') w := fun tmps w v' q => by
      unfold execOp
      simp only [hop, Sem.run_bind, q, Result.andThen_ok, Sem.run_pure]
    cases k with
    | pure =>
      intro r w tmps hT
      obtain ⟨_, hk⟩ := slice_op (r := r) hT hop h0
      rcases hk with ⟨_, v', q, hrun⟩ | ⟨b, ob, hf, _⟩
      · exact ⟨v', q, hex tmps w v' (hrun w)⟩
      · cases hf
    | read b =>
      have hsome : ∃ ob, H.t.get b = some ob := by
        revert h
        (repeat' split) <;> intro h <;> first | (cases h; done) | (obtain ⟨_, h⟩ := bif_some h; cases h; done) | skip
        all_goals
          obtain ⟨_, h⟩ := bif_some h
          cases h
          exact ⟨_, by assumption⟩
      obtain ⟨ob, hget⟩ := hsome
      refine ⟨ob, hget, fun r w tmps hT => ?_⟩
      obtain ⟨_, hk⟩ := slice_op (r := r) hT hop h0
      rcases hk with ⟨hf, _⟩ | ⟨b', ob', hb, hget', hk⟩
      · cases hf
      · cases hb
        rw [hget] at hget'; cases hget'
        have hloc : ∃ loc, r b = some loc := by
          revert h
          (repeat' split) <;> intro h <;> first | (cases h; done) | (obtain ⟨_, h⟩ := bif_some h; cases h; done) | skip
          · skip
            obtain ⟨_, h⟩ := bif_some h
            cases h
            obtain ⟨loc, c', e1, _⟩ := slice_R (evR hT (x := x) (by assumption)) (.inl (by assumption))
            exact ⟨loc, e1⟩
          · skip
            obtain ⟨_, h⟩ := bif_some h
            cases h
            obtain ⟨loc, c', e1, _⟩ := slice_R (evR hT (x := x) (by assumption)) (.inl (by assumption))
            exact ⟨loc, e1⟩
          · skip
            obtain ⟨_, h⟩ := bif_some h
            cases h
            obtain ⟨loc, c', e1, _⟩ := slice_R (evR hT (x := x) (by assumption)) (.inl (by assumption))
            exact ⟨loc, e1⟩
          · skip
            obtain ⟨_, h⟩ := bif_some h
            cases h
            obtain ⟨loc, e1, _⟩ := ptr_R (evR hT (x := x) (by assumption))
            exact ⟨loc, e1⟩
        obtain ⟨loc, hl⟩ := hloc
        refine ⟨loc, hl, fun hOb => ?_⟩
        obtain ⟨v', q, hrun⟩ := hk (fun loc' e => by rw [hl] at e; cases e; exact ⟨_, hOb⟩)
        exact ⟨v', q, hex tmps w v' (hrun w)⟩
    | _ => trivial
  case call c =>
    cases hc : c.callee with
    | invoke x name => simp only [hc] at h; split at h <;> cases h
    | value f => simp only [hc] at h; split at h <;> cases h
    | builtin b =>
      simp only [hc] at h
      cases hvs : evs A c.args.toList with
      | none => simp [hvs] at h
      | some vs =>
        simp only [hvs] at h
        have hargs : ∀ (r : Ren) (tmps : Array Value), TmpR r A.n A.T tmps → LR r vs (c.args.map (evT tmps)).toList := fun r tmps hT => by
          have := evsR hT hvs
          simpa using this
        unfold builtinV at h
        split at h
        · rename_i s x
          split at h <;> first | (cases h; done) | skip
          rename_i t0 t1 h0' h1'
          split at h <;> first | (cases h; done) | skip
          · rename_i e size e1 hse hu1
            obtain ⟨hu, hsz0, hcells, i, z, hi, hsz, hby, hz, hzs⟩ := sliceElem_spec hse
            split at h <;> first | (cases h; done) | skip
            rename_i n news hsrc
            cases k with
            | pure =>
              obtain ⟨hn, hv, _, hs⟩ := append_zero h
              subst hn; subst hv
              intro r w tmps hT
              obtain ⟨s', x', hl, ks, kx⟩ := two_R (hargs r tmps hT)
              have hx0 : ∃ a c, x' = .slice a 0 c := by
                unfold srcCells at hsrc
                split at hsrc
                · obtain ⟨q, hsrc⟩ := bif_some hsrc
                  rw [beq_eq] at q
                  have := of_decide_eq_true q
                  subst this
                  cases kx; exact ⟨none, 0, rfl⟩
                · split at hsrc <;> first | (cases hsrc; done) | skip
                  · split at hsrc <;> first | (cases hsrc; done) | skip
                    cases hsrc
                    cases kx <;> exact ⟨_, _, rfl⟩
                  · obtain ⟨q, hsrc⟩ := bif_some hsrc
                    rw [beq_eq] at q
                    have q := of_decide_eq_true q
                    subst q
                    cases kx <;> exact ⟨_, _, rfl⟩
                · cases hsrc
              refine ⟨s', ks, ?_⟩
              have harr : c.args.map (evT tmps) = #[s', x'] := by apply Array.toList_inj.1; rw [hl]
              rw [exec_builtin hop hc, harr]
              have hx : Src P w t1 size z x' 0 [] := by
                refine .inl ⟨e1, hu1, ?_, fun w' _ => first_zero hx0 w'⟩
                obtain ⟨a, c', rfl⟩ := hx0; rfl
              have := append_lit (w := w) (ty := o.type) hu hi hsz hby hz hzs ks (L := []) rfl hx hs
              rw [← append_args h0' h1'] at this
              simp only [builtin, Sem.run_bind, this, Result.andThen_ok, Sem.run_pure]
            | read b => exact (append_noread h).elim
            | _ => trivial
          · rename_i e size kk hse hu1
            obtain ⟨hu, hsz0, hcells, i, z, hi, hsz, hby, hz, hzs⟩ := sliceElem_spec hse
            split at h <;> first | (cases h; done) | skip
            rename_i kx' n z' hzz
            rw [hz] at hzz; cases hzz
            obtain ⟨_, h⟩ := bif_some h
            cases k with
            | pure =>
              obtain ⟨hn, hv, _, hs⟩ := append_zero h
              subst hn; subst hv
              intro r w tmps hT
              obtain ⟨s', x', hl, ks, kx⟩ := two_R (hargs r tmps hT)
              have ex : x' = .int kx' ((0 : Nat) : Int) := int_same kx
              refine ⟨s', ks, ?_⟩
              have harr : c.args.map (evT tmps) = #[s', x'] := by apply Array.toList_inj.1; rw [hl]
              rw [exec_builtin hop hc, harr]
              have := append_lit (w := w) (ty := o.type) hu hi hsz hby hz hzs ks (L := zeros z.cells.toList 0) rfl (.inr ⟨kk, kx', hu1, ex, rfl⟩) hs
              rw [← append_args h0' h1'] at this
              simp only [builtin, Sem.run_bind, this, Result.andThen_ok, Sem.run_pure]
            | read b => exact (append_noread h).elim
            | _ => trivial
        · split at h <;> first | (cases h; done) | skip
          rename_i d s _ t0 h0'
          split at h <;> first | (cases h; done) | skip
          · simp only at h
            split at h <;> first | (cases h; done) | skip
            split at h <;> first | (cases h; done) | skip
            obtain ⟨_, h⟩ := bif_some h
            cases h; trivial
          · rename_i e0 dl dc sa sl sc hse
            cases h
            intro r w tmps hT
            obtain ⟨d', s', hl, kd, ks⟩ := two_R (hargs r tmps hT)
            obtain ⟨hu, hsz0, hcells, i, z, hi, hsz, hby, hz, hzs⟩ := sliceElem_spec (e := e0.1) (size := e0.2) hse
            have hd := nilSlice_same kd
            cases kd
            have hs' : ∃ sa' sc', s' = .slice sa' sl sc' := by cases ks <;> exact ⟨_, _, rfl⟩
            obtain ⟨sa', sc', rfl⟩ := hs'
            have hm : Nat.min sl 0 = 0 := Nat.min_zero _
            refine ⟨.int .i64 0, .int _ _, ?_⟩
            have harr : c.args.map (evT tmps) = #[.slice none 0 0, .slice sa' sl sc'] := by apply Array.toList_inj.1; rw [hl]
            rw [exec_builtin hop hc, harr]
            have hlenr : ∀ w : World, (Builtin.lenOf (.slice sa' sl sc')).run P w = .ok sl w := fun _ => rfl
            have hfirst : (Builtin.firstCells i.size 0 (.slice sa' sl sc')).run P w = .ok #[] w := by
              cases sa' <;> simp [Builtin.firstCells, loadCells, loadCellsFrom]
            simp only [builtin, Builtin.copy_, h0', List.getElem?_toArray, List.getElem?_cons_zero, List.getElem?_cons_succ, Sem.run_bind, run_underlying hu, Result.andThen_ok, hlenr, run_size hi, hm, hfirst, Sem.run_pure, goInt]
            rfl
        · rename_i a0 n0 c0
          split at h <;> first | (cases h; done) | skip
          rename_i t h0'
          split at h <;> first | (cases h; done) | skip
          · rename_i e hu
            cases h
            intro r w tmps hT
            obtain ⟨x', hl, kx⟩ := one_arg (hargs r tmps hT)
            have hx := nilSlice_same kx
            subst hx
            refine ⟨_, .int _ _, ?_⟩
            have harr : c.args.map (evT tmps) = #[.slice none n0 c0] := by apply Array.toList_inj.1; rw [hl]
            rw [exec_builtin hop hc, harr]
            simp [builtin, Builtin.cap_, h0', run_underlying hu, goInt]
          · rename_i e ad hu
            split at h <;> first | (cases h; done) | skip
            · rename_i cs e' hsp hget
              cases h
              refine ⟨_, hget, fun r w tmps hT => ?_⟩
              obtain ⟨x', hl, kx⟩ := one_arg (hargs r tmps hT)
              obtain ⟨loc, c', e1, e2, e3, e4⟩ := slice_R kx (.inl hsp)
              refine ⟨loc, e1, fun hOb => ?_⟩
              obtain ⟨C, hC, hcR, hzz⟩ := hOb
              rcases hzz with ⟨_, hln, hd0, hCs⟩ | ⟨_, _, hf, _⟩
              rotate_left
              · cases hf
              rcases e4 with ⟨_, hcc, hle⟩ | ⟨_, _, hf, _⟩
              rotate_left
              · rw [hln] at hf; cases hf
              subst hcc
              subst e3
              refine ⟨.int .i64 c', .int _ _, ?_⟩
              have harr : c.args.map (evT tmps) = #[.slice (some ⟨loc.blk, ad.off + loc.delta, none⟩) n0 c'] := by apply Array.toList_inj.1; rw [hl]
              rw [exec_builtin hop hc, harr]
              simp [builtin, Builtin.cap_, h0', run_underlying hu, goInt]
            · rename_i cs hsp hget
              cases h
              refine ⟨_, hget, fun r w tmps hT => ?_⟩
              obtain ⟨x', hl, kx⟩ := one_arg (hargs r tmps hT)
              obtain ⟨loc, c', e1, e2, e3, e4⟩ := slice_R kx (.inl hsp)
              refine ⟨loc, e1, fun hOb => ?_⟩
              have hln : loc.loose = none := hOb.1
              rcases e4 with ⟨_, hcc, hle⟩ | ⟨_, _, hf, _⟩
              rotate_left
              · rw [hln] at hf; cases hf
              subst hcc
              subst e3
              refine ⟨.int .i64 c', .int _ _, ?_⟩
              have harr : c.args.map (evT tmps) = #[.slice (some ⟨loc.blk, ad.off + loc.delta, none⟩) n0 c'] := by apply Array.toList_inj.1; rw [hl]
              rw [exec_builtin hop hc, harr]
              simp [builtin, Builtin.cap_, h0', run_underlying hu, goInt]
        · cases h
        · cases h
        · cases h
  case defer c => (repeat' split at h) <;> cases h
  case panic x => (repeat' split at h) <;> cases h
end
end Go.Ax

import Derived.Test.YtkdgngdnmgelnaaAxS11
set_option linter.all false
namespace Go.Ax
open Go Go.RowKit
section
variable {P : Program} {lo base : Nat} {r : Ren} {A : Fr} {H : Hp} {w : World} {tmps : Array Value}
theorem target_R (hT : TmpR r A.n A.T tmps) {c : Call} {t : Target} {vs : List Value} (h : targetOf A c = some (t, vs)) (ty : TypeId) :
    ∃ t' vs', (∀ w, (resolve (evT tmps) c ty).run P w = .ok { target := t', args := vs' } w) ∧ TgR r t t' ∧ LR r vs vs'.toList := by
  unfold targetOf at h
  cases hvs : evs A c.args.toList with
  | none => simp [hvs] at h
  | some us =>
    simp only [hvs] at h
    have ku := evsR hT hvs
    have e1 : (c.args.toList.map (evT tmps)).toArray = c.args.map (evT tmps) := map_toArray _ _
    cases hc : c.callee with
    | builtin b => simp [hc] at h
    | invoke x name =>
      simp only [hc] at h
      cases hx : ev A x with
      | none => simp [hx] at h
      | some v =>
        simp [hx] at h
        obtain ⟨rfl, rfl⟩ := h
        refine ⟨.fn (.method name) #[], #[evT tmps x] ++ c.args.map (evT tmps), fun w => ?_, ⟨_, _, rfl, .method _, LR.nil⟩, ?_⟩
        · simp [resolve, hc]
        · have := LR.cons (evR hT hx) ku
          simpa using this
    | value f =>
      simp only [hc] at h
      cases hx : ev A f with
      | none => simp [hx] at h
      | some v =>
        rw [hx] at h
        split at h <;> first | (cases h; done) | skip
        rename_i fn first cap heq
        cases heq; cases h
        have kf := evR hT hx
        generalize hg : evT tmps f = u at kf
        cases kf with
        | func kfn s1 k1 s2 k2 =>
          rename_i fn' A' B'
          refine ⟨.fn fn' B', A' ++ c.args.map (evT tmps), fun w => ?_, ⟨_, _, rfl, kfn, LR_toArray.2 ⟨s2, k2⟩⟩, ?_⟩
          · simp [resolve, hc, Deferred.ofValue, hg]
          · have := LR.append (LR_toArray.2 ⟨s1, k1⟩) ku
            simpa using this
theorem updateV_R (h : Rel P r base H w) {t : TypeId} {m k v m' k' v' : Value} (km : VR r m m') (kk : VR r k k') (kv : VR r v v') {rs : Rs} {kd : Kd} (he : updateV P lo H t m k v = some (rs, kd)) :
    ∃ H' w', rs = .skip H' ∧ (Instr.mapUpdate t m' k' v').run P w = .ok () w' ∧ Post P lo base r H w r H' w' := by
  unfold updateV at he
  split at he <;> first | (cases he; done) | skip
  rename_i kt et b hu
  split at he <;> first | (cases he; done) | skip
  rename_i es c hget
  obtain ⟨hb, he⟩ := bif_some he
  simp only [Bool.and_eq_true] at hb
  obtain ⟨⟨hk, hv⟩, hlb⟩ := hb
  split at he <;> first | (cases he; done) | skip
  rename_i es' c' hp
  cases he
  rw [flat_same hk kk, flat_same hv kv]
  cases km with
  | mapv e =>
    rename_i loc
    have hob : w.heap[loc.blk]? = some (.map es c) := h.cont _ _ _ e hget
    have hlt : loc.blk < w.heap.size := by
      rcases Nat.lt_or_ge loc.blk w.heap.size with q | q
      · exact q
      · rw [Array.getElem?_eq_none q] at hob; cases hob
    refine ⟨_, { w with heap := w.heap.setIfInBounds loc.blk (.map es' c') }, rfl, ?_, ?_⟩
    · rw [update_run hu hob hp]; simp [setObj, Sem.run, hob]
    · refine Post.change h e ⟨_, hget, by simp, rfl⟩ (Nat.le_of_ble_eq_true hlb) (by simp) (fun q hq => ?_) ⟨rfl, rfl, rfl⟩ ?_
      · show (w.heap.setIfInBounds loc.blk (.map es' c'))[q]? = _
        rw [Array.getElem?_setIfInBounds, if_neg (fun e => hq e.symm)]
      · show (w.heap.setIfInBounds loc.blk (.map es' c'))[loc.blk]? = some (.map es' c')
        rw [Array.getElem?_setIfInBounds, if_pos rfl, if_pos hlt]
theorem map_put (h : Rel P r base H w) {b : Nat} {loc : Loc} {es es' : Array MapEntry} {c c' : Nat} (e : r b = some loc) (hget : H.t.get b = some (.mp es c)) (hlb : lo ≤ b) :
    w.heap[loc.blk]? = some (.map es c) ∧ (setObj loc.blk (.map es' c')).run P w = .ok () { w with heap := w.heap.setIfInBounds loc.blk (.map es' c') } ∧ Post P lo base r H w r { H with t := H.t.set b (.mp es' c') } { w with heap := w.heap.setIfInBounds loc.blk (.map es' c') } := by
  have hob : w.heap[loc.blk]? = some (.map es c) := h.cont _ _ _ e hget
  have hlt : loc.blk < w.heap.size := by
    rcases Nat.lt_or_ge loc.blk w.heap.size with q | q
    · exact q
    · rw [Array.getElem?_eq_none q] at hob; cases hob
  refine ⟨hob, by simp [setObj, Sem.run, hob], ?_⟩
  refine Post.change h e ⟨_, hget, by simp, rfl⟩ hlb (by simp) (fun q hq => ?_) ⟨rfl, rfl, rfl⟩ ?_
  · show (w.heap.setIfInBounds loc.blk (.map es' c'))[q]? = _
    rw [Array.getElem?_setIfInBounds, if_neg (fun e => hq e.symm)]
  · show (w.heap.setIfInBounds loc.blk (.map es' c'))[loc.blk]? = some (.map es' c')
    rw [Array.getElem?_setIfInBounds, if_pos rfl, if_pos hlt]
theorem entryV_R (h : Rel P r base H w) {t : TypeId} {m k m' k' : Value} (km : VR r m m') (kk : VR r k k') {rs : Rs} {kd : Kd} (he : entryV P lo H t m k = some (rs, kd)) :
    ∃ v H' w', rs = .val v H' ∧ VR r v v ∧ (Instr.mapEntry t m' k').run P w = .ok v w' ∧ Post P lo base r H w r H' w' := by
  unfold entryV at he
  split at he <;> first | (cases he; done) | skip
  rename_i kt et b hu
  split at he <;> first | (cases he; done) | skip
  rename_i es c hget
  obtain ⟨hb, he⟩ := bif_some he
  simp only [Bool.and_eq_true] at hb
  split at he <;> first | (cases he; done) | skip
  rename_i v es' c' hp
  obtain ⟨hv, he⟩ := bif_some he
  cases he
  rw [flat_same hb.1 kk]
  cases km with
  | mapv e =>
    obtain ⟨hob, hrun, hpost⟩ := map_put (es' := es') (c' := c') h e hget (Nat.le_of_ble_eq_true hb.2)
    refine ⟨_, _, _, rfl, flatT_vr hv, ?_, hpost⟩
    rw [entry_run hu hob hp]
    simp only [Sem.run_bind, hrun, Result.andThen_ok, Sem.run_pure]
theorem entryStoreV_R (h : Rel P r base H w) {t : TypeId} {m s v m' s' v' : Value} (km : VR r m m') (ks : VR r s s') (kv : VR r v v') {rs : Rs} {kd : Kd} (he : entryStoreV P lo H m s v = some (rs, kd)) :
    ∃ H' w', rs = .skip H' ∧ (Instr.entryStore t m' s' v').run P w = .ok () w' ∧ Post P lo base r H w r H' w' := by
  unfold entryStoreV at he
  split at he <;> first | (cases he; done) | skip
  rename_i b
  split at he <;> first | (cases he; done) | skip
  rename_i es c hget
  obtain ⟨hb, he⟩ := bif_some he
  simp only [Bool.and_eq_true] at hb
  split at he <;> first | (cases he; done) | skip
  rename_i es' hp
  cases he
  rw [flat_same hb.1.1 ks, flat_same hb.1.2 kv]
  cases km with
  | mapv e =>
    obtain ⟨hob, hrun, hpost⟩ := map_put (es' := es') (c' := c) h e hget (Nat.le_of_ble_eq_true hb.2)
    exact ⟨_, _, rfl, by rw [entryStore_run hob hp]; exact hrun, hpost⟩
theorem heapOp_R (h : Rel P r base H w) (hlo : lo ≤ H.next) (hT : TmpR r A.n A.T tmps) {o : Oper} {rs : Rs} {k : Kd} (he : heapOp P lo A H o = some (rs, k)) : OpS P lo base r H w (execOp (evT tmps) o) rs := by
  have he0 := he
  unfold heapOp at he
  unfold execOp
  cases hop : o.op <;> simp only [hop] at he ⊢ <;> try (cases he; done)
  case alloc e =>
    cases hz : zeroOf P e with
    | none => simp [hz] at he
    | some z =>
      simp [hz] at he
      obtain ⟨rfl, rfl⟩ := he
      refine OpS.value ⟨_, _, _, ?_, ptr_new r H.next w none, Post.exact_ h hlo (C := z.cells) (e := e) (flat_LR (run_zero hz w).2)⟩
      simp only [Instr.alloc, Sem.run_bind, (run_zero hz w).1, Result.andThen_ok, newVar, run_newRow, Sem.run_pure]
  case box e x =>
    cases hx : ev A x with
    | none => simp [hx] at he
    | some v =>
      simp [hx] at he
      obtain ⟨rfl, rfl⟩ := he
      refine OpS.value ⟨_, _, _, ?_, ptr_new r H.next w none, Post.exact_ h hlo (C := (evT tmps x).cells) (e := e) (evR hT hx).cells⟩
      simp only [Instr.box, Sem.run_bind, newVar, run_newRow, Result.andThen_ok, Sem.run_pure]
  case buildSlice t len parts =>
    cases hse : sliceElem P t with
    | none => simp [hse] at he
    | some q =>
      obtain ⟨e, size⟩ := q
      obtain ⟨hu, hsz0, hcells, i, z, hi, hsz, hby, hz, hzs⟩ := sliceElem_spec hse
      cases hp : partsOf A parts.toList with
      | none => simp [hse, hp] at he
      | some ps =>
        simp only [hse, hp, hz] at he
        obtain ⟨hb, he⟩ := bif_some he
        have hb := Nat.le_of_ble_eq_true hb
        cases hf : fillL (fun k => some (k * size, size)) (zeros z.cells.toList len) ps with
        | none => simp [hf] at he
        | some cs =>
          simp [hf] at he
          obtain ⟨rfl, rfl⟩ := he
          obtain ⟨pl1, pl2⟩ := partsR hT hp
          have hlist : (parts.map fun (x : Nat × Operand) => (x.1, evT tmps x.2)).toList = parts.toList.map fun p => (p.1, evT tmps p.2) := by simp
          have hzr : ((Array.range (len * size)).map fun i => z.cells[i % z.cells.size]!) = (zeros z.cells.toList len).toArray := by
            have := zeros_range z.cells len
            rw [hzs] at this ⊢; exact this
          obtain ⟨C', e', k'⟩ := fill_R (r := r) _ ps _ _ (zeros z.cells.toList len).toArray _ (by simpa using zeros_LR (flat_LR (run_zero hz w).2) len) pl1 pl2 hf
          refine OpS.value ⟨_, _, _, ?_, slice_new r H.next w (Nat.le_refl len), Post.exact_ h hlo (C := C') (e := e) k'⟩
          have hbig : ¬ (len * size > 2 ^ 24) := by omega
          unfold Instr.buildSlice
          simp only [Sem.run_bind, run_underlying hu, Result.andThen_ok, run_size hi, hsz, hbig, if_false]
          by_cases hls : len * size = 0
          · have hlen0 : len = 0 := by
              rcases Nat.mul_eq_zero.1 hls with q | q
              · exact q
              · omega
            subst hlen0
            simp only [Nat.zero_mul, if_true, Sem.run_pure, Result.andThen_ok, hlist]
            have e2 : Instr.fill (fun k => some (k * size, size)) ((Array.range 0).map fun i => (#[] : Array Value)[i % (#[] : Array Value).size]!) (parts.toList.map fun p => (p.1, evT tmps p.2)) = some C' := by
              have : ((Array.range 0).map fun i => (#[] : Array Value)[i % (#[] : Array Value).size]!) = (zeros z.cells.toList 0).toArray := by simp [zeros]
              rw [this]; exact e'
            simp only [e2, run_newRow, Result.andThen_ok, Sem.run_pure, Sem.run_bind]
          · simp only [hls, if_false, Sem.run_bind, (run_zero hz w).1, Result.andThen_ok, Sem.run_pure, hlist, hzr, e', run_newRow]
  case load t a =>
    cases ha : ev A a with
    | none => simp [ha] at he
    | some av =>
      rw [ha] at he
      split at he <;> first | (cases he; done) | skip
      rename_i ad heq
      cases heq
      cases hl : loadV P H t ad with
      | none => simp [hl] at he
      | some v =>
        simp [hl] at he
        obtain ⟨rfl, rfl⟩ := he
        obtain ⟨loc, e1, e2, e3⟩ := ptr_R (evR hT ha)
        obtain ⟨ob, hget⟩ := load_get hl
        obtain ⟨v', q, hrun⟩ := load_R (w := w) hget hl e1 (h.cont _ _ _ e1 hget)
        refine OpS.value ⟨r, v', w, ?_, q, Post.refl h⟩
        rw [e3]
        simp only [Instr.loadAt, Instr.sureAddr, Sem.run_bind, Sem.run_pure, Result.andThen_ok, hrun]
  case store t a x =>
    cases ha : ev A a with
    | none => simp [ha] at he
    | some av =>
      cases hx : ev A x with
      | none => cases av <;> simp [ha, hx] at he
      | some xv =>
        rw [ha, hx] at he
        split at he <;> first | (cases he; done) | skip
        rename_i ad v heq heq2
        cases heq; cases heq2
        cases hl : storeV P lo H t ad xv with
        | none => simp [hl] at he
        | some H' =>
          simp [hl] at he
          obtain ⟨rfl, rfl⟩ := he
          obtain ⟨loc, e1, e2, e3⟩ := ptr_R (evR hT ha)
          obtain ⟨w', hrun, hp, _⟩ := store_R h e1 (evR hT hx) hl
          refine ⟨w', ?_, hp⟩
          rw [e3]
          simp only [Instr.storeAt, Instr.sureAddr, Sem.run_bind, Sem.run_pure, Result.andThen_ok, hrun]
  case makeSlice t l c =>
    cases hse : sliceElem P t with
    | none => simp [hse] at he
    | some q =>
      obtain ⟨e, size⟩ := q
      obtain ⟨hu, hsz0, hcells, i, z, hi, hsz, hby, hz, hzs⟩ := sliceElem_spec hse
      cases hl : ev A l with
      | none => simp [hse, hl] at he
      | some lv =>
        cases hcv : ev A c with
        | none => simp [hse, hl, hcv] at he
        | some cv =>
          rw [hse, hl, hcv] at he
          split at he <;> first | (cases he; done) | skip
          rename_i e' size' kl n km m heq1 heq2 heq3
          cases heq1; cases heq2; cases heq3
          simp only [hz, hi] at he
          obtain ⟨hb, he⟩ := bif_some he
          simp only [Bool.and_eq_true] at hb
          obtain ⟨⟨h1, h2⟩, h3⟩ := hb
          have h1 := Nat.le_of_ble_eq_true h1
          have h2 := Nat.le_of_ble_eq_true h2
          have h3 := Nat.le_of_ble_eq_true h3
          simp at he
          obtain ⟨rfl, rfl⟩ := he
          have el : evT tmps l = .int kl (n : Int) := int_same (evR hT hl)
          have ec : evT tmps c = .int km (m : Int) := int_same (evR hT hcv)
          have hzr : ((Array.range (m * size)).map fun i => z.cells[i % z.cells.size]!) = (zeros z.cells.toList m).toArray := by
            have := zeros_range z.cells m
            rw [hzs] at this ⊢; exact this
          refine OpS.value ⟨_, _, _, ?_, slice_new r H.next w h1, Post.exact_ h hlo (C := (zeros z.cells.toList m).toArray) (e := e) (by simpa using zeros_LR (flat_LR (run_zero hz w).2) m)⟩
          have hwn : IntKind.i64.wrap (n : Int) = n := by rw [IntKind.wrap_i64]; omega
          have hwm : IntKind.i64.wrap (m : Int) = m := by rw [IntKind.wrap_i64]; omega
          have hbm : ¬ ((i.bytes : Int) * (m : Int) > 2 ^ 48) := by
            have : ((i.bytes * m : Nat) : Int) ≤ 1099511627776 := by omega
            rw [Int.natCast_mul] at this; omega
          have hroom : ∀ (k : Nat) (w : World), (askRoom k).run P w = .ok () w := fun k w => by
            unfold askRoom; split <;> rfl
          have hcond : ((decide ((m : Int) < 0) || decide ((i.bytes : Int) * (m : Int) > 2 ^ 48)) || decide ((n : Int) < 0) || decide ((n : Int) > (m : Int))) = false := by
            simp only [hbm, decide_false, Bool.or_false, Bool.or_eq_false_iff, decide_eq_false_iff_not]
            omega
          unfold Instr.makeSlice
          simp only [Sem.run_bind, run_underlying hu, Result.andThen_ok, el, ec, asInt, asIntOf, Sem.run_pure, run_info hi, hwn, hwm]
          have hcond' : ¬ (((decide ((m : Int) < 0) || decide ((i.bytes : Int) * (m : Int) > 2 ^ 48)) = true ∨ (n : Int) < 0) ∨ (n : Int) > (m : Int)) := by
            simp only [hbm, decide_false, Bool.or_false, decide_eq_true_eq]; omega
          rw [if_neg (by simpa using hcond')]
          simp only [Sem.run_bind, hroom, Result.andThen_ok, run_size hi, hsz, Int.toNat_natCast]
          by_cases hm0 : m * size = 0
          · have hm00 : m = 0 := by
              rcases Nat.mul_eq_zero.1 hm0 with q | q
              · exact q
              · omega
            subst hm00
            have hn00 : n = 0 := by omega
            subst hn00
            simp only [Nat.zero_mul, if_true, Sem.run_bind, Sem.run_pure, Result.andThen_ok]
            have e2 : ((Array.range 0).map fun i => (#[] : Array Value)[i % (#[] : Array Value).size]!) = (zeros z.cells.toList 0).toArray := by simp [zeros]
            rw [e2]
            simp only [run_newRow, Result.andThen_ok, Sem.run_pure, Sem.run_bind]
          · simp only [hm0, if_false, Sem.run_bind, (run_zero hz w).1, Result.andThen_ok, Sem.run_pure, hzr, run_newRow]
  case slice t x lw hi mx =>
    cases rs with
    | val v H' =>
      obtain ⟨rfl, hk⟩ := slice_op (r := r) hT hop he0
      rcases hk with ⟨_, v', q, hrun⟩ | ⟨b, ob, _, hget, hk⟩
      · exact OpS.value ⟨r, v', w, hrun w, q, Post.refl h⟩
      · obtain ⟨v', q, hrun⟩ := hk (fun loc e => ⟨_, h.cont b loc ob e hget⟩)
        exact OpS.value ⟨r, v', w, hrun w, q, Post.refl h⟩
    | _ => exfalso; revert he; (repeat' split) <;> simp [bif_ite] <;> (repeat' split) <;> simp
  case call c =>
    cases hc : c.callee with
    | builtin b =>
      simp only [hc] at he
      cases hvs : evs A c.args.toList with
      | none => simp [hvs] at he
      | some vs =>
        simp only [hvs] at he
        have := builtin_R h hlo (ty := o.type) (consts := c.args.map fun | .const _ => true | _ => false) (evsR hT hvs) he
        rw [map_toArray] at this
        have e1 : ∀ w, (do let d ← resolve (evT tmps) c o.type; invoke d.target d.args : Sem Next).run P w = (builtin b c.argTypes o.type (c.args.map fun | .const _ => true | _ => false) (c.args.map (evT tmps))).run P w := fun w => by
          simp only [resolve, hc, Sem.run_bind, Sem.run_pure, Result.andThen_ok, invoke]; rfl
        unfold OpS at this ⊢
        cases rs <;> simp only [e1] <;> exact this
    | invoke x name =>
      simp only [hc] at he
      cases ht : targetOf A c with
      | none => simp [ht] at he
      | some q =>
        obtain ⟨t, vs⟩ := q
        simp [ht] at he
        obtain ⟨rfl, rfl⟩ := he
        obtain ⟨t', vs', hr, k1, k2⟩ := target_R (P := P) hT ht o.type
        exact ⟨t', vs', by simp only [Sem.run_bind, hr, Result.andThen_ok], k1, k2⟩
    | value f =>
      simp only [hc] at he
      cases ht : targetOf A c with
      | none => simp [ht] at he
      | some q =>
        obtain ⟨t, vs⟩ := q
        simp [ht] at he
        obtain ⟨rfl, rfl⟩ := he
        obtain ⟨t', vs', hr, k1, k2⟩ := target_R (P := P) hT ht o.type
        exact ⟨t', vs', by simp only [Sem.run_bind, hr, Result.andThen_ok], k1, k2⟩
  case defer c =>
    cases hc : c.callee with
    | builtin b => simp [hc] at he
    | invoke x name =>
      simp only [hc] at he
      cases ht : targetOf A c with
      | none => simp [ht] at he
      | some q =>
        obtain ⟨t, vs⟩ := q
        simp [ht] at he
        obtain ⟨rfl, rfl⟩ := he
        obtain ⟨t', vs', hr, k1, k2⟩ := target_R (P := P) hT ht o.type
        exact ⟨{ target := t', args := vs' }, by simp only [Sem.run_bind, hr, Result.andThen_ok, Sem.run_pure], k1, by simpa using k2⟩
    | value f =>
      simp only [hc] at he
      cases ht : targetOf A c with
      | none => simp [ht] at he
      | some q =>
        obtain ⟨t, vs⟩ := q
        simp [ht] at he
        obtain ⟨rfl, rfl⟩ := he
        obtain ⟨t', vs', hr, k1, k2⟩ := target_R (P := P) hT ht o.type
        exact ⟨{ target := t', args := vs' }, by simp only [Sem.run_bind, hr, Result.andThen_ok, Sem.run_pure], k1, by simpa using k2⟩
  case makeMap t r0 =>
    cases r0 with
    | some x => cases he
    | none =>
      cases he
      exact OpS.value ⟨_, .map (some w.heap.size), _, rfl, .mapv (Ren.add_same r H.next ⟨w.heap.size, 0, none⟩), Post.fresh h hlo rfl ⟨rfl, rfl, rfl⟩ rfl⟩
  case lookup t x ix ok =>
    split at he <;> first | (cases he; done) | skip
    · rename_i kt et b kv hu hx hix
      split at he <;> first | (cases he; done) | skip
      rename_i es c hget
      obtain ⟨hk, he⟩ := bif_some he
      split at he <;> first | (cases he; done) | skip
      rename_i v hp
      obtain ⟨hv, he⟩ := bif_some he
      cases he
      have kx := evR hT hx
      have kk := flat_same hk (evR hT hix)
      generalize evT tmps x = x' at kx
      cases kx with
      | mapv e =>
        have hob := h.cont _ _ _ e hget
        refine OpS.value ⟨r, v, w, ?_, flatT_vr hv, Post.refl h⟩
        rw [kk, lookup_run hu hob]; exact prun_run _ hp w
    · rename_i kt et kv hu hx hix
      obtain ⟨hk, he⟩ := bif_some he
      split at he <;> first | (cases he; done) | skip
      rename_i v hp
      obtain ⟨hv, he⟩ := bif_some he
      cases he
      have kx := evR hT hx
      have kk := flat_same hk (evR hT hix)
      generalize evT tmps x = x' at kx
      cases kx
      refine OpS.value ⟨r, v, w, ?_, flatT_vr hv, Post.refl h⟩
      rw [kk]; exact prun_run _ hp w
  case mapEntry t m k =>
    split at he <;> first | (cases he; done) | skip
    rename_i mv kv hm hk
    obtain ⟨v, H', w', rfl, hv, hrun, hpost⟩ := entryV_R h (evR hT hm) (evR hT hk) he
    exact OpS.value ⟨r, v, w', hrun, hv, hpost⟩
  case entryStore t m s x =>
    split at he <;> first | (cases he; done) | skip
    rename_i mv sv xv hm hs hx
    obtain ⟨H', w', rfl, hrun, hpost⟩ := entryStoreV_R (t := t) h (evR hT hm) (evR hT hs) (evR hT hx) he
    exact ⟨w', by simp only [Sem.run_bind, hrun, Result.andThen_ok, Sem.run_pure], hpost⟩
  case mapUpdate t m k x =>
    split at he <;> first | (cases he; done) | skip
    rename_i mv kv xv hm hk hx
    obtain ⟨H', w', rfl, hrun, hpost⟩ := updateV_R h (evR hT hm) (evR hT hk) (evR hT hx) he
    exact ⟨w', by simp only [Sem.run_bind, hrun, Result.andThen_ok, Sem.run_pure], hpost⟩
  case insert t m k x =>
    split at he <;> first | (cases he; done) | skip
    rename_i mv kv xv hm hk hx
    obtain ⟨H', w', rfl, hrun, hpost⟩ := updateV_R h (evR hT hm) (evR hT hk) (evR hT hx) he
    exact ⟨w', by simp only [Sem.run_bind, hrun, Result.andThen_ok, Sem.run_pure], hpost⟩
  case panic x =>
    cases hx : ev A x with
    | none => simp [hx] at he
    | some xv =>
      rw [hx] at he
      split at he <;> first | (cases he; done) | skip
      rename_i t v heq
      cases heq
      simp at he
      obtain ⟨rfl, rfl⟩ := he
      obtain ⟨u', e1, ku⟩ := iface_R (evR hT hx)
      rw [e1]
      exact ⟨.iface t u', by simp [Instr.panic, goPanic, Sem.run], .iface t ku⟩
end
end Go.Ax

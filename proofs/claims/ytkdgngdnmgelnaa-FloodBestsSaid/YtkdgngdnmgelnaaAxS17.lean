import Derived.Test.YtkdgngdnmgelnaaAxS16
set_option linter.all false
namespace Go.Ax
open Go Go.RowKit
/-! ### What an operation looks at -/
theorem mem_tmpsIn {t : Nat} : ∀ {l : List Operand}, Operand.tmp t ∈ l → t ∈ tmpsIn l
  | [], h => by cases h
  | x :: l, h => by
    cases h with
    | head => simp [tmpsIn]
    | tail _ h =>
      have := mem_tmpsIn h
      cases x <;> simp [tmpsIn, this]
noncomputable def cutT (T : Tr Value) : List Nat → Tr Value
  | [] => .nil
  | t :: l => match T.get t with
    | some v => (cutT T l).set t v
    | none => cutT T l
theorem cutT_get (T : Tr Value) (t : Nat) : ∀ l : List Nat, (cutT T l).get t = if t ∈ l then T.get t else none
  | [] => by simp [cutT, Tr.get_nil]
  | x :: l => by
    unfold cutT
    cases h : T.get x with
    | none =>
      simp only
      rw [cutT_get T t l]
      by_cases hx : t = x
      · subst hx; simp [h]
      · simp [hx]
    | some v =>
      simp only
      rw [Tr.get_set, cutT_get T t l]
      by_cases hx : t = x
      · subst hx; simp [h]
      · simp [hx]
noncomputable def Fr.cut (A : Fr) (l : List Nat) : Fr := { A with T := cutT A.T l }
section
variable {P : Program} {lo : Nat} {A B : Fr} {H : Hp}
theorem ev_cut {l : List Nat} {x : Operand} (h : ∀ t, x = .tmp t → t ∈ l) : ev (A.cut l) x = ev A x := by
  cases x with
  | tmp t => simp only [ev, Fr.cut, cutT_get, if_pos (h t rfl)]
  | _ => rfl
theorem evs_congr : ∀ {xs : List Operand}, (∀ x ∈ xs, ev A x = ev B x) → evs A xs = evs B xs
  | [], _ => rfl
  | x :: xs, h => by simp only [evs]; rw [h x (by simp), evs_congr fun y hy => h y (by simp [hy])]
theorem parts_congr : ∀ {xs : List (Nat × Operand)}, (∀ x ∈ xs, ev A x.2 = ev B x.2) → partsOf A xs = partsOf B xs
  | [], _ => rfl
  | (i, x) :: xs, h => by simp only [partsOf]; rw [h (i, x) (by simp), parts_congr fun y hy => h y (by simp [hy])]
theorem evO_congr {x : Option Operand} (h : ∀ y ∈ x.toList, ev A y = ev B y) : evO A x = evO B x := by
  cases x with
  | none => rfl
  | some x => simp only [evO]; rw [h x (by simp)]
theorem bound_congr {d : Nat} {x : Option Operand} (h : ∀ y ∈ x.toList, ev A y = ev B y) : boundOf A d x = boundOf B d x := by
  cases x with
  | none => rfl
  | some x => simp only [boundOf]; rw [h x (by simp)]
theorem target_congr {c : Call} (h : ∀ x ∈ c.operands, ev A x = ev B x) : targetOf A c = targetOf B c := by
  have ha : evs A c.args.toList = evs B c.args.toList := evs_congr fun x hx => h x (by simp [Call.operands]; exact .inr (by simpa using hx))
  unfold targetOf
  rw [ha]
  cases hc : c.callee with
  | builtin b => rfl
  | invoke r n => simp only [h r (by simp [Call.operands, hc])]
  | value f => simp only [h f (by simp [Call.operands, hc])]
theorem pureOp_congr {o : Oper} (h : ∀ x ∈ o.op.operands, ev A x = ev B x) : pureOp P A o = pureOp P B o := by
  unfold pureOp
  cases hop : o.op <;> simp only [hop, Op.operands] at h ⊢
  case move x => exact h x (by simp)
  case assign x => exact h x (by simp)
  case pick c a b => rw [h c (by simp), h a (by simp), h b (by simp)]
  case build t ps => rw [parts_congr (A := A) (B := B) fun x hx => h x.2 (by simp; exact ⟨x.1, by simpa using hx⟩)]
  case nilCheck x => rw [h x (by simp)]
  case binOp op t x y _ => rw [h x (by simp), h y (by simp)]
  case unOp op t x => rw [h x (by simp)]
  case convert s d x => rw [h x (by simp)]
  case makeInterface t x => rw [h x (by simp)]
  case makeFunc fn a b =>
    rw [evs_congr (A := A) (B := B) (xs := a.toList) fun x hx => h x (by simp; exact .inl (by simpa using hx)), evs_congr (A := A) (B := B) (xs := b.toList) fun x hx => h x (by simp; exact .inr (by simpa using hx))]
  case fieldAddr s x f => rw [h x (by simp)]
  case field t x f => rw [h x (by simp)]
  case indexAddr t x i => rw [h x (by simp), h i (by simp)]
  case index t x i => rw [h x (by simp), h i (by simp)]
  case extract x i => rw [h x (by simp)]
  case typeAssert x _ _ _ => rw [h x (by simp)]
  case slice t x lw hi mx =>
    rw [h x (by simp), evO_congr (A := A) (B := B) (x := lw) fun y hy => h y (by cases lw <;> simp_all), evO_congr (A := A) (B := B) (x := hi) fun y hy => h y (by cases hi <;> simp_all)]
  case call c =>
    cases hc : c.callee with
    | builtin b => simp only [hc]; rw [evs_congr (A := A) (B := B) (xs := c.args.toList) fun x hx => h x (by simp [Call.operands, hc]; simpa using hx)]
    | _ => rfl
theorem heapOp_congr {o : Oper} (h : ∀ x ∈ o.op.operands, ev A x = ev B x) : heapOp P lo A H o = heapOp P lo B H o := by
  unfold heapOp
  cases hop : o.op <;> simp only [hop, Op.operands] at h ⊢
  case box e x => rw [h x (by simp)]
  case buildSlice t len ps => rw [parts_congr (A := A) (B := B) fun x hx => h x.2 (by simp; exact ⟨x.1, by simpa using hx⟩)]
  case load t a => rw [h a (by simp)]
  case store t a x => rw [h a (by simp), h x (by simp)]
  case makeSlice t l c => rw [h l (by simp), h c (by simp)]
  case lookup t x ix ok => rw [h x (by simp), h ix (by simp)]
  case mapEntry t m k => rw [h m (by simp), h k (by simp)]
  case entryStore t m s x => rw [h m (by simp), h s (by simp), h x (by simp)]
  case mapUpdate t m k x => rw [h m (by simp), h k (by simp), h x (by simp)]
  case insert t m k x => rw [h m (by simp), h k (by simp), h x (by simp)]
  case slice t x lw hi mx =>
    have hb1 : ∀ d, boundOf A d lw = boundOf B d lw := fun d => bound_congr fun y hy => h y (by cases lw <;> simp_all)
    have hb2 : ∀ d, boundOf A d hi = boundOf B d hi := fun d => bound_congr fun y hy => h y (by cases hi <;> simp_all)
    rw [h x (by simp)]
    simp only [hb1, hb2]
  case call c =>
    cases hc : c.callee with
    | builtin b => simp only [hc]; rw [evs_congr (A := A) (B := B) (xs := c.args.toList) fun x hx => h x (by simp [Call.operands, hc]; simpa using hx)]
    | _ => simp only [hc]; rw [target_congr (A := A) (B := B) h]
  case defer c =>
    cases hc : c.callee with
    | builtin b => rfl
    | _ => simp only [hc]; rw [target_congr (A := A) (B := B) h]
  case panic x => rw [h x (by simp)]
theorem ops_cut {ops : Array Oper} {o : Oper} {l : List Nat} (hl : ∀ t ∈ readsOf ops o, t ∈ l) : ∀ x ∈ o.op.operands, ev (A.cut l) x = ev A x := fun x hx => ev_cut fun t ht => by
  subst ht
  refine hl t ?_
  have := mem_tmpsIn (l := o.op.operands.toList) (t := t) (by simpa using hx)
  unfold readsOf
  (repeat' split) <;> simp [this]
theorem aOp_cut {ops : Array Oper} {o : Oper} : aOp P lo (A.cut (readsOf ops o)) H o = aOp P lo A H o := by
  unfold aOp
  rw [pureOp_congr (ops_cut fun _ h => h), heapOp_congr (ops_cut fun _ h => h)]
theorem wantedA_cut {ops : Array Oper} {o : Oper} : wantedA ops (A.cut (readsOf ops o)) o = wantedA ops A o := by
  unfold wantedA
  cases hg : o.guard with
  | none => rfl
  | some q =>
    obtain ⟨j, want⟩ := q
    simp only
    cases ho : ops[j]? with
    | none => rfl
    | some g =>
      simp only
      cases hd : g.dst with
      | none => rfl
      | some d =>
        simp only
        have : (A.cut (readsOf ops o)).T.get d = A.T.get d := by
          simp only [Fr.cut, cutT_get]
          rw [if_pos]
          unfold readsOf
          simp [hg, ho, hd]
        rw [this]
end
section
variable {P : Program} {lo : Nat} {A : Fr} {H : Hp}
theorem mk_R {o : Oper} {v : Value} {H' : Hp} (he : heapOp P lo A H o = some (.val v H', .heavy)) (hm : mkOp o = true) :
    (∀ c, o.op ≠ .defer c) ∧ ∃ cs e, H' = H.new (.cells cs e false) ∧ ∀ (r : Ren) (w : World) (tmps : Array Value), TmpR r A.n A.T tmps →
      ∃ v' C, (execOp (evT tmps) o).run P w = .ok (.value v') (w.alloc (.cells C e)) ∧ LR r cs C.toList ∧ ∀ r2 : Ren, r2 H.next = some ⟨w.heap.size, 0, none⟩ → VR r2 v v' := by
  refine ⟨fun c hc => (by unfold mkOp at hm; rw [hc] at hm; cases hm), ?_⟩
  have ptrV : ∀ (n : Nat) (w : World) (r2 : Ren), r2 n = some ⟨w.heap.size, 0, none⟩ → VR r2 (ptr n) (.pointer (some ⟨w.heap.size, 0, none⟩)) := fun n w r2 e => by
    have := VR.ptr (r := r2) (o := 0) e
    simpa [ptr] using this
  have slV : ∀ (n : Nat) (w : World) (r2 : Ren) (a b : Nat), a ≤ b → r2 n = some ⟨w.heap.size, 0, none⟩ → VR r2 (.slice (some ⟨n, 0, none⟩) a b) (.slice (some ⟨w.heap.size, 0, none⟩) a b) := fun n w r2 a b h e => by
    have := VR.slice (r := r2) (o := 0) e rfl h
    simpa using this
  have val : ∀ {s : Sem Value} {u : Value} {w w' : World}, s.run P w = .ok u w' → (do pure (.value (← s)) : Sem Next).run P w = .ok (.value u) w' := fun h1 => by simp only [Sem.run_bind, h1, Result.andThen_ok, Sem.run_pure]
  unfold heapOp at he
  unfold mkOp at hm
  unfold execOp
  cases hop : o.op <;> simp only [hop] at he hm ⊢ <;> try (cases hm; done)
  case alloc e =>
    cases hz : zeroOf P e with
    | none => simp [hz] at he
    | some z =>
      simp [hz] at he
      obtain ⟨rfl, rfl⟩ := he
      refine ⟨_, e, rfl, fun r w tmps hT => ⟨_, z.cells, val ?_, flat_LR (run_zero hz w).2, fun r2 h2 => ptrV _ _ _ h2⟩⟩
      simp only [Instr.alloc, Sem.run_bind, (run_zero hz w).1, Result.andThen_ok, newVar, run_newRow, Sem.run_pure]
  case box e x =>
    cases hx : ev A x with
    | none => simp [hx] at he
    | some v =>
      simp [hx] at he
      obtain ⟨rfl, rfl⟩ := he
      refine ⟨_, e, rfl, fun r w tmps hT => ⟨_, (evT tmps x).cells, val ?_, (evR hT hx).cells, fun r2 h2 => ptrV _ _ _ h2⟩⟩
      simp only [Instr.box, Sem.run_bind, newVar, run_newRow, Result.andThen_ok, Sem.run_pure]
  case buildSlice t len parts =>
    cases hse : sliceElem P t with
    | none => simp [hse] at he
    | some q =>
      obtain ⟨e, size⟩ := q
      obtain ⟨hu, hsz0, hcells, i, z, hi, hsz, hby, hz, hzs⟩ := sliceElem_spec hse
      cases hp : partsOf A parts.toList with
      | none => simp [hse, hp] at he
      | some ps =>
        simp only [hse, hp, hz] at he
        obtain ⟨hb, he⟩ := bif_some he
        have hb := Nat.le_of_ble_eq_true hb
        cases hf : fillL (fun k => some (k * size, size)) (zeros z.cells.toList len) ps with
        | none => simp [hf] at he
        | some cs =>
          simp [hf] at he
          obtain ⟨rfl, rfl⟩ := he
          refine ⟨_, e, rfl, fun r w tmps hT => ?_⟩
          obtain ⟨pl1, pl2⟩ := partsR hT hp
          have hlist : (parts.map fun (x : Nat × Operand) => (x.1, evT tmps x.2)).toList = parts.toList.map fun p => (p.1, evT tmps p.2) := by simp
          have hzr : ((Array.range (len * size)).map fun i => z.cells[i % z.cells.size]!) = (zeros z.cells.toList len).toArray := by
            have := zeros_range z.cells len
            rw [hzs] at this ⊢; exact this
          obtain ⟨C', e', k'⟩ := fill_R (r := r) _ ps _ _ (zeros z.cells.toList len).toArray _ (by simpa using zeros_LR (flat_LR (run_zero hz w).2) len) pl1 pl2 hf
          refine ⟨_, C', val ?_, k', fun r2 h2 => slV _ _ _ _ _ (Nat.le_refl len) h2⟩
          have hbig : ¬ (len * size > 2 ^ 24) := by omega
          unfold Instr.buildSlice
          simp only [Sem.run_bind, run_underlying hu, Result.andThen_ok, run_size hi, hsz, hbig, if_false]
          by_cases hls : len * size = 0
          · have hlen0 : len = 0 := by
              rcases Nat.mul_eq_zero.1 hls with q | q
              · exact q
              · omega
            subst hlen0
            simp only [Nat.zero_mul, if_true, Sem.run_pure, Result.andThen_ok, hlist]
            have e2 : Instr.fill (fun k => some (k * size, size)) ((Array.range 0).map fun i => (#[] : Array Value)[i % (#[] : Array Value).size]!) (parts.toList.map fun p => (p.1, evT tmps p.2)) = some C' := by
              have : ((Array.range 0).map fun i => (#[] : Array Value)[i % (#[] : Array Value).size]!) = (zeros z.cells.toList 0).toArray := by simp [zeros]
              rw [this]; exact e'
            simp only [e2, run_newRow, Result.andThen_ok, Sem.run_pure, Sem.run_bind]
          · simp only [hls, if_false, Sem.run_bind, (run_zero hz w).1, Result.andThen_ok, Sem.run_pure, hlist, hzr, e', run_newRow]
  case makeSlice t l c =>
    cases hse : sliceElem P t with
    | none => simp [hse] at he
    | some q =>
      obtain ⟨e, size⟩ := q
      obtain ⟨hu, hsz0, hcells, i, z, hi, hsz, hby, hz, hzs⟩ := sliceElem_spec hse
      cases hl : ev A l with
      | none => simp [hse, hl] at he
      | some lv =>
        cases hcv : ev A c with
        | none => simp [hse, hl, hcv] at he
        | some cv =>
          rw [hse, hl, hcv] at he
          split at he <;> first | (cases he; done) | skip
          rename_i e' size' kl n km m heq1 heq2 heq3
          cases heq1; cases heq2; cases heq3
          simp only [hz, hi] at he
          obtain ⟨hb, he⟩ := bif_some he
          simp only [Bool.and_eq_true] at hb
          obtain ⟨⟨h1, h2⟩, h3⟩ := hb
          have h1 := Nat.le_of_ble_eq_true h1
          have h2 := Nat.le_of_ble_eq_true h2
          have h3 := Nat.le_of_ble_eq_true h3
          simp at he
          obtain ⟨rfl, rfl⟩ := he
          refine ⟨_, e, rfl, fun r w tmps hT => ?_⟩
          have el : evT tmps l = .int kl (n : Int) := int_same (evR hT hl)
          have ec : evT tmps c = .int km (m : Int) := int_same (evR hT hcv)
          have hzr : ((Array.range (m * size)).map fun i => z.cells[i % z.cells.size]!) = (zeros z.cells.toList m).toArray := by
            have := zeros_range z.cells m
            rw [hzs] at this ⊢; exact this
          refine ⟨_, (zeros z.cells.toList m).toArray, val ?_, by simpa using zeros_LR (flat_LR (run_zero hz w).2) m, fun r2 h2 => slV _ _ _ _ _ h1 h2⟩
          have hwn : IntKind.i64.wrap (n : Int) = n := by rw [IntKind.wrap_i64]; omega
          have hwm : IntKind.i64.wrap (m : Int) = m := by rw [IntKind.wrap_i64]; omega
          have hbm : ¬ ((i.bytes : Int) * (m : Int) > 2 ^ 48) := by
            have : ((i.bytes * m : Nat) : Int) ≤ 1099511627776 := by omega
            rw [Int.natCast_mul] at this; omega
          have hroom : ∀ (k : Nat) (w : World), (askRoom k).run P w = .ok () w := fun k w => by
            unfold askRoom; split <;> rfl
          have hcond : ((decide ((m : Int) < 0) || decide ((i.bytes : Int) * (m : Int) > 2 ^ 48)) || decide ((n : Int) < 0) || decide ((n : Int) > (m : Int))) = false := by
            simp only [hbm, decide_false, Bool.or_false, Bool.or_eq_false_iff, decide_eq_false_iff_not]
            omega
          unfold Instr.makeSlice
          simp only [Sem.run_bind, run_underlying hu, Result.andThen_ok, el, ec, asInt, asIntOf, Sem.run_pure, run_info hi, hwn, hwm]
          have hcond' : ¬ (((decide ((m : Int) < 0) || decide ((i.bytes : Int) * (m : Int) > 2 ^ 48)) = true ∨ (n : Int) < 0) ∨ (n : Int) > (m : Int)) := by
            simp only [hbm, decide_false, Bool.or_false, decide_eq_true_eq]; omega
          rw [if_neg (by simpa using hcond')]
          simp only [Sem.run_bind, hroom, Result.andThen_ok, run_size hi, hsz, Int.toNat_natCast]
          by_cases hm0 : m * size = 0
          · have hm00 : m = 0 := by
              rcases Nat.mul_eq_zero.1 hm0 with q | q
              · exact q
              · omega
            subst hm00
            have hn00 : n = 0 := by omega
            subst hn00
            simp only [Nat.zero_mul, if_true, Sem.run_bind, Sem.run_pure, Result.andThen_ok]
            have e2 : ((Array.range 0).map fun i => (#[] : Array Value)[i % (#[] : Array Value).size]!) = (zeros z.cells.toList 0).toArray := by simp [zeros]
            rw [e2]
            simp only [run_newRow, Result.andThen_ok, Sem.run_pure, Sem.run_bind]
          · simp only [hm0, if_false, Sem.run_bind, (run_zero hz w).1, Result.andThen_ok, Sem.run_pure, hzr, run_newRow]
theorem mk_pure {o : Oper} (hm : mkOp o = true) : pureOp P A o = none := by
  unfold mkOp at hm
  unfold pureOp
  cases hop : o.op <;> simp only [hop] at hm ⊢ <;> cases hm
end
section
variable {P : Program} {lo : Nat} {A : Fr} {H : Hp}
theorem appendV_nomk {lo : Nat} {e : TypeId} {size n : Nat} {s : Value} {news : List Value} {rs : Rs} {b : Nat} (h : appendV lo H e size s n news = some (rs, .mk b)) : False := by
  unfold appendV at h
  split at h
  · obtain ⟨_, h⟩ := bif_some h
    cases hn : Nat.beq n 0 <;> rw [hn] at h <;> simp only [cond_true, cond_false] at h <;> cases h
  · rename_i a len cap
    obtain ⟨_, h⟩ := bif_some h
    cases hn : Nat.beq n 0 <;> rw [hn] at h <;> simp only [cond_true, cond_false] at h
    · split at h <;> first | (cases h; done) | skip
      · cases hc : Nat.ble (len + n) cap <;> rw [hc] at h <;> simp only [cond_true, cond_false] at h
        · split at h <;> first | (cases h; done) | skip
        · obtain ⟨_, h⟩ := bif_some h
          cases h
      · rename_i cs e' _ hget
        obtain ⟨_, h⟩ := bif_some h
        cases hc : Nat.ble (a.off + (len + n) * size) cs.length <;> rw [hc] at h <;> simp only [cond_true, cond_false] at h
        · obtain ⟨_, h⟩ := bif_some h
          cases h
        · cases h
    · cases h
  · cases h
theorem builtinV_nomk {b : Builtin} {ts : Array TypeId} {vs : List Value} {rs : Rs} {x : Nat} (h : builtinV P lo H b ts vs = some (rs, .mk x)) : False := by
  unfold builtinV at h
  split at h
  · (repeat' split at h) <;> first | (cases h; done) | skip
    · exact appendV_nomk h
    · obtain ⟨_, h⟩ := bif_some h
      exact appendV_nomk h
  · split at h <;> first | (cases h; done) | skip
    split at h <;> first | (cases h; done) | skip
    simp only at h
    split at h <;> first | (cases h; done) | skip
    split at h <;> first | (cases h; done) | skip
    obtain ⟨_, h⟩ := bif_some h
    cases h
  · (repeat' split at h) <;> cases h
  · cases h
  · cases h
  · cases h
theorem heapOp_nomk {o : Oper} {rs : Rs} {x : Nat} (h : heapOp P lo A H o = some (rs, .mk x)) : False := by
  unfold heapOp at h
  cases hop : o.op <;> simp only [hop] at h <;> try (cases h; done)
  case call c =>
    (repeat' split at h) <;> first | (cases h; done) | exact builtinV_nomk h
  case mapEntry t m k =>
    split at h <;> first | (cases h; done) | skip
    obtain ⟨_, _, _, _, e2, _⟩ := entryV_chg h
    cases e2
  case entryStore t m s x =>
    split at h <;> first | (cases h; done) | skip
    obtain ⟨_, _, _, e2, _⟩ := entryStoreV_chg h
    cases e2
  case mapUpdate t m k x =>
    split at h <;> first | (cases h; done) | skip
    obtain ⟨_, _, _, e, _⟩ := updateV_chg h
    cases e
  case insert t m k x =>
    split at h <;> first | (cases h; done) | skip
    obtain ⟨_, _, _, e, _⟩ := updateV_chg h
    cases e
  case lookup t x ix ok =>
    split at h <;> first | (cases h; done) | skip
    · split at h <;> first | (cases h; done) | skip
      obtain ⟨_, h⟩ := bif_some h
      split at h <;> first | (cases h; done) | skip
      obtain ⟨_, h⟩ := bif_some h
      cases h
    · obtain ⟨_, h⟩ := bif_some h
      split at h <;> first | (cases h; done) | skip
      obtain ⟨_, h⟩ := bif_some h
      cases h
  all_goals
    (repeat' split at h) <;> first | (cases h; done) | (obtain ⟨_, h⟩ := bif_some h; (repeat' split at h) <;> cases h)
end
end Go.Ax

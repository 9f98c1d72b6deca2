import Derived.Test.YtkdgngdnmgelnaaAxS4
set_option linter.all false
namespace Go.Ax
open Go Go.RowKit
section
variable {P : Program} {r : Ren} {A : Fr} {tmps : Array Value}
theorem bif_ite {α : Type} {b : Bool} {x y : α} : (bif b then x else y) = if b = true then x else y := by cases b <;> rfl
theorem ptr_R {a : Addr} {v' : Value} (h : VR r (.pointer (some a)) v') : ∃ (loc : Loc) , r a.block = some loc ∧ a.spot = none ∧ v' = .pointer (some ⟨loc.blk, a.off + loc.delta, none⟩) := by
  cases h with
  | ptr e => exact ⟨_, e, rfl, rfl⟩
theorem ptr_add {a : Addr} {loc : Loc} (hr : r a.block = some loc) (hs : a.spot = none) (n : Nat) :
    VR r (.pointer (some (a.add n))) (.pointer (some ((⟨loc.blk, a.off + loc.delta, none⟩ : Addr).add n))) := by
  obtain ⟨b, o, s⟩ := a
  simp only at hr hs
  subst hs
  unfold Addr.add
  by_cases hn : n = 0
  · simp only [hn, if_true]; exact .ptr hr
  · simp only [hn, if_false]
    have : o + loc.delta + n = (o + n) + loc.delta := by omega
    rw [this]
    exact .ptr hr
theorem slice_R {a : Addr} {n c : Nat} {v' : Value} (h : VR r (.slice (some a) n c) v') (hsp : a.spot = none ∨ n ≠ 0) : ∃ (loc : Loc) (c' : Nat), r a.block = some loc ∧ a.spot = none ∧ v' = .slice (some ⟨loc.blk, a.off + loc.delta, none⟩) n c' ∧
    ((loc.loose = none ∧ c' = c ∧ n ≤ c) ∨ ∃ total sz, loc.loose = some (total, sz) ∧ n ≤ c' ∧ a.off + loc.delta + c' * sz = total) := by
  cases h with
  | slice e l q => exact ⟨_, _, e, rfl, rfl, .inl ⟨l, rfl, q⟩⟩
  | loose e l a b => exact ⟨_, _, e, rfl, rfl, .inr ⟨_, _, l, a, b⟩⟩
  | weird => rcases hsp with q | q
             · cases q
             · exact absurd rfl q
theorem bool_same {b : Bool} {u : Value} (h : VR r (.bool b) u) : u = .bool b := by cases h; rfl
theorem int_same {k : IntKind} {n : Int} {u : Value} (h : VR r (.int k n) u) : u = .int k n := by cases h; rfl
theorem iface_R {t : TypeId} {v u : Value} (h : VR r (.iface t v) u) : ∃ u', u = .iface t u' ∧ VR r v u' := by cases h; exact ⟨_, rfl, by assumption⟩
theorem map_toArray (a : Array Operand) (f : Operand → Value) : (a.toList.map f).toArray = a.map f := by apply Array.toList_inj.1; simp
set_option maxHeartbeats 1000000 in
theorem pureOp_R (hT : TmpR r A.n A.T tmps) {o : Oper} {v : Value} (h : pureOp P A o = some v) : ∃ v', VR r v v' ∧ Yields P (execOp (evT tmps) o) v' := by
  unfold pureOp at h
  unfold Yields execOp
  cases hop : o.op <;> simp only [hop] at h ⊢ <;> try (cases h; done)
  case move x => exact ⟨_, evR hT h, fun w => rfl⟩
  case assign x => exact ⟨_, evR hT h, fun w => rfl⟩
  case pick c a b =>
    cases hc : ev A c with
    | none => simp [hc] at h
    | some cv =>
      cases cv <;> simp only [hc] at h <;> try (cases h; done)
      rename_i t
      cases ha : ev A a with
      | none => simp [ha] at h
      | some av =>
        cases hb : ev A b with
        | none => simp [ha, hb] at h
        | some bv =>
          simp only [ha, hb] at h
          have h1 := evR hT hc
          have h2 := evR hT ha
          have h3 := evR hT hb
          have e1 : evT tmps c = .bool t := bool_same h1
          refine ⟨if t then evT tmps a else evT tmps b, ?_, fun w => ?_⟩
          · cases t <;> simp at h <;> subst h <;> simp [h2, h3]
          · rw [e1]; cases t <;> simp [asBool]
  case build t parts =>
    cases hz : zeroOf P t with
    | none => simp [hz] at h
    | some z =>
      cases hp : partsOf A parts.toList with
      | none => simp [hz, hp] at h
      | some ps =>
        simp only [hz, hp] at h
        obtain ⟨v', k, hr⟩ := build_R hT hz hp h
        refine ⟨v', k, fun w => ?_⟩
        simp only [Sem.run_bind]
        erw [hr w]
        rfl
  case nilCheck x =>
    cases hx : ev A x with
    | none => simp [hx] at h
    | some xv =>
      have k := evR hT hx
      simp only [hx] at h
      split at h <;> first | (cases h; done) | skip
      · rename_i a heq; cases heq; cases h
        obtain ⟨loc, h1, h2, h3⟩ := ptr_R k
        refine ⟨_, k, fun w => ?_⟩
        rw [h3]; rfl
      · rename_i t u heq; cases heq; cases h
        refine ⟨_, k, fun w => ?_⟩
        obtain ⟨u', e, _⟩ := iface_R k; rw [e]; rfl
      · rename_i f B C heq; cases heq; cases h
        refine ⟨_, k, fun w => ?_⟩
        generalize evT tmps x = u at k
        cases k with
        | func f _ _ _ _ => cases f; rfl
      · rename_i f B C heq; cases heq; cases h
        refine ⟨_, k, fun w => ?_⟩
        generalize evT tmps x = u at k
        cases k with
        | func f _ _ _ _ => cases f; rfl
  case binOp op t x y yt =>
    cases hx : ev A x with
    | none => simp [hx] at h
    | some a =>
      cases hy : ev A y with
      | none => simp [hx, hy] at h
      | some b =>
        simp only [hx, hy] at h
        have k1 := evR hT hx
        have k2 := evR hT hy
        cases hf : (flat a && flat b) with
        | true =>
          rw [hf] at h
          simp only [cond_true] at h
          simp only [Bool.and_eq_true] at hf
          cases hp : prun P (do eqGuard op t x y a b; binOp op t a b) with
          | none => rw [hp] at h; cases h
          | some u =>
            rw [hp] at h
            obtain ⟨hu, h⟩ := bif_some h
            cases h
            refine ⟨v, flat_vr hu, fun w => ?_⟩
            rw [flat_same hf.1 k1, flat_same hf.2 k2]
            have := prun_run _ hp w
            simp only [Sem.run_bind] at this ⊢
            rw [this]; rfl
        | false =>
          rw [hf] at h
          simp only [cond_false] at h
          obtain ⟨hd, h⟩ := bif_some h
          cases op <;> simp only at h <;> try (cases h; done)
          all_goals
            cases h
            refine ⟨_, .bool _, fun w => ?_⟩
            have := differ_R hd k1 k2 x y w
            simp only [Sem.run_bind] at this ⊢
            first
              | (rw [this.1]; rfl)
              | (rw [this.2]; rfl)
  case unOp op t x =>
    cases hx : ev A x with
    | none => simp [hx] at h
    | some a =>
      simp only [hx] at h
      have k1 := evR hT hx
      obtain ⟨hf, h⟩ := bif_some h
      cases hp : prun P (Op.unary op a) with
      | none => rw [hp] at h; cases h
      | some u =>
        rw [hp] at h
        obtain ⟨hu, h⟩ := bif_some h
        cases h
        refine ⟨v, flat_vr hu, fun w => ?_⟩
        rw [flat_same hf k1]
        simp only [Sem.run_bind, prun_run _ hp w]; rfl
  case convert s d x =>
    cases hx : ev A x with
    | none => simp [hx] at h
    | some a =>
      simp only [hx] at h
      have k1 := evR hT hx
      obtain ⟨hf, h⟩ := bif_some h
      cases hp : prun P (convert s d a) with
      | none => rw [hp] at h; cases h
      | some u =>
        rw [hp] at h
        obtain ⟨hu, h⟩ := bif_some h
        cases h
        refine ⟨v, flat_vr hu, fun w => ?_⟩
        rw [flat_same hf k1]
        simp only [Sem.run_bind, prun_run _ hp w]; rfl
  case makeInterface t x =>
    cases hx : ev A x with
    | none => simp [hx] at h
    | some a =>
      cases hu : P.underlying t with
      | none => simp [hx, hu] at h
      | some d =>
        have k1 := evR hT hx
        refine ⟨.iface t (evT tmps x), ?_, fun w => ?_⟩
        · cases d <;> simp [hx, hu] at h <;> subst h <;> exact .iface t k1
        · cases d <;> simp [hx, hu] at h <;> simp [Instr.makeInterface, run_underlying hu]
  case makeFunc fn first cap =>
    cases h1 : evs A first.toList with
    | none => cases fn <;> simp [h1] at h
    | some a =>
      cases h2 : evs A cap.toList with
      | none => cases fn <;> simp [h1, h2] at h
      | some b =>
        have k1 := evsR hT h1
        have k2 := evsR hT h2
        have e1 : (first.toList.map (evT tmps)).toArray = first.map (evT tmps) := map_toArray _ _
        have e2 : (cap.toList.map (evT tmps)).toArray = cap.map (evT tmps) := map_toArray _ _
        cases fn <;> simp only [h1, h2] at h <;> try (cases h; done)
        · cases h
          exact ⟨_, VR.funcL (.func _) k1 k2, fun w => by rw [e1, e2]; rfl⟩
        · cases h
          exact ⟨_, VR.funcL (.method _) k1 k2, fun w => by rw [e1, e2]; rfl⟩
        · cases h
          exact ⟨_, VR.funcL (.methodOf _ _) k1 k2, fun w => by rw [e1, e2]; rfl⟩
  case fieldAddr s x f =>
    cases hu : P.underlying s with
    | none => simp [hu] at h
    | some d =>
      cases d <;> simp only [hu] at h <;> try (cases h; done)
      rename_i fs
      cases hx : ev A x with
      | none => simp [hx] at h
      | some xv =>
        have k := evR hT hx
        simp only [hx] at h
        split at h <;> first | (cases h; done) | skip
        rename_i fs' a e1 e2
        cases e1; cases e2
        cases hf : fs[f]? with
        | none => simp [hf] at h
        | some fd =>
          simp only [hf] at h
          cases hi : P.info? fd.type with
          | none => simp [hi] at h
          | some i =>
            simp only [hi, beq_eq] at h
            by_cases hz : i.size = 0
            · simp [hz] at h
            · simp [hz] at h
              subst h
              obtain ⟨loc, h1, h2, h3⟩ := ptr_R k
              refine ⟨_, ptr_add h1 h2 fd.offset, fun w => ?_⟩
              simp [Instr.fieldAt, run_underlying hu, hf, h3, Instr.sureAddr, fieldPlace, run_size hi, hz]
  case field t x f =>
    cases hu : P.underlying t with
    | none => simp [hu] at h
    | some d =>
      cases d <;> simp only [hu] at h <;> try (cases h; done)
      rename_i fs
      cases hx : ev A x with
      | none => simp [hx] at h
      | some xv =>
        have k := evR hT hx
        simp only [hx] at h
        split at h <;> first | (cases h; done) | skip
        rename_i fs' cs e1 e2
        cases e1; cases e2
        cases hf : fs[f]? with
        | none => simp [hf] at h
        | some fd =>
          simp only [hf] at h
          generalize hg : evT tmps x = u at k
          cases k with
          | agg s kk =>
            obtain ⟨v', q, hr⟩ := run_part h (LR_toArray.2 ⟨s, kk⟩)
            refine ⟨v', q, fun w => ?_⟩
            simp [Instr.field, run_underlying hu, hf, asAgg, hr]
  case indexAddr t x ix =>
    cases hu : P.underlying t with
    | none => simp [hu] at h
    | some d =>
      cases hx : ev A x with
      | none => cases d <;> simp [hu, hx] at h
      | some xv =>
        cases hi : ev A ix with
        | none => cases d <;> simp [hu, hx, hi] at h
        | some iv =>
          have k := evR hT hx
          have ki := evR hT hi
          simp only [hu, hx, hi] at h
          split at h <;> first | (cases h; done) | skip
          · rename_i e a len c kd i e1 e2 e3
            cases e1; cases e2; cases e3
            cases hinf : P.info? e with
            | none => simp [hinf] at h
            | some inf =>
              simp only [hinf] at h
              obtain ⟨hb, h⟩ := bif_some h
              cases h
              have hb := Nat.le_of_ble_eq_true hb
              obtain ⟨loc, c', h1, h2, h3, _⟩ := slice_R k (.inr (by omega))
              have e4 : evT tmps ix = .int kd (.ofNat i) := int_same ki
              refine ⟨_, ptr_add h1 h2 (i * inf.size), fun w => ?_⟩
              rw [h3, e4]
              have hlt : (0 : Int) ≤ (i : Int) ∧ (i : Int) < (len : Int) := by omega
              simp [Instr.indexAt, asIntOf, run_underlying hu, run_size hinf, hlt]
              intro; omega
          · rename_i len e a kd i e1 e2 e3
            cases e1; cases e2; cases e3
            cases hinf : P.info? e with
            | none => simp [hinf] at h
            | some inf =>
              simp only [hinf] at h
              obtain ⟨hb, h⟩ := bif_some h
              cases h
              have hb := Nat.le_of_ble_eq_true hb
              obtain ⟨loc, h1, h2, h3⟩ := ptr_R k
              have e4 : evT tmps ix = .int kd (.ofNat i) := int_same ki
              refine ⟨_, ptr_add h1 h2 (i * inf.size), fun w => ?_⟩
              rw [h3, e4]
              have hlt : (0 : Int) ≤ (i : Int) ∧ (i : Int) < (len : Int) := by omega
              simp [Instr.indexAt, Instr.sureAddr, asIntOf, run_underlying hu, run_size hinf, hlt]
              intro; omega
  case index t x ix =>
    cases hu : P.underlying t with
    | none => simp [hu] at h
    | some d =>
      cases hx : ev A x with
      | none => cases d <;> simp [hu, hx] at h
      | some xv =>
        cases hi : ev A ix with
        | none => cases d <;> simp [hu, hx, hi] at h
        | some iv =>
          have k := evR hT hx
          have ki := evR hT hi
          simp only [hu, hx, hi] at h
          split at h <;> first | (cases h; done) | skip
          · rename_i len e cs kd i e1 e2 e3
            cases e1; cases e2; cases e3
            cases hinf : P.info? e with
            | none => simp [hinf] at h
            | some inf =>
              simp only [hinf] at h
              obtain ⟨hb, h⟩ := bif_some h
              have hb := Nat.le_of_ble_eq_true hb
              have e4 : evT tmps ix = .int kd (.ofNat i) := int_same ki
              generalize hg : evT tmps x = u at k
              cases k with
              | agg s kk =>
                obtain ⟨v', q, hr⟩ := run_part h (LR_toArray.2 ⟨s, kk⟩)
                refine ⟨v', q, fun w => ?_⟩
                have hlt : (0 : Int) ≤ (i : Int) ∧ (i : Int) < (len : Int) := by omega
                rw [e4]
                simp [Instr.index, asIntOf, run_underlying hu, run_size hinf, hlt, hr]
                intro; omega
          · rename_i v0 k0 e1 e2 e3
            cases e1; cases e2; cases e3
            obtain ⟨hf, h⟩ := bif_some h
            simp only [Bool.and_eq_true] at hf
            cases hp : prun P (Instr.index t xv iv) with
            | none => rw [hp] at h; cases h
            | some u =>
              rw [hp] at h
              obtain ⟨hu', h⟩ := bif_some h
              cases h
              refine ⟨v, flat_vr hu', fun w => ?_⟩
              rw [flat_same hf.1 k, flat_same hf.2 ki]
              simp only [Sem.run_bind, prun_run _ hp w]; rfl
  case extract x i =>
    cases hx : ev A x with
    | none => simp [hx] at h
    | some xv =>
      have k := evR hT hx
      simp only [hx] at h
      split at h <;> first | (cases h; done) | skip
      rename_i vs e1
      cases e1
      generalize hg : evT tmps x = u at k
      cases k with
      | tuple s kk =>
        obtain ⟨v', e, q⟩ := (LR_toArray.2 ⟨s, kk⟩).get h
        refine ⟨v', q, fun w => ?_⟩
        have e' : _ := e
        rw [Array.getElem?_toList] at e'
        simp [Instr.extract, e']
  case typeAssert x xt asserted ok =>
    cases hu : P.underlying asserted with
    | none => simp [hu] at h
    | some d =>
      cases hx : ev A x with
      | none => cases d <;> simp [hu, hx] at h
      | some xv =>
        have k := evR hT hx
        have hd : ∀ ms, d ≠ .interface ms := by rintro ms rfl; simp [hu] at h
        simp only [hu, hx] at h
        split at h <;> first | (cases h; done) | skip
        · rename_i t u e1 e2 e3
          cases e2; cases e3
          generalize hg : evT tmps x = ux at k
          cases k with
          | iface t k =>
            rename_i u'
            simp only [beq_eq] at h
            by_cases hta : t = asserted
            · subst hta
              simp only [decide_true, cond_true] at h
              cases ok with
              | true =>
                simp at h; subst h
                refine ⟨_, VR.tupleL (LR.cons k (LR.cons (.bool true) .nil)), fun w => ?_⟩
                cases d <;> simp_all [Instr.typeAssert, run_underlying hu]
              | false =>
                simp at h; subst h
                refine ⟨_, k, fun w => ?_⟩
                cases d <;> simp_all [Instr.typeAssert, run_underlying hu]
            · simp only [hta, decide_false, cond_false] at h
              cases ok with
              | false => simp at h
              | true =>
                simp at h
                cases hz : zeroOf P asserted with
                | none => simp [hz] at h
                | some z =>
                  simp [hz] at h; subst h
                  refine ⟨_, VR.tupleL (LR.cons (flat_vr (run_zero hz default).2) (LR.cons (.bool false) .nil)), fun w => ?_⟩
                  have hz' := (run_zero hz w).1
                  cases d <;> simp_all [Instr.typeAssert, run_underlying hu]
        · rename_i e1 e2 e3
          cases e2; cases e3
          generalize hg : evT tmps x = ux at k
          cases k
          cases ok with
          | false => simp at h
          | true =>
            simp only [cond_true] at h
            cases hz : zeroOf P asserted with
            | none => simp [hz] at h
            | some z =>
              simp [hz] at h; subst h
              refine ⟨_, VR.tupleL (LR.cons (flat_vr (run_zero hz default).2) (LR.cons (.bool false) .nil)), fun w => ?_⟩
              have hz' := (run_zero hz w).1
              cases d <;> simp_all [Instr.typeAssert, run_underlying hu]
  case slice t x lw hi mx =>
    cases hu : P.underlying t with
    | none => simp [hu] at h
    | some d =>
      cases d <;> simp only [hu] at h <;> try (cases h; done)
      cases mx with
      | some m => simp at h
      | none =>
        simp only at h
        cases hx : ev A x with
        | none => simp [hx] at h
        | some xv =>
          cases hl : evO A lw with
          | none => simp [hx, hl] at h
          | some l =>
            cases hh : evO A hi with
            | none => simp [hx, hl, hh] at h
            | some hv =>
              simp only [hx, hl, hh] at h
              obtain ⟨hf, h⟩ := bif_some h
              simp only [Bool.and_eq_true] at hf
              cases hp : prun P (Instr.sliceAt t xv l hv none) with
              | none => rw [hp] at h; cases h
              | some u =>
                rw [hp] at h
                obtain ⟨hu', h⟩ := bif_some h
                cases h
                have same : ∀ {q : Option Operand} {l : Option Value}, evO A q = some l → l.toList.all flat = true → q.map (evT tmps) = l := by
                  intro q l e ha
                  rcases evOR hT e with ⟨rfl, e2⟩ | ⟨v0, v1, rfl, e2, kk⟩
                  · exact e2
                  · rw [e2, flat_same (by simpa using ha) kk]
                refine ⟨v, flat_vr hu', fun w => ?_⟩
                rw [flat_same hf.1.1 (evR hT hx), same hl hf.1.2, same hh hf.2]
                simp only [Sem.run_bind, Option.map_none, prun_run _ hp w]; rfl
  case call c =>
    cases hc : c.callee <;> simp only [hc] at h <;> try (cases h; done)
    rename_i b
    cases hvs : evs A c.args.toList with
    | none => simp [hvs] at h
    | some vs =>
      simp only [hvs] at h
      obtain ⟨q, hr⟩ := pureCall_R (evsR hT hvs) h
      refine ⟨v, q, fun w => ?_⟩
      have := hr w
      have e1 : (c.args.toList.map (evT tmps)).toArray = c.args.map (evT tmps) := map_toArray _ _
      rw [e1] at this
      simp only [resolve, hc, Sem.run_bind, Sem.run_pure, Result.andThen_ok, invoke]
      exact this
end
end Go.Ax

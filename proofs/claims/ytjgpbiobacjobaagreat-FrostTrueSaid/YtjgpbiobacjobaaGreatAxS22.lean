import Derived.Test.YtjgpbiobacjobaaGreatAxS21
set_option linter.all false
namespace Go.Ax
open Go Go.RowKit
section
variable {P : Program} {lo base : Nat} {C : CallF} {ops : Array Oper} {n : Nat} {As : Nat → Fr} {Hs : Nat → Hp} {kd : Nat → Kd} {r : Ren} {w : World}
variable {L : Array Bool} {s p : Nat} {r' : Ren} {w' : World} {tm : Array Value} {X : Cx}

theorem aOp_nodefer {A : Fr} {H : Hp} {o : Oper} {rs : Rs} {k : Kd} (h : aOp P lo A H o = some (rs, k)) (hnd : ∀ d, rs ≠ .dfr d) : ∀ c, o.op ≠ .defer c := fun c hc => by
  unfold aOp at h
  rw [pure_defer hc] at h
  obtain ⟨d, e⟩ := heap_defer hc h
  exact hnd d e

theorem call_step (hC : CallN P C) {lo : Nat} {t : Target} {args : List Value} {H H' : Hp} {v : Value} (hc : C lo t args H = some (.ret v, H')) (hlo : lo ≤ H.next) {r' : Ren} {w' : World} {fn : FuncId} {t' : Target} {args' : Array Value} (hrel : Rel P r' base H w') (ht : TgR r' t t') (ha : LR r' args args'.toList) {i : Nat} {o : Oper}
    (ho : ops[i]? = some o) (hwr : Region.wanted o (yielded ops tm) = true) (hnd : ∀ c, o.op ≠ .defer c) (hrun : (execOp (evT tm) o).run P w' = (invoke t' args').run P w') :
    ∃ v' r3 w2, VR r3 v v' ∧ Post P lo base r' H w' r3 H' w2 ∧ OneStep X P fn ops i tm w' o v' w2 := by
  obtain ⟨nx, fr0, hinv, hfo, hrest⟩ := hC _ _ _ _ _ _ hc hlo r' base w' t' args' hrel ht ha
  obtain ⟨r3, w2, hpost, v', hv, hsteps⟩ := hrest (mkF fn tm (.inRegion ops (i :: X.rest) :: X.k) X.ds X.kind X.rd) X.cs
  have henter : step P (lone (mkF fn tm (.inRegion ops (i :: X.rest) :: X.k) X.ds X.kind X.rd) X.cs w') = .next (lone fr0 (mkF fn tm (.inRegion ops (i :: X.rest) :: X.k) X.ds X.kind X.rd :: X.cs) w') := by
    rw [hinv] at hrun
    cases nx <;> simp only [frameOf] at hfo <;> cases hfo
    · exact mv_enter ho hwr (.inr hnd) hrun
    · exact mv_round ho hwr (.inr hnd) hrun
  rw [finish_mk v' ho] at hsteps
  exact ⟨v', r3, w2, hv, hpost, Steps.head henter hsteps⟩

theorem one_step (hC : CallN P C) (U : Setup P lo C ops n As Hs kd) (h : Inv P lo base ops n As Hs kd r w L s p r' w' tm) {i : Nat} (hi : i < n) (hun : ¬ Done L i) {o : Oper} (ho : ops[i]? = some o) (hr : ∀ e ∈ o.after, Region.binds .any e = true → Done L e.on) :
    ∃ s2 p2 r2 w2 v', OneStep X P (As 0).fn ops i tm w' o v' w2 ∧ Inv P lo base ops n As Hs kd r w (L.setIfInBounds i true) s2 p2 r2 w2 (putT tm o.dst v') := by
  obtain ⟨o', v, ho', hd, hput⟩ := U.T.step i hi
  rw [ho] at ho'; cases ho'
  have hTm := h.reads U.S U.T (Nat.le_of_lt hi) ho hun hr
  generalize hH' : Hs (i + 1) = H' at hd
  generalize hk : kd i = k at hd
  have hlonx := (tr_next U.A U.T U.lo i (by omega)).1
  -- an operation whose value is as it was
  cases hd with
  | passed hw =>
    rw [← wantedA_cut] at hw
    have hwr := wanted_R hTm hw
    exact step_light U h hi hun ho hr hput (.inl hk) (undef_R _) (Steps.one (mv_passed ho hwr))
  | val hw he hkd =>
    rw [← wantedA_cut] at hw
    have hwr := wanted_R hTm hw
    have hnd := aOp_nodefer he (fun d => by simp)
    rw [← aOp_cut (ops := ops)] at he
    unfold aOp at he
    cases hp : pureOp P ((As i).cut (readsOf ops o)) o with
    | some u =>
      rw [hp] at he
      cases he
      obtain ⟨v', q, hy⟩ := pureOp_R hTm hp
      exact step_light U h hi hun ho hr hput (.inl hk) q (runs_value ho hwr hnd (hy w'))
    | none =>
      rw [hp] at he
      have hlit := lit_R he
      cases k with
      | pure =>
        obtain ⟨v', q, hy⟩ := hlit _ w' tm hTm
        exact step_light U h hi hun ho hr hput (.inl hk) q (runs_value ho hwr hnd hy)
      | read b =>
        obtain ⟨ob, hget, hlit⟩ := hlit
        obtain ⟨loc, hloc, hrun⟩ := hlit _ w' tm hTm
        have hbi : b < (Hs i).next := Nat.le_of_ble_eq_true hkd
        obtain ⟨_, hloc'⟩ := below_some hloc
        have hdp := h.dom U.A U.T U.cl U.lo b loc hloc'
        have hstores : ∀ j, j < n → (j < i → ¬ Done L j) → (i < j → Done L j) → j ≠ i → calm (kd j) = true ∨ ∃ c, kd j = .store c ∧ c ≠ b := fun j hj h1 h2 hne => by
          cases hcj : calm (kd j) with
          | true => exact .inl rfl
          | false =>
            refine .inr (noclash_read hcj ?_)
            rcases Nat.lt_or_ge j i with q | q
            · refine .inr (Bool.eq_false_iff.2 fun hcc => ?_)
              rw [← hk] at hcc
              exact h1 q (h.ready ho hr (U.cl j i q hi hcc))
            · refine .inl (Bool.eq_false_iff.2 fun hcc => ?_)
              rw [← hk] at hcc
              exact hun (h.anc (U.cl i j (by omega) hj hcc) (h2 (by omega)))
        have hkeep : kd i = .pure ∨ ∃ b, kd i = .read b := .inr ⟨b, hk⟩
        have hcalmi : calm (kd i) = true := by rw [hk]; rfl
        have hOb : ObR P (r'.below (Hs (max i s)).next) loc ob w'.heap[loc.blk]? := by
          rcases Nat.lt_or_ge i s with his | his
          · -- it runs behind writes that stand behind it
            have hb := tr_block U.A U.T U.lo (i := i) (p := s) (b := b) (by omega) (by have := h.sle; have := h.ple; omega) hbi (fun j x y => by
              by_cases hji : j = i
              · subst hji; exact .inl hcalmi
              · by_cases hcj : calm (kd j) = true
                · exact .inl hcj
                · exact hstores j (by have := h.sle; have := h.ple; omega) (fun q => by omega) (fun _ => h.pbelow j (by have := h.sle; omega) (Bool.eq_false_iff.2 hcj)) hji)
            rw [Nat.max_eq_right (by omega)]
            have hbs : b < (Hs s).next := by have := tr_mono U.A U.T U.lo (i := i) (j := s) (by omega) (by have := h.sle; have := h.ple; omega); omega
            exact (h.rels s (Nat.le_refl _) h.sle).cont b loc ob (below_mk hbs hloc') (by rw [hb]; exact hget)
          · rw [Nat.max_eq_left his]
            rcases Nat.lt_or_ge p i with hpi | hpi
            · -- it runs ahead of writes that stand ahead of it
              have hb := tr_block U.A U.T U.lo (i := p) (p := i) (b := b) (by omega) (by omega) hdp (fun j x y => by
                by_cases hcj : calm (kd j) = true
                · exact .inl hcj
                · refine hstores j (by omega) (fun _ => ?_) (fun q => by omega) (by omega)
                  have hE := h.pE (by omega)
                  by_cases hjp : j = p
                  · subst hjp; exact hE.2
                  · exact fun hdn => hE.2 (h.anc (U.cl p j (by omega) (by omega) (clash_EE (Bool.eq_false_iff.2 hcj) hE.1)) hdn))
              have hcont := (h.rels p h.sle (Nat.le_refl _)).cont b loc ob (below_mk hdp hloc') (by rw [← hb]; exact hget)
              exact hcont.mono (below_mono (.refl _) (tr_mono U.A U.T U.lo (by omega) (by omega)))
            · exact (h.rels i his hpi).cont b loc ob (below_mk hbi hloc') hget
        obtain ⟨v', q, hy⟩ := hrun hOb
        exact step_light U h hi hun ho hr hput hkeep q (runs_value ho hwr hnd hy)
      | heavy =>
        obtain ⟨hsi, hip⟩ := heavy_at U h hi hun ho hr hk
        rw [Nat.max_eq_left hsi] at hTm
        obtain ⟨r3, v', w2, hrun, hv, hpost⟩ := heapOp_R (h.rels i hsi (by omega)) (Nat.le_refl _) hTm (heapOp_lo (lo' := (Hs i).next) he)
        rw [← hH'] at hpost
        exact step_heavy U h hi hun ho hr hput hk hpost hv (runs_value ho hwr hnd hrun)
      | store b =>
        have hE : calm (kd i) = false := by rw [hk]; rfl
        have hpi := full_at U h hi hun ho hr hE
        obtain ⟨he1, hrel⟩ := full_rel U h
        have hsi := h.sle
        rw [Nat.max_eq_left (by omega), ← hpi, he1] at hTm
        rw [hpi] at hrel hTm
        obtain ⟨r3, v', w2, hrun, hv, hpost⟩ := heapOp_R hrel hlonx hTm he
        rw [← hH'] at hpost
        exact step_full U h hi hun ho hr hput hE hpost hv (runs_value ho hwr hnd hrun)
      | full =>
        have hE : calm (kd i) = false := by rw [hk]; rfl
        have hpi := full_at U h hi hun ho hr hE
        obtain ⟨he1, hrel⟩ := full_rel U h
        have hsi := h.sle
        rw [Nat.max_eq_left (by omega), ← hpi, he1] at hTm
        rw [hpi] at hrel hTm
        obtain ⟨r3, v', w2, hrun, hv, hpost⟩ := heapOp_R hrel hlonx hTm he
        rw [← hH'] at hpost
        exact step_full U h hi hun ho hr hput hE hpost hv (runs_value ho hwr hnd hrun)
  | skip hw he =>
    rw [← wantedA_cut] at hw
    have hwr := wanted_R hTm hw
    have hnd := aOp_nodefer he (fun d => by simp)
    rw [← aOp_cut (ops := ops)] at he
    unfold aOp at he
    cases hp : pureOp P ((As i).cut (readsOf ops o)) o with
    | some u => rw [hp] at he; cases he
    | none =>
      rw [hp] at he
      have hst : ∃ b, k = .store b := by
        rcases heapOp_chg he with ⟨v', H'', e, q⟩ | ⟨H'', e, q, b, hb⟩ | ⟨d, e⟩ | e | ⟨t, vs, e⟩ | ⟨u, e⟩ <;> cases e
        exact ⟨b, hb⟩
      obtain ⟨b, hb⟩ := hst
      have hE : calm (kd i) = false := by rw [hk, hb]; rfl
      have hpi := full_at U h hi hun ho hr hE
      obtain ⟨he1, hrel⟩ := full_rel U h
      have hsi := h.sle
      rw [Nat.max_eq_left (by omega), ← hpi, he1] at hTm
      rw [hpi] at hrel hTm
      obtain ⟨w2, hrun, hpost⟩ := heapOp_R hrel hlonx hTm he
      rw [← hH'] at hpost
      exact step_full U h hi hun ho hr hput hE hpost (undef_R _) (Steps.one (mv_skipped ho hwr (.inr hnd) hrun))
  | full hw he hc =>
    rw [← wantedA_cut] at hw
    have hwr := wanted_R hTm hw
    have hnd := aOp_nodefer he (fun d => by simp)
    rw [← aOp_cut (ops := ops)] at he
    have hE : calm (kd i) = false := by rw [hk]; rfl
    have hpi := full_at U h hi hun ho hr hE
    obtain ⟨he1, hrel⟩ := full_rel U h
    have hsi := h.sle
    rw [Nat.max_eq_left (by omega), ← hpi, he1] at hTm
    rw [hpi] at hrel hTm
    obtain ⟨⟨t', args', hrun, ht, ha⟩, _⟩ := aOp_R hrel hlonx hTm he
    obtain ⟨v', r3, w2, hv, hpost, hs⟩ := call_step (X := X) (fn := (As 0).fn) hC hc hlonx hrel ht ha ho hwr hnd hrun
    rw [← hH'] at hpost
    exact step_full U h hi hun ho hr hput hE hpost hv hs
  | one hw he hc hb ho1 =>
    rw [← wantedA_cut] at hw
    have hwr := wanted_R hTm hw
    have hnd := aOp_nodefer he (fun d => by simp)
    rw [← aOp_cut (ops := ops)] at he
    have hE : calm (kd i) = false := by rw [hk]; rfl
    have hpi := full_at U h hi hun ho hr hE
    obtain ⟨he1, hrel⟩ := full_rel U h
    have hsi := h.sle
    rw [Nat.max_eq_left (by omega), ← hpi, he1] at hTm
    rw [hpi] at hrel hTm
    obtain ⟨⟨t', args', hrun, ht, ha⟩, _⟩ := aOp_R hrel hlonx hTm he
    obtain ⟨v', r3, w2, hv, hpost, hs⟩ := call_step (X := X) (fn := (As 0).fn) hC hc hlonx hrel ht ha ho hwr hnd hrun
    rw [← hH'] at hpost
    exact step_full U h hi hun ho hr hput hE hpost hv hs
  | quiet hw he hc =>
    rw [← wantedA_cut] at hw
    have hwr := wanted_R hTm hw
    have hnd := aOp_nodefer he (fun d => by simp)
    rw [← aOp_cut (ops := ops)] at he
    obtain ⟨hsi, hip⟩ := heavy_at U h hi hun ho hr hk
    rw [Nat.max_eq_left hsi] at hTm
    have hrel := h.rels i hsi (by omega)
    obtain ⟨⟨t', args', hrun, ht, ha⟩, _⟩ := aOp_R hrel hlonx hTm he
    obtain ⟨v', r3, w2, hv, hpost, hs⟩ := call_step (X := X) (fn := (As 0).fn) hC hc (Nat.le_refl _) hrel ht ha ho hwr hnd hrun
    rw [← hH'] at hpost
    exact step_heavy U h hi hun ho hr hput hk hpost hv hs
end
end Go.Ax

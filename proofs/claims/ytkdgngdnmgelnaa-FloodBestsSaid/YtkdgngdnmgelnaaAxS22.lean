import Derived.Test.YtkdgngdnmgelnaaAxS21
set_option linter.all false
namespace Go.Ax
open Go Go.RowKit
section
variable {P : Program} {lo base : Nat} {C : CallF} {ops : Array Oper} {n : Nat} {As : Nat → Fr} {Hs : Nat → Hp} {kd : Nat → Kd} {r : Ren} {w : World}
variable {L : Array Bool} {s : Nat} {r' : Ren} {w' : World} {tm : Array Value} {X : Cx}
theorem aOp_nodefer {A : Fr} {H : Hp} {o : Oper} {rs : Rs} {k : Kd} (h : aOp P lo A H o = some (rs, k)) (hnd : ∀ d, rs ≠ .dfr d) : ∀ c, o.op ≠ .defer c := fun c hc => by
  unfold aOp at h
  rw [pure_defer hc] at h
  obtain ⟨d, e⟩ := heap_defer hc h
  exact hnd d e
theorem call_step (hC : CallN P C) {lo : Nat} {t : Target} {args : List Value} {H H' : Hp} {v : Value} (hc : C lo t args H = some (.ret v, H')) (hlo : lo ≤ H.next) {r' : Ren} {w' : World} {fn : FuncId} {t' : Target} {args' : Array Value} (hrel : Rel P r' base H w') (ht : TgR r' t t') (ha : LR r' args args'.toList) {i : Nat} {o : Oper}
    (ho : ops[i]? = some o) (hwr : Region.wanted o (yielded ops tm) = true) (hnd : ∀ c, o.op ≠ .defer c) (hrun : (execOp (evT tm) o).run P w' = (invoke t' args').run P w') :
    ∃ v' r3 w2, VR r3 v v' ∧ Post P lo base r' H w' r3 H' w2 ∧ OneStep X P fn ops i tm w' o v' w2 := by
  obtain ⟨nx, fr0, hinv, hfo, hrest⟩ := hC _ _ _ _ _ _ hc hlo r' base w' t' args' hrel ht ha
  obtain ⟨r3, w2, hpost, v', hv, hsteps⟩ := hrest (mkF fn tm (.inRegion ops (i :: X.rest) :: X.k) X.ds X.kind X.rd) X.cs
  have henter : step P (lone (mkF fn tm (.inRegion ops (i :: X.rest) :: X.k) X.ds X.kind X.rd) X.cs w') = .next (lone fr0 (mkF fn tm (.inRegion ops (i :: X.rest) :: X.k) X.ds X.kind X.rd :: X.cs) w') := by
    rw [hinv] at hrun
    cases nx <;> simp only [frameOf] at hfo <;> cases hfo
    · exact mv_enter ho hwr (.inr hnd) hrun
    · exact mv_round ho hwr (.inr hnd) hrun
  rw [finish_mk v' ho] at hsteps
  exact ⟨v', r3, w2, hv, hpost, Steps.head henter hsteps⟩
theorem one_step (hC : CallN P C) (U : Setup P lo C ops n As Hs kd) (h : Inv P lo base ops n As Hs kd r w L s r' w' tm) {i : Nat} (hi : i < n) (hun : ¬ Done L i) {o : Oper} (ho : ops[i]? = some o) (hr : ∀ e ∈ o.after, Region.binds .any e = true → Done L e.on) :
    ∃ s2 r2 w2 v', OneStep X P (As 0).fn ops i tm w' o v' w2 ∧ Inv P lo base ops n As Hs kd r w (L.setIfInBounds i true) s2 r2 w2 (putT tm o.dst v') := by
  obtain ⟨o', v, ho', hd, hput⟩ := U.T.step i hi
  rw [ho] at ho'; cases ho'
  have hTm := h.reads U.S U.T (Nat.le_of_lt hi) ho hun hr
  generalize hH' : Hs (i + 1) = H' at hd
  generalize hk : kd i = k at hd
  have hlonx := (tr_next U.A U.T U.lo i (by omega)).1
  -- where all that is written has been written in order
  have inOrder : (kd i = .heavy ∨ calm (kd i) = false) → s ≤ i ∧ Rel P (r'.below (Hs i).next) base (Hs i) w' ∧ TmpR (r'.below (Hs i).next) ((As i).cut (readsOf ops o)).n ((As i).cut (readsOf ops o)).T tm := fun hkk => by
    have hsi : s ≤ i := by
      rcases Nat.lt_or_ge i s with q | q
      · exact absurd (h.sdone i q hkk) hun
      · exact q
    rw [Nat.max_eq_left hsi] at hTm
    exact ⟨hsi, rel_at h hsi (by omega) (sync_at U h hi hun ho hr hkk), hTm⟩
  cases hd with
  | passed hw =>
    rw [← wantedA_cut] at hw
    have hwr := wanted_R hTm hw
    exact step_light U h hi hun ho hr hput (.inl hk) (undef_R _) (Steps.one (mv_passed ho hwr))
  | mk hw he hm =>
    rw [← wantedA_cut] at hw
    have hwr := wanted_R hTm hw
    rw [← aOp_cut (ops := ops)] at he
    unfold aOp at he
    rw [mk_pure hm] at he
    obtain ⟨hnd, cs, e, hHn, hrun⟩ := mk_R he hm
    obtain ⟨v', C', hy, hL, hv⟩ := hrun _ w' tm hTm
    exact step_mk U h hi hun ho hr hput hk (hH'.trans hHn) hL hv (runs_value ho hwr hnd hy)
  | val hw he hkd =>
    rw [← wantedA_cut] at hw
    have hwr := wanted_R hTm hw
    have hnd := aOp_nodefer he (fun d => by simp)
    rw [← aOp_cut (ops := ops)] at he
    unfold aOp at he
    cases hp : pureOp P ((As i).cut (readsOf ops o)) o with
    | some u =>
      rw [hp] at he
      cases he
      obtain ⟨v', q, hy⟩ := pureOp_R hTm hp
      exact step_light U h hi hun ho hr hput (.inl hk) q (runs_value ho hwr hnd (hy w'))
    | none =>
      rw [hp] at he
      have hlit := lit_R he
      cases k with
      | pure =>
        obtain ⟨v', q, hy⟩ := hlit _ w' tm hTm
        exact step_light U h hi hun ho hr hput (.inl hk) q (runs_value ho hwr hnd hy)
      | read b =>
        obtain ⟨ob, hget, hlit⟩ := hlit
        obtain ⟨loc, hloc, hrun⟩ := hlit _ w' tm hTm
        have hbi : b < (Hs i).next := Nat.le_of_ble_eq_true hkd
        obtain ⟨hbm, hloc'⟩ := below_some hloc
        have hle : max i s ≤ n := by have := h.sle; omega
        have after : ∀ j, i < j → j < n → Wr (kd j) b → ¬ Done L j := fun j h1 h2 hw hd => hun (h.anc (U.cl i j h1 h2 (by rw [hk]; exact (wr_read hw).1)) hd)
        have ahead : ∀ j, j < i → Wr (kd j) b → Done L j := fun j h1 hw => h.ready ho hr (U.cl j i h1 hi (by rw [hk]; exact (wr_read hw).2))
        have self : ¬ Wr (kd i) b := fun hw => by have := hw.calm; rw [hk] at this; cases this
        clear hw
        have hsy : Sync kd n L b (max i s) := fun j hj hw => by
          constructor
          · intro hd
            rcases Nat.lt_or_ge j i with q | q
            · omega
            · by_cases hji : j = i
              · subst hji; exact absurd hw self
              · exact absurd hd (after j (by omega) hj hw)
          · intro q
            rcases Nat.lt_or_ge j i with z | z
            · exact ahead j z hw
            · exact h.sdone j (by omega) (.inr hw.calm)
        have heq : (Hs (max i s)).t.get b = (Hs i).t.get b := tr_same U (by omega) hle hbi fun j h1 h2 hw => by
          by_cases hji : j = i
          · subst hji; exact self hw
          · exact after j (by omega) (by omega) hw (h.sdone j (by omega) (.inr hw.calm))
        have hOb : ObR P (r'.below (Hs (max i s)).next) loc ob w'.heap[loc.blk]? := (h.rels (max i s) (by omega) hle).cont b loc ob hloc' hbm hsy (by rw [heq]; exact hget)
        obtain ⟨v', q, hy⟩ := hrun hOb
        exact step_light U h hi hun ho hr hput (.inr ⟨b, hk⟩) q (runs_value ho hwr hnd hy)
      | heavy =>
        obtain ⟨hsi, hrel, hTm⟩ := inOrder (.inl hk)
        obtain ⟨r3, v', w2, hrun, hv, hpost⟩ := heapOp_R hrel (Nat.le_refl _) hTm (heapOp_lo (lo' := (Hs i).next) he)
        rw [← hH'] at hpost
        exact step_heavy U h hi hun ho hr hput hk hpost hv (runs_value ho hwr hnd hrun)
      | store b =>
        have hE : calm (kd i) = false := by rw [hk]; rfl
        obtain ⟨hsi, hrel, hTm⟩ := inOrder (.inr hE)
        obtain ⟨r3, v', w2, hrun, hv, hpost⟩ := heapOp_R hrel hlonx hTm he
        rw [← hH'] at hpost
        exact step_full U h hi hun ho hr hput hE hpost hv (runs_value ho hwr hnd hrun)
      | full =>
        have hE : calm (kd i) = false := by rw [hk]; rfl
        obtain ⟨hsi, hrel, hTm⟩ := inOrder (.inr hE)
        obtain ⟨r3, v', w2, hrun, hv, hpost⟩ := heapOp_R hrel hlonx hTm he
        rw [← hH'] at hpost
        exact step_full U h hi hun ho hr hput hE hpost hv (runs_value ho hwr hnd hrun)
      | mk b => exact (heapOp_nomk he).elim
  | skip hw he =>
    rw [← wantedA_cut] at hw
    have hwr := wanted_R hTm hw
    have hnd := aOp_nodefer he (fun d => by simp)
    rw [← aOp_cut (ops := ops)] at he
    unfold aOp at he
    cases hp : pureOp P ((As i).cut (readsOf ops o)) o with
    | some u => rw [hp] at he; cases he
    | none =>
      rw [hp] at he
      have hst : ∃ b, k = .store b := by
        rcases heapOp_chg he with ⟨v', H'', e, q⟩ | ⟨H'', e, q, b, hb⟩ | ⟨d, e⟩ | e | ⟨t, vs, e⟩ | ⟨u, e⟩ <;> cases e
        exact ⟨b, hb⟩
      obtain ⟨b, hb⟩ := hst
      have hE : calm (kd i) = false := by rw [hk, hb]; rfl
      obtain ⟨hsi, hrel, hTm⟩ := inOrder (.inr hE)
      obtain ⟨w2, hrun, hpost⟩ := heapOp_R hrel hlonx hTm he
      rw [← hH'] at hpost
      exact step_full U h hi hun ho hr hput hE hpost (undef_R _) (Steps.one (mv_skipped ho hwr (.inr hnd) hrun))
  | full hw he hc =>
    rw [← wantedA_cut] at hw
    have hwr := wanted_R hTm hw
    have hnd := aOp_nodefer he (fun d => by simp)
    rw [← aOp_cut (ops := ops)] at he
    have hE : calm (kd i) = false := by rw [hk]; rfl
    obtain ⟨hsi, hrel, hTm⟩ := inOrder (.inr hE)
    obtain ⟨⟨t', args', hrun, ht, ha⟩, _⟩ := aOp_R hrel hlonx hTm he
    obtain ⟨v', r3, w2, hv, hpost, hs⟩ := call_step (X := X) (fn := (As 0).fn) hC hc hlonx hrel ht ha ho hwr hnd hrun
    rw [← hH'] at hpost
    exact step_full U h hi hun ho hr hput hE hpost hv hs
  | one hw he hc hb ho1 =>
    rw [← wantedA_cut] at hw
    have hwr := wanted_R hTm hw
    have hnd := aOp_nodefer he (fun d => by simp)
    rw [← aOp_cut (ops := ops)] at he
    have hE : calm (kd i) = false := by rw [hk]; rfl
    obtain ⟨hsi, hrel, hTm⟩ := inOrder (.inr hE)
    obtain ⟨⟨t', args', hrun, ht, ha⟩, _⟩ := aOp_R hrel hlonx hTm he
    obtain ⟨v', r3, w2, hv, hpost, hs⟩ := call_step (X := X) (fn := (As 0).fn) hC hc hlonx hrel ht ha ho hwr hnd hrun
    rw [← hH'] at hpost
    exact step_full U h hi hun ho hr hput hE hpost hv hs
  | quiet hw he hc =>
    rw [← wantedA_cut] at hw
    have hwr := wanted_R hTm hw
    have hnd := aOp_nodefer he (fun d => by simp)
    rw [← aOp_cut (ops := ops)] at he
    obtain ⟨hsi, hrel, hTm⟩ := inOrder (.inl hk)
    obtain ⟨⟨t', args', hrun, ht, ha⟩, _⟩ := aOp_R hrel hlonx hTm he
    obtain ⟨v', r3, w2, hv, hpost, hs⟩ := call_step (X := X) (fn := (As 0).fn) hC hc (Nat.le_refl _) hrel ht ha ho hwr hnd hrun
    rw [← hH'] at hpost
    exact step_heavy U h hi hun ho hr hput hk hpost hv hs
end
end Go.Ax

import Derived.Test.YtkdgngdnmgelnaaAxS13
set_option linter.all false
namespace Go.Ax
open Go Go.RowKit
def RdR (r : Ren) : Option Nat → Option Nat → Prop
  | none, x => x = none
  | some l, x => ∃ loc, r l = some loc ∧ x = some loc.blk
theorem RdR.mono {r r' : Ren} (h : Ren.Le r r') {a b : Option Nat} (k : RdR r a b) : RdR r' a b := by
  cases a with
  | none => exact k
  | some l => obtain ⟨loc, e, q⟩ := k; exact ⟨loc, h _ _ e, q⟩
def ParR (r : Ren) : Par → Par → Prop
  | none, x => x = none
  | some (v, b), x => ∃ v', VR r v v' ∧ x = some (v', b)
theorem ParR.mono {r r' : Ren} (h : Ren.Le r r') {a b : Par} (k : ParR r a b) : ParR r' a b := by
  cases a with
  | none => exact k
  | some q => obtain ⟨v, b'⟩ := q; obtain ⟨v', e, q⟩ := k; exact ⟨v', e.mono h, q⟩
def modeOf : Par → FrameMode
  | none => .returning
  | some (v, b) => .panicking [{ v, recovered := b }]
def KOK (kind : CallKind) (K : Par → List Frame) : Prop :=
  (kind = .normal ∧ ∀ p, K p = K none) ∨ (kind = .deferred ∧ ∃ (c : Frame) (rest : List Frame), ∀ p, K p = { c with mode := modeOf p } :: rest)
structure FrR (r : Ren) (A : Fr) (tmps : Array Value) (ds : List Deferred) (rd : Option Nat) : Prop where
  T : TmpR r A.n A.T tmps
  D : DsR r A.defers ds
  R : RdR r A.round rd
theorem FrR.mono {r r' : Ren} (h : Ren.Le r r') {A : Fr} {tmps : Array Value} {ds : List Deferred} {rd : Option Nat} (k : FrR r A tmps ds rd) : FrR r' A tmps ds rd := ⟨k.T.mono h, k.D.mono h, k.R.mono h⟩
structure Same (A A' : Fr) : Prop where
  fn : A'.fn = A.fn
  n : A'.n = A.n
  round : A'.round = A.round
theorem Same.refl (A : Fr) : Same A A := ⟨rfl, rfl, rfl⟩
theorem Same.trans {a b c : Fr} (h : Same a b) (k : Same b c) : Same a c := ⟨k.fn.trans h.fn, k.n.trans h.n, k.round.trans h.round⟩
def Arr (P : Program) (r : Ren) (M : Machine) (fn : FuncId) (tmps : Array Value) (ds : List Deferred) (kind : CallKind) (rd : Option Nat) (cs : List Frame) (w : World) (k : List Item) : Exit → Prop
  | .normal => Steps P M (lone (mkF fn tmps k ds kind rd) cs w)
  | .exit id => ∃ kx, exitTo id kx = exitTo id k ∧ Steps P M (lone (mkF fn tmps (.code (.exit id) :: kx) ds kind rd) cs w)
  | .ret => ∃ kx, Steps P M (lone (mkF fn tmps (.code .ret :: kx) ds kind rd) cs w)
  | .panic [{ v, recovered := false, goexit := false }] => ∃ todo v', VR r v v' ∧ Steps P M (lone { mkF fn tmps todo ds kind rd with mode := .panicking [{ v := v', recovered := false }] } cs w)
  | _ => False
def Ends (P : Program) (lo base : Nat) (r : Ren) (H : Hp) (w : World) (M : Machine) (kind : CallKind) (rd : Option Nat) (K : Par → List Frame) (k : List Item) (A : Fr) (e : Exit) (A' : Fr) (H' : Hp) (p' : Par) : Prop :=
  ∃ r' w' tmps' ds' pc', Post P lo base r H w r' H' w' ∧ FrR r' A' tmps' ds' rd ∧ Same A A' ∧ ParR r' p' pc' ∧ Arr P r' M A.fn tmps' ds' kind rd (K pc') w' k e ∧ (kind = .normal → p' = none)
theorem Ends.of_steps {P : Program} {lo base : Nat} {r : Ren} {H : Hp} {w : World} {M M1 : Machine} {kind : CallKind} {rd : Option Nat} {K : Par → List Frame} {k : List Item} {A A' : Fr} {e : Exit} {H' : Hp} {p' : Par} (hs : Steps P M M1)
    (h : Ends P lo base r H w M1 kind rd K k A e A' H' p') : Ends P lo base r H w M kind rd K k A e A' H' p' := by
  obtain ⟨r', w', tmps', ds', pc', h1, h2, h3, h4, h5, h6⟩ := h
  refine ⟨r', w', tmps', ds', pc', h1, h2, h3, h4, ?_, h6⟩
  unfold Arr at h5 ⊢
  split at h5
  · exact hs.trans h5
  · obtain ⟨kx, a, b⟩ := h5; exact ⟨kx, a, hs.trans b⟩
  · obtain ⟨kx, b⟩ := h5; exact ⟨kx, hs.trans b⟩
  · obtain ⟨t, v', a, b⟩ := h5; exact ⟨t, v', a, hs.trans b⟩
  · exact h5.elim
theorem Ends.after {P : Program} {lo base : Nat} {r r1 : Ren} {H H1 : Hp} {w w1 : World} {M : Machine} {kind : CallKind} {rd : Option Nat} {K : Par → List Frame} {k : List Item} {A A1 A' : Fr} {e : Exit} {H' : Hp} {p' : Par} (hlo : lo ≤ H.next)
    (hp : Post P lo base r H w r1 H1 w1) (hsm : Same A A1) (h : Ends P lo base r1 H1 w1 M kind rd K k A1 e A' H' p') : Ends P lo base r H w M kind rd K k A e A' H' p' := by
  obtain ⟨r', w', tmps', ds', pc', h1, h2, h3, h4, h5, h6⟩ := h
  rw [hsm.fn] at h5
  exact ⟨r', w', tmps', ds', pc', hp.trans hlo h1, h2, hsm.trans h3, h4, h5, h6⟩
def frameOf (P : Program) (kind : CallKind) : Next → Option Frame
  | .enter f a => some (Frame.enter P f a kind)
  | .round l f tmps asg body => some (Frame.round l f tmps asg body kind)
  | _ => none
def CallN (P : Program) (C : CallF) : Prop :=
  ∀ lo t args H e H', C lo t args H = some (e, H') → lo ≤ H.next → ∀ r base w t' (args' : Array Value), Rel P r base H w → TgR r t t' → LR r args args'.toList →
    ∃ nx fr0, (invoke t' args').run P w = .ok nx w ∧ frameOf P .normal nx = some fr0 ∧ ∀ c rest, ∃ r' w', Post P lo base r H w r' H' w' ∧
      match e with
      | .ret v => ∃ v', VR r' v v' ∧ Steps P (lone fr0 (c :: rest) w) (lone (c.finish v') rest w')
      | .pan v => ∃ v', VR r' v v' ∧ Steps P (lone fr0 (c :: rest) w) (lone (c.raise [{ v := v', recovered := false }]) rest w')
section
variable {P : Program} {lo base : Nat} {r : Ren} {A : Fr} {H : Hp} {w : World} {tmps : Array Value} {ds : List Deferred} {rd : Option Nat}
theorem wanted_R (hT : TmpR r A.n A.T tmps) {ops : Array Oper} {o : Oper} {b : Bool} (h : wantedA ops A o = some b) : Region.wanted o (yielded ops tmps) = b := by
  unfold wantedA at h
  unfold Region.wanted
  cases hg : o.guard with
  | none => simp [hg] at h; simp [h]
  | some q =>
    obtain ⟨j, want⟩ := q
    simp only [hg] at h ⊢
    cases ho : ops[j]? with
    | none => simp [ho] at h
    | some g =>
      simp only [ho] at h
      cases hd : g.dst with
      | none => simp [hd] at h
      | some d =>
        simp only [hd] at h
        cases hv : A.T.get d with
        | none => simp [hv] at h
        | some v =>
          obtain ⟨v', e, q⟩ := hT.2 d v hv
          rw [hv] at h
          split at h <;> first | (cases h; done) | skip
          · rename_i b' heq
            cases heq; cases h
            have := bool_same q
            subst this
            simp [yielded, ho, hd, e]
          · rename_i vs heq
            cases heq; cases h
            have : ∃ vs', v' = .tuple vs' := by cases q; exact ⟨_, rfl⟩
            obtain ⟨vs', rfl⟩ := this
            simp [yielded, ho, hd, e]
theorem put_R (hF : FrR r A tmps ds rd) {dst : Option Tmp} {v v' : Value} {A' : Fr} (h : A.put dst v = some A') (q : VR r v v') : FrR r A' (putT tmps dst v') ds rd ∧ Same A A' ∧ A'.defers = A.defers := by
  unfold Fr.put at h
  cases dst with
  | none => simp at h; subst h; exact ⟨hF, .refl _, rfl⟩
  | some d =>
    simp only at h
    obtain ⟨hb, h⟩ := bif_some h
    have hb := Nat.le_of_ble_eq_true hb
    cases h
    exact ⟨⟨hF.T.set d (by omega) q, hF.D, hF.R⟩, ⟨rfl, rfl, rfl⟩, rfl⟩
theorem undef_R (r : Ren) : VR r undef undef := flat_vr rfl
theorem pure_defer {o : Oper} {c : Call} (hop : o.op = .defer c) : pureOp P A o = none := by unfold pureOp; simp only [hop]
theorem heap_defer {o : Oper} {c : Call} (hop : o.op = .defer c) {rs : Rs} {k : Kd} (h : heapOp P lo A H o = some (rs, k)) : ∃ d, rs = .dfr d := by
  unfold heapOp at h
  simp only [hop] at h
  cases hc : c.callee <;> simp only [hc] at h
  · cases ht : targetOf A c with
    | none => simp [ht] at h
    | some q => obtain ⟨t, vs⟩ := q; simp [ht] at h; exact ⟨_, h.1.symm⟩
  · cases ht : targetOf A c with
    | none => simp [ht] at h
    | some q => obtain ⟨t, vs⟩ := q; simp [ht] at h; exact ⟨_, h.1.symm⟩
  · cases h
theorem aOp_R (h : Rel P r base H w) (hlo : lo ≤ H.next) (hT : TmpR r A.n A.T tmps) {o : Oper} {rs : Rs} {k : Kd} (he : aOp P lo A H o = some (rs, k)) : OpS P lo base r H w (execOp (evT tmps) o) rs ∧ ((∀ c, o.op ≠ .defer c) ∨ ∃ d, rs = .dfr d) := by
  unfold aOp at he
  cases hp : pureOp P A o with
  | some v =>
    rw [hp] at he
    cases he
    obtain ⟨v', q, hy⟩ := pureOp_R hT hp
    refine ⟨⟨r, v', w, hy w, q, Post.refl h⟩, .inl fun c hc => ?_⟩
    rw [pure_defer hc] at hp; cases hp
  | none =>
    rw [hp] at he
    refine ⟨heapOp_R h hlo hT he, ?_⟩
    by_cases hd : ∃ c, o.op = .defer c
    · obtain ⟨c, hc⟩ := hd; exact .inr (heap_defer hc he)
    · exact .inl fun c hc => hd ⟨c, hc⟩
theorem recover_no {kind : CallKind} {K : Par → List Frame} (hK : KOK kind K) (fr : Frame) (hk : fr.kind = kind) (p : Par) (hp : p = none ∨ ∃ v, p = some (v, true)) : tryRecover fr (K p) = none := by
  unfold tryRecover
  rcases hK with ⟨rfl, _⟩ | ⟨rfl, c, rest, hc⟩
  · rw [hk]
  · rw [hk, hc]
    rcases hp with rfl | ⟨v, rfl⟩ <;> rfl
theorem recover_yes {kind : CallKind} {K : Par → List Frame} (hK : KOK kind K) (hn : kind ≠ .normal) (fr : Frame) (hk : fr.kind = kind) (v : Value) : tryRecover fr (K (some (v, false))) = some (v, K (some (v, true))) := by
  unfold tryRecover
  rcases hK with ⟨rfl, _⟩ | ⟨rfl, c, rest, hc⟩
  · exact absurd rfl hn
  · rw [hk, hc, hc]; rfl
theorem ops_R {C : CallF} (hC : CallN P C) {kind : CallKind} {K : Par → List Frame} (hK : KOK kind K) (k : List Item) (ops : Array Oper) : ∀ (l : List Nat) (r : Ren) (w : World) (H : Hp) (A : Fr) (tmps : Array Value) (ds : List Deferred) (p pc : Par) (e : Exit) (A' : Fr) (H' : Hp) (p' : Par),
    runOps P lo C ops l A H p = some (e, A', H', p') → lo ≤ H.next → Rel P r base H w → FrR r A tmps ds rd → ParR r p pc → (kind = .normal → p = none) →
    Ends P lo base r H w (lone (mkF A.fn tmps (.inRegion ops l :: k) ds kind rd) (K pc) w) kind rd K k A e A' H' p' := by
  intro l
  induction l with
  | nil =>
    intro r w H A tmps ds p pc e A' H' p' h hlo hrel hF hp hn
    simp only [runOps] at h
    cases h
    exact ⟨r, w, tmps, ds, pc, Post.refl hrel, hF, .refl _, hp, Steps.one mv_region_end, hn⟩
  | cons i rest ih =>
    intro r w H A tmps ds p pc e A' H' p' h hlo hrel hF hp hn
    simp only [runOps] at h
    cases ho : ops[i]? with
    | none => simp [ho] at h
    | some o =>
      simp only [ho] at h
      cases hw : wantedA ops A o with
      | none => simp [hw] at h
      | some b =>
        have hwr := wanted_R hF.T hw
        -- going on behind a value
        have goOn : ∀ {r1 : Ren} {w1 : World} {H1 : Hp} {A0 A1 : Fr} {ds1 : List Deferred} {p1 pc1 : Par} {v v' : Value} {tm1 : Array Value}, Post P lo base r H w r1 H1 w1 → FrR r1 A0 tm1 ds1 rd → Same A A0 → ParR r1 p1 pc1 → (kind = .normal → p1 = none) →
            VR r1 v v' → A0.put o.dst v = some A1 → runOps P lo C ops rest A1 H1 p1 = some (e, A', H', p') →
            Steps P (lone (mkF A.fn tmps (.inRegion ops (i :: rest) :: k) ds kind rd) (K pc) w) (lone (mkF A.fn (putT tm1 o.dst v') (.inRegion ops rest :: k) ds1 kind rd) (K pc1) w1) →
            Ends P lo base r H w (lone (mkF A.fn tmps (.inRegion ops (i :: rest) :: k) ds kind rd) (K pc) w) kind rd K k A e A' H' p' := by
          intro r1 w1 H1 A0 A1 ds1 p1 pc1 v v' tm1 hpost hF0 hsm hp1 hn1 hv hput hrun hsteps
          obtain ⟨hF1, hs1, _⟩ := put_R hF0 hput hv
          have hsm2 := hsm.trans hs1
          have := ih r1 w1 H1 A1 (putT tm1 o.dst v') ds1 p1 pc1 e A' H' p' hrun (Nat.le_trans hlo hpost.next) hpost.rel hF1 hp1 hn1
          rw [hsm2.fn] at this
          exact Ends.of_steps hsteps (Ends.after hlo hpost hsm2 this)
        cases b with
        | false =>
          simp only [hw] at h
          cases hput : A.put o.dst undef with
          | none => simp [hput] at h
          | some A1 =>
            simp only [hput] at h
            exact goOn (Post.refl hrel) hF (.refl _) hp hn (undef_R r) hput h (Steps.one (mv_passed ho hwr))
        | true =>
          simp only [hw] at h
          cases hop : aOp P lo A H o with
          | none => simp [hop] at h
          | some q =>
            obtain ⟨rs, kd⟩ := q
            obtain ⟨hS, hdef⟩ := aOp_R hrel hlo hF.T hop
            simp only [hop] at h
            cases rs with
            | val v H1 =>
              have hd : rd = none ∨ ∀ c, o.op ≠ .defer c := .inr (hdef.resolve_right fun ⟨d, hd⟩ => by cases hd)
              obtain ⟨r1, v', w1, hr, hv, hpost⟩ := hS
              simp only at h
              cases hput : A.put o.dst v with
              | none => simp [hput] at h
              | some A1 =>
                simp only [hput] at h
                exact goOn hpost (hF.mono hpost.le) (.refl _) (hp.mono hpost.le) hn hv hput h (Steps.one (mv_value ho hwr hd hr))
            | skip H1 =>
              have hd : rd = none ∨ ∀ c, o.op ≠ .defer c := .inr (hdef.resolve_right fun ⟨d, hd⟩ => by cases hd)
              obtain ⟨w1, hr, hpost⟩ := hS
              simp only at h
              cases hput : A.put o.dst undef with
              | none => simp [hput] at h
              | some A1 =>
                simp only [hput] at h
                exact goOn hpost (hF.mono hpost.le) (.refl _) (hp.mono hpost.le) hn (undef_R r) hput h (Steps.one (mv_skipped ho hwr hd hr))
            | dfr d =>
              simp only at h
              cases hrd : A.round with
              | some l => simp [hrd] at h
              | none =>
                have hrd' : rd = none := by have := hF.R; rw [hrd] at this; exact this
                simp only [hrd] at h
                obtain ⟨d', hr, hdr⟩ := hS
                split at h
                rotate_left
                · cases h
                · rename_i A1 hput
                  rw [← hrd] at hput
                  exact goOn (A0 := { A with defers := d :: A.defers }) (Post.refl hrel) ⟨hF.T, .cons hdr hF.D, hF.R⟩ ⟨rfl, rfl, rfl⟩ hp hn (undef_R r) hput h (Steps.one (mv_defer ho hwr (.inl hrd') hr))
            | recov =>
              simp only at h
              cases hrd : A.round with
              | some l => simp [hrd] at h
              | none =>
                have hrd' : rd = none := by have := hF.R; rw [hrd] at this; exact this
                simp only [hrd] at h
                have hr : (execOp (evT tmps) o).run P w = .ok .recover w := hS
                have hd : rd = none ∨ ∀ c, o.op ≠ .defer c := .inl hrd'
                have case0 : ∀ q, (p = none ∨ ∃ v, p = some (v, true)) → A.put o.dst .nilIface = some q → runOps P lo C ops rest q H p = some (e, A', H', p') →
                    Ends P lo base r H w (lone (mkF A.fn tmps (.inRegion ops (i :: rest) :: k) ds kind rd) (K pc) w) kind rd K k A e A' H' p' := fun q hpp hput hrun => by
                  have hpc : pc = none ∨ ∃ v, pc = some (v, true) := by
                    rcases hpp with rfl | ⟨v, rfl⟩
                    · exact .inl hp
                    · obtain ⟨v', _, e⟩ := hp; exact .inr ⟨v', e⟩
                  exact goOn (Post.refl hrel) hF (.refl _) hp hn .nilIface hput hrun (Steps.one (mv_recover_none ho hwr hd hrd' hr (recover_no hK _ rfl pc hpc)))
                cases p with
                | none =>
                  simp only at h
                  cases hput : A.put o.dst .nilIface with
                  | none => simp [hput] at h
                  | some A1 => simp only [hput] at h; exact case0 A1 (.inl rfl) hput h
                | some q =>
                  obtain ⟨v, bb⟩ := q
                  cases bb with
                  | true =>
                    simp only at h
                    cases hput : A.put o.dst .nilIface with
                    | none => simp [hput] at h
                    | some A1 => simp only [hput] at h; exact case0 A1 (.inr ⟨v, rfl⟩) hput h
                  | false =>
                    simp only at h
                    cases hput : A.put o.dst v with
                    | none => simp [hput] at h
                    | some A1 =>
                      simp only [hput] at h
                      obtain ⟨v', hv, rfl⟩ := hp
                      have hnk : kind ≠ .normal := fun q => by have := hn q; cases this
                      exact goOn (p1 := some (v, true)) (pc1 := some (v', true)) (Post.refl hrel) hF (.refl _) ⟨v', hv, rfl⟩ (fun q => absurd q hnk) hv hput h (Steps.one (mv_recover_some ho hwr hd hrd' hr (recover_yes hK hnk _ rfl v')))
            | pan v =>
              have hd : rd = none ∨ ∀ c, o.op ≠ .defer c := .inr (hdef.resolve_right fun ⟨d, hd⟩ => by cases hd)
              obtain ⟨v', hr, hv⟩ := hS
              simp only at h
              cases h
              exact ⟨r, w, tmps, ds, pc, Post.refl hrel, hF, .refl _, hp, ⟨_, v', hv, Steps.one (mv_panic ho hwr hd hr)⟩, hn⟩
            | call t args =>
              have hd : rd = none ∨ ∀ c, o.op ≠ .defer c := .inr (hdef.resolve_right fun ⟨d, hd⟩ => by cases hd)
              obtain ⟨t', args', hr, ht, ha⟩ := hS
              simp only at h
              cases hc : C lo t args H with
              | none => simp [hc] at h
              | some q =>
                obtain ⟨en, H1⟩ := q
                obtain ⟨nx, fr0, hi, hfo, hrest⟩ := hC lo t args H en H1 hc hlo r base w t' args' hrel ht ha
                obtain ⟨r1, w1, hpost, hend⟩ := hrest (mkF A.fn tmps (.inRegion ops (i :: rest) :: k) ds kind rd) (K pc)
                have henter : step P (lone (mkF A.fn tmps (.inRegion ops (i :: rest) :: k) ds kind rd) (K pc) w) = .next (lone fr0 (mkF A.fn tmps (.inRegion ops (i :: rest) :: k) ds kind rd :: K pc) w) := by
                  rw [hi] at hr
                  cases nx <;> simp only [frameOf] at hfo <;> cases hfo
                  · exact mv_enter ho hwr hd hr
                  · exact mv_round ho hwr hd hr
                simp only [hc] at h
                cases en with
                | ret v =>
                  obtain ⟨v', hv, hsteps⟩ := hend
                  simp only at h
                  cases hput : A.put o.dst v with
                  | none => simp [hput] at h
                  | some A1 =>
                    simp only [hput] at h
                    rw [finish_mk v' ho] at hsteps
                    exact goOn hpost (hF.mono hpost.le) (.refl _) (hp.mono hpost.le) hn hv hput h (Steps.head henter hsteps)
                | pan v =>
                  obtain ⟨v', hv, hsteps⟩ := hend
                  simp only at h
                  cases h
                  exact ⟨r1, w1, tmps, ds, pc, hpost, hF.mono hpost.le, .refl _, hp.mono hpost.le, ⟨_, v', hv, Steps.head henter hsteps⟩, hn⟩
end
end Go.Ax

import Derived.Test.YtkdgngdnmgelnaaAxS22
set_option linter.all false
namespace Go.Ax
open Go Go.RowKit
theorem countP_less {p q : Nat → Bool} : ∀ (l : List Nat), (∀ x ∈ l, q x = true → p x = true) → l.countP q ≤ l.countP p
  | [], _ => by simp
  | x :: l, h => by
    have ih := countP_less l (fun y hy => h y (by simp [hy]))
    simp only [List.countP_cons]
    cases hq : q x with
    | false => simp; omega
    | true => rw [h x (by simp) hq]; simp; omega
theorem countP_lt {p q : Nat → Bool} : ∀ (l : List Nat) (a : Nat), a ∈ l → (∀ x ∈ l, q x = true → p x = true) → p a = true → q a = false → l.countP q + 1 ≤ l.countP p
  | [], a, ha, _, _, _ => by cases ha
  | x :: l, a, ha, h, hp, hq => by
    simp only [List.countP_cons]
    by_cases hx : x = a
    · subst hx
      have := countP_less l (fun y hy => h y (by simp [hy]))
      rw [hp, hq]; simp; omega
    · have ih := countP_lt l a (by cases ha with | head => exact absurd rfl hx | tail _ q => exact q) (fun y hy => h y (by simp [hy])) hp hq
      cases hq' : q x with
      | false => simp; omega
      | true => rw [h x (by simp) hq']; simp; omega
def todo (ops : Array Oper) (L : Array Bool) : Nat := (List.range ops.size).countP fun i => !L.getD i false
theorem todo_zero {ops : Array Oper} {L : Array Bool} (h : todo ops L = 0) (i : Nat) (hi : i < ops.size) : Done L i := by
  unfold todo at h
  rw [List.countP_eq_zero] at h
  have := h i (by simpa using hi)
  simpa [Done] using this
theorem todo_set {ops : Array Oper} {L : Array Bool} {i : Nat} (hL : i < L.size) (hi : i < ops.size) (hun : ¬ Done L i) : todo ops (L.setIfInBounds i true) + 1 ≤ todo ops L := by
  unfold todo
  refine countP_lt _ i (by simpa using hi) (fun x _ hx => ?_) (by simpa [Done] using hun) ?_
  · simp only [Bool.not_eq_true', Bool.not_eq_eq_eq_not] at hx ⊢
    cases hd : L.getD x false with
    | false => rfl
    | true =>
      have : Done (L.setIfInBounds i true) x := (done_set hL).2 (.inr hd)
      unfold Done at this
      rw [this] at hx; cases hx
  · have : Done (L.setIfInBounds i true) i := (done_set hL).2 (.inl rfl)
    unfold Done at this
    rw [this]; rfl
section
variable {P : Program} {lo base : Nat} {C : CallF} {ops : Array Oper} {As : Nat → Fr} {Hs : Nat → Hp} {kd : Nat → Kd} {r : Ren} {w : World}
theorem draw_order (hC : CallN P C) (U : Setup P lo C ops ops.size As Hs kd) (k : List Item) (ds : List Deferred) (kind : CallKind) (rd : Option Nat) (cs : List Frame) : ∀ (fuel t : Nat) (L : Array Bool) (s : Nat) (r' : Ren) (w' : World) (tm : Array Value),
    Inv P lo base ops ops.size As Hs kd r w L s r' w' tm → todo ops L ≤ fuel →
    ∃ L2 s2 r2 w2 tm2, Inv P lo base ops ops.size As Hs kd r w L2 s2 r2 w2 tm2 ∧ (∀ i, i < ops.size → Done L2 i) ∧
      Steps P (lone (mkF (As 0).fn tm (.inRegion ops (Region.linearise.go .any ops fuel t L []) :: k) ds kind rd) cs w') (lone (mkF (As 0).fn tm2 (.inRegion ops [] :: k) ds kind rd) cs w2) := by
  intro fuel
  induction fuel with
  | zero =>
    intro t L s r' w' tm h hf
    exact ⟨L, s, r', w', tm, h, todo_zero (by omega), by simp only [Region.linearise.go, List.reverse_nil]; exact Steps.refl _ _⟩
  | succ fuel ih =>
    intro t L s r' w' tm h hf
    have hgo : Region.linearise.go .any ops (fuel + 1) t L [] = match (Region.ready .any ops L)[t % (Region.ready .any ops L).length]? with
      | some i => Region.linearise.go .any ops fuel (t / (Region.ready .any ops L).length) (L.setIfInBounds i true) [i]
      | none => [] := by
      simp only [Region.linearise.go]
      rfl
    cases hi : (Region.ready .any ops L)[t % (Region.ready .any ops L).length]? with
    | none =>
      have hnil : Region.ready .any ops L = [] := by
        cases hr : Region.ready .any ops L with
        | nil => rfl
        | cons x xs =>
          rw [hr] at hi
          have hlt : t % (x :: xs).length < (x :: xs).length := Nat.mod_lt _ (by simp)
          rw [List.getElem?_eq_getElem hlt] at hi
          cases hi
      rw [hgo, hi]
      exact ⟨L, s, r', w', tm, h, none_ready U.S h.size hnil, Steps.refl _ _⟩
    | some i =>
      have hmem := List.mem_of_getElem? hi
      obtain ⟨hlt, hun, o, ho, hr⟩ := ready_iff.1 hmem
      have hLi : i < L.size := by rw [h.size]; exact hlt
      have hun' : ¬ Done L i := by
        unfold Done
        have : L[i]? = some (L[i]'hLi) := Array.getElem?_eq_getElem hLi
        simp only [Array.getD_eq_getD_getElem?, this, Option.getD_some] at hun ⊢
        simp [hun]
      rw [hgo, hi]
      simp only
      rw [linearise_go_acc, List.reverse_singleton, List.singleton_append]
      obtain ⟨s2, r2, w2, v', hs, hinv⟩ := one_step (X := ⟨Region.linearise.go .any ops fuel (t / (Region.ready .any ops L).length) (L.setIfInBounds i true) [], k, ds, kind, rd, cs⟩) hC U h hlt hun' ho hr
      obtain ⟨L3, s3, r3, w3, tm3, h3, hall, hs3⟩ := ih (t / (Region.ready .any ops L).length) (L.setIfInBounds i true) s2 r2 w2 _ hinv (by have := todo_set hLi hlt hun'; omega)
      exact ⟨L3, s3, r3, w3, tm3, h3, hall, hs.trans hs3⟩
theorem draw_until (hC : CallN P C) {n : Nat} (U : Setup P lo C ops n As Hs kd) {kp : Kd} (hkp : PK2 kp) (hcl : ∀ i, i < n → clash kp (kd i) = true → Anc ops n i) (hbe : ∀ j, n < j → j < ops.size → Anc ops j n) {o : Oper} (ho : ops[n]? = some o) {v : Value} {H' : Hp} (hp : PStep P lo C ops o (As n) (Hs n) v H')
    (k : List Item) (ds : List Deferred) (kind : CallKind) (rd : Option Nat) (cs : List Frame) : ∀ (fuel t : Nat) (L : Array Bool) (s : Nat) (r' : Ren) (w' : World) (tm : Array Value),
    Inv P lo base ops n As Hs kd r w L s r' w' tm → (∀ j, n ≤ j → ¬ Done L j) → todo ops L ≤ fuel →
    ∃ r2 w2 tm2 td v', Post P lo base r (Hs 0) w r2 H' w2 ∧ VR r2 v v' ∧ tm2.size = (As 0).n ∧ (∀ t u, (∀ i, i < n → dstAt ops i ≠ some t) → (As 0).T.get t = some u → ∃ u', tm2[t]? = some u' ∧ VR r2 u u') ∧
      Steps P (lone (mkF (As 0).fn tm (.inRegion ops (Region.linearise.go .any ops fuel t L []) :: k) ds kind rd) cs w') (lone { mkF (As 0).fn tm2 td ds kind rd with mode := .panicking [{ v := v', recovered := false }] } cs w2) := by
  have hnlt : n < ops.size := by
    rcases Nat.lt_or_ge n ops.size with q | q
    · exact q
    · rw [Array.getElem?_eq_none q] at ho; cases ho
  intro fuel
  induction fuel with
  | zero =>
    intro t L s r' w' tm h hL hf
    exact absurd (todo_zero (by omega) n hnlt) (hL n (Nat.le_refl _))
  | succ fuel ih =>
    intro t L s r' w' tm h hL hf
    have hgo : Region.linearise.go .any ops (fuel + 1) t L [] = match (Region.ready .any ops L)[t % (Region.ready .any ops L).length]? with
      | some i => Region.linearise.go .any ops fuel (t / (Region.ready .any ops L).length) (L.setIfInBounds i true) [i]
      | none => [] := by
      simp only [Region.linearise.go]
      rfl
    cases hi : (Region.ready .any ops L)[t % (Region.ready .any ops L).length]? with
    | none =>
      exfalso
      have hnil : Region.ready .any ops L = [] := by
        cases hr : Region.ready .any ops L with
        | nil => rfl
        | cons x xs =>
          rw [hr] at hi
          have hlt : t % (x :: xs).length < (x :: xs).length := Nat.mod_lt _ (by simp)
          rw [List.getElem?_eq_getElem hlt] at hi
          cases hi
      exact hL n (Nat.le_refl _) (none_ready U.S h.size hnil n hnlt)
    | some i =>
      have hmem := List.mem_of_getElem? hi
      obtain ⟨hlt, hun, o', ho', hr⟩ := ready_iff.1 hmem
      have hLi : i < L.size := by rw [h.size]; exact hlt
      have hun' : ¬ Done L i := by
        unfold Done
        have : L[i]? = some (L[i]'hLi) := Array.getElem?_eq_getElem hLi
        simp only [Array.getD_eq_getD_getElem?, this, Option.getD_some] at hun ⊢
        simp [hun]
      rw [hgo, hi]
      simp only
      rw [linearise_go_acc, List.reverse_singleton, List.singleton_append]
      by_cases hin : i = n
      · subst hin
        rw [ho] at ho'; cases ho'
        have hTm := h.reads U.S U.T (Nat.le_refl i) ho hun' hr
        have hsi := h.sle
        have hnx := tr_next U.A U.T U.lo i (Nat.le_refl _)
        have hsy : ∀ b, Sync kd i L b i := fun b j hj hw => ⟨fun _ => hj, fun _ => h.ready ho hr (hcl j hj (by rcases hkp with rfl | rfl <;> rcases hw with e | e <;> rw [e] <;> rfl))⟩
        have he1 : r'.below (Hs i).next = r' := below_same (own_top U h)
        have hrel := rel_at h hsi (Nat.le_refl i) hsy
        rw [he1] at hrel
        rw [Nat.max_eq_left (by omega), he1] at hTm
        obtain ⟨hw, hcase⟩ := hp
        rw [← wantedA_cut] at hw
        have hwr := wanted_R hTm hw
        have fin : ∀ (r3 : Ren) (w2 : World) (v' : Value) (td : List Item), Post P lo base r' (Hs i) w' r3 H' w2 → VR r3 v v' → Steps P (lone (mkF (As 0).fn tm (.inRegion ops (i :: Region.linearise.go .any ops fuel (t / (Region.ready .any ops L).length) (L.setIfInBounds i true) []) :: k) ds kind rd) cs w') (lone { mkF (As 0).fn tm td ds kind rd with mode := .panicking [{ v := v', recovered := false }] } cs w2) →
            ∃ r2 w2 tm2 td v', Post P lo base r (Hs 0) w r2 H' w2 ∧ VR r2 v v' ∧ tm2.size = (As 0).n ∧ (∀ t u, (∀ j, j < i → dstAt ops j ≠ some t) → (As 0).T.get t = some u → ∃ u', tm2[t]? = some u' ∧ VR r2 u u') ∧
              Steps P (lone (mkF (As 0).fn tm (.inRegion ops (i :: Region.linearise.go .any ops fuel (t / (Region.ready .any ops L).length) (L.setIfInBounds i true) []) :: k) ds kind rd) cs w') (lone { mkF (As 0).fn tm2 td ds kind rd with mode := .panicking [{ v := v', recovered := false }] } cs w2) := by
          intro r3 w2 v' td hpost hv hs
          have hpk := h.pk.step hpost (Nat.le_refl _) hnx.2 (fun _ _ e => e) hpost.le (fun _ _ e => .inr e)
          refine ⟨r3, w2, tm, td, v', ⟨hpk.le, hpost.rel, Nat.le_trans hnx.2 hpost.next, hpk.place, hpk.keep, fun c hc => (hpost.old c hc).trans (tr_low U.A U.T U.lo (Nat.le_refl _) c hc), hpk.str⟩, hv, h.tsize, fun t u hno hu => ?_, hs⟩
          obtain ⟨u', e, q⟩ := h.tm t 0 (Nat.zero_le _) (fun j hj => by omega) (fun j _ hj hd => absurd hd (hno j hj)) u hu
          exact ⟨u', e, (q.mono (below_le _ _)).mono hpost.le⟩
        rcases hcase with ⟨kk, he, rfl⟩ | ⟨t1, args, kk, lo', he, hlo', hc⟩
        · have hnd := aOp_nodefer he (fun d => by simp)
          rw [← aOp_cut (ops := ops)] at he
          obtain ⟨⟨v', hrun, hv⟩, _⟩ := aOp_R hrel hnx.1 hTm he
          exact fin r' w' v' _ (Post.refl hrel) hv (Steps.one (mv_panic ho hwr (.inr hnd) hrun))
        · have hnd := aOp_nodefer he (fun d => by simp)
          rw [← aOp_cut (ops := ops)] at he
          obtain ⟨⟨t', args', hrun, ht, ha⟩, _⟩ := aOp_R hrel hnx.1 hTm he
          have hl1 : lo ≤ lo' := by rcases hlo' with rfl | rfl <;> first | exact Nat.le_refl _ | exact hnx.1
          have hl2 : lo' ≤ (Hs i).next := by rcases hlo' with rfl | rfl <;> first | exact hnx.1 | exact Nat.le_refl _
          obtain ⟨nx, fr0, hinv, hfo, hrest⟩ := hC _ _ _ _ _ _ hc hl2 r' base w' t' args' hrel ht ha
          obtain ⟨r3, w2, hpost, v', hv, hsteps⟩ := hrest (mkF (As 0).fn tm (.inRegion ops (i :: Region.linearise.go .any ops fuel (t / (Region.ready .any ops L).length) (L.setIfInBounds i true) []) :: k) ds kind rd) cs
          have henter : step P (lone (mkF (As 0).fn tm (.inRegion ops (i :: Region.linearise.go .any ops fuel (t / (Region.ready .any ops L).length) (L.setIfInBounds i true) []) :: k) ds kind rd) cs w') = .next (lone fr0 (mkF (As 0).fn tm (.inRegion ops (i :: Region.linearise.go .any ops fuel (t / (Region.ready .any ops L).length) (L.setIfInBounds i true) []) :: k) ds kind rd :: cs) w') := by
            rw [hinv] at hrun
            cases nx <;> simp only [frameOf] at hfo <;> cases hfo
            · exact mv_enter ho hwr (.inr hnd) hrun
            · exact mv_round ho hwr (.inr hnd) hrun
          exact fin r3 w2 v' _ (hpost.lower hl1) hv (Steps.head henter hsteps)
      · have hiltn : i < n := by
          rcases Nat.lt_or_ge i n with q | q
          · exact q
          · exact absurd (h.ready ho' hr (hbe i (by omega) hlt)) (hL n (Nat.le_refl _))
        obtain ⟨s2, r2, w2, v', hs, hinv⟩ := one_step (X := ⟨Region.linearise.go .any ops fuel (t / (Region.ready .any ops L).length) (L.setIfInBounds i true) [], k, ds, kind, rd, cs⟩) hC U h hiltn hun' ho' hr
        obtain ⟨r3, w3, tm3, td, v3, h1, h2, h3, h4, h5⟩ := ih (t / (Region.ready .any ops L).length) (L.setIfInBounds i true) s2 r2 w2 _ hinv (fun j hj => by
          rw [done_set hLi]
          rintro (q | q)
          · omega
          · exact hL j hj q) (by have := todo_set hLi hlt hun'; omega)
        exact ⟨r3, w3, tm3, td, v3, h1, h2, h3, h4, hs.trans h5⟩
theorem draw_start {n : Nat} (U : Setup P lo C ops n As Hs kd) {tmps : Array Value} {ds : List Deferred} {rd : Option Nat} (hrel : Rel P r base (Hs 0) w) (hF : FrR r (As 0) tmps ds rd) :
    (∀ i, ¬ Done (Array.replicate ops.size false) i) ∧ Inv P lo base ops n As Hs kd r w (Array.replicate ops.size false) 0 r { w with drawn := w.drawn + 1 } tmps := by
  have hdom0 : ∀ b loc, r b = some loc → b < (Hs 0).next := fun b loc e => (hrel.dom b loc e).1
  have hnone : ∀ i, ¬ Done (Array.replicate ops.size false) i := fun i => by
    unfold Done
    simp only [Array.getD_eq_getD_getElem?, Array.getElem?_replicate]
    split <;> simp
  refine ⟨hnone, ?_⟩
  have hT := U.T
  have hbelow : ∀ q, q ≤ n → r.below (Hs q).next = r := fun q hq => below_same fun b loc e => by
    have := tr_mono U.A U.T U.lo (i := 0) (j := q) (by omega) hq
    have := hdom0 b loc e
    omega
  have same : ∀ q, q ≤ n → ∀ b, b < (Hs 0).next → Sync kd n (Array.replicate ops.size false) b q → (Hs q).t.get b = (Hs 0).t.get b := fun q hq b hb hsy => tr_same U (by omega) hq hb fun j h1 h2 hw => hnone j ((hsy j (by omega) hw).2 h2)
  refine ⟨by simp, fun i o _ hd => absurd hd (hnone i), by omega, fun j hj => by omega, fun q h1 h2 => ?_, fun b loc e => .inl (hdom0 b loc e), fun hro b loc e => ?_, fun _ j _ _ hd => absurd hd (hnone j), hrel.top, hF.T.1, ?_, PK.drew _⟩
  · refine ⟨fun b loc e hb hsy => ?_, fun b loc ob e hb hsy eo => ?_, fun b1 b2 l1 l2 f1 f2 g1 g2 s1 s2 f3 v1 v2 => ?_⟩
    · rw [same q h2 b (hdom0 b loc e) hsy]
      exact (hrel.dom b loc e).2
    · rw [hbelow q h2]
      rw [same q h2 b (hdom0 b loc e) hsy] at eo
      exact hrel.cont b loc ob e eo
    · have lv : ∀ b loc, r b = some loc → Sync kd n (Array.replicate ops.size false) b q → live (Hs q) b → live (Hs 0) b := fun b loc e hsy ⟨ob, y1, y2⟩ => ⟨ob, by rw [← same q h2 b (hdom0 b loc e) hsy]; exact y1, y2⟩
      exact hrel.inj b1 b2 l1 l2 f1 f2 f3 (lv _ _ f1 s1 v1) (lv _ _ f2 s2 v2)
  · have hd := (hrel.dom b loc e).2
    cases hg : (Hs 0).t.get b with
    | none => rw [hg] at hd; exact .inl hd.2
    | some ob =>
      cases ob with
      | ro cs => exact .inr ⟨hro b cs (hdom0 b loc e) hg, cs, hg⟩
      | _ => rw [hg] at hd; exact .inl hd.2
  · intro t m hmle h1 h2 v hv
    have hno : ∀ i, i < m → dstAt ops i ≠ some t := fun i hi hd => hnone i (h1 i hi hd)
    have hback : ∀ m, m ≤ n → (∀ i, i < m → dstAt ops i ≠ some t) → (As m).T.get t = (As 0).T.get t := by
      intro m
      induction m with
      | zero => intro _ _; rfl
      | succ m ih =>
        intro x y
        obtain ⟨om, vm, hom, _, hpm⟩ := hT.step m (by omega)
        rw [put_get hpm, if_neg, ih (by omega) (fun i z => y i (by omega))]
        have := y m (by omega)
        simpa [dstAt, hom] using this
    rw [hback m hmle hno] at hv
    rw [hbelow _ (by omega)]
    exact hF.T.2 t v hv
theorem draw_R (hC : CallN P C) (hA : CallA C) (hm : P.follows .mixedOrders = true) {A A' : Fr} {H H' : Hp} (h : drawn P lo C ops A H = some (A', H')) (hlo : lo ≤ H.next) {tmps : Array Value} {ds : List Deferred} {rd : Option Nat} (hrel : Rel P r base H w) (hF : FrR r A tmps ds rd)
    (id : Nat) (k : List Item) (kind : CallKind) (cs : List Frame) : ∃ r' w' tm', Post P lo base r H w r' H' w' ∧ FrR r' A' tm' ds rd ∧ Same A A' ∧
      Steps P (lone (mkF A.fn tmps (.code (.region id ops true) :: k) ds kind rd) cs w) (lone (mkF A.fn tm' k ds kind rd) cs w') := by
  obtain ⟨As, Hs, kd, e1, e2, e3, e4, hT, hS, hcl, hro⟩ := draw_all h
  subst e1 e2
  have U : Setup P lo C ops ops.size As Hs kd := ⟨hA, hS, hT, hcl, hro, hlo⟩
  obtain ⟨_, hstart⟩ := draw_start U hrel hF
  obtain ⟨L2, s2, r2, w2, tm2, hI, hall, hsteps⟩ := draw_order hC U k ds kind rd cs ops.size (w.tape w.drawn (.order (As 0).fn id)) _ _ _ _ _ hstart (by
    unfold todo; have := List.countP_le_length (p := fun i => !(Array.replicate ops.size false).getD i false) (l := List.range ops.size); simpa using this)
  have hb2 : r2.below (Hs ops.size).next = r2 := below_same (own_top U hI)
  have hrel2 := rel_at hI hI.sle (Nat.le_refl _) fun b j hj _ => ⟨fun _ => hj, fun _ => hall j hj⟩
  rw [hb2] at hrel2
  have hfr := tr_frame hT ops.size (Nat.le_refl _)
  subst e3 e4
  refine ⟨r2, w2, tm2, ⟨hI.pk.le, hrel2, tr_mono hA hT hlo (by omega) (by omega), hI.pk.place, hI.pk.keep, tr_low hA hT hlo (Nat.le_refl _), hI.pk.str⟩, ⟨⟨?_, fun t v hv => ?_⟩, ?_, ?_⟩, ⟨hfr.1, hfr.2.1, hfr.2.2.2⟩, ?_⟩
  · rw [hI.tsize, hfr.2.1]
  · have := hI.tm t ops.size (Nat.le_refl _) (fun i hi _ => hall i hi) (fun i x y => by omega) v hv
    rw [Nat.max_eq_left hI.sle, hb2] at this
    exact this
  · rw [hfr.2.2.1]; exact hF.D.mono hI.pk.le
  · rw [hfr.2.2.2]; exact hF.R.mono hI.pk.le
  · refine Steps.head mv_draw (Steps.trans ?_ (Steps.one (mv_region_end (ops := ops))))
    simp only [Region.schedule, hm, Bool.true_or, if_true]
    exact hsteps
theorem draw_P (hC : CallN P C) (hA : CallA C) (hm : P.follows .mixedOrders = true) {A : Fr} {H H' : Hp} {v : Value} (h : drawnP P lo C ops A H = some (v, H')) (hlo : lo ≤ H.next) {tmps : Array Value} {ds : List Deferred} {rd : Option Nat} (hrel : Rel P r base H w) (hF : FrR r A tmps ds rd)
    (id : Nat) (k : List Item) (kind : CallKind) (cs : List Frame) : ∃ r' w' tm' td v', Post P lo base r H w r' H' w' ∧ VR r' v v' ∧ FrR r' (A.drop (dstsOf ops)) tm' ds rd ∧
      Steps P (lone (mkF A.fn tmps (.code (.region id ops true) :: k) ds kind rd) cs w) (lone { mkF A.fn tm' td ds kind rd with mode := .panicking [{ v := v', recovered := false }] } cs w') := by
  obtain ⟨n, As, Hs, kd, o, e1, e2, hT, hS, hcl, hbe, hkn, ho, hp⟩ := draw_allP h
  subst e1 e2
  have U : Setup P lo C ops n As Hs kd := ⟨hA, hS, hT, fun i j a b c => hcl i j a (by omega) (clashR_le c), .inr fun i j a b c => hcl i j a (by omega) c, hlo⟩
  obtain ⟨hnone, hstart⟩ := draw_start U hrel hF
  obtain ⟨r2, w2, tm2, td, v', h1, h2, h3, h4, h5⟩ := draw_until hC U hkn (fun i hi hc => hcl i n hi (Nat.le_refl _) hc) hbe ho hp k ds kind rd cs ops.size (w.tape w.drawn (.order (As 0).fn id)) _ _ _ _ _ hstart (fun j _ => hnone j) (by
    unfold todo; have := List.countP_le_length (p := fun i => !(Array.replicate ops.size false).getD i false) (l := List.range ops.size); simpa using this)
  refine ⟨r2, w2, tm2, td, v', h1, h2, ⟨⟨h3, fun t u hu => ?_⟩, hF.D.mono h1.le, hF.R.mono h1.le⟩, ?_⟩
  · simp only [Fr.drop, delT_get] at hu
    by_cases hd : t ∈ dstsOf ops
    · rw [if_pos hd] at hu; cases hu
    · rw [if_neg hd] at hu
      refine h4 t u (fun i _ hi => hd ?_) hu
      unfold dstAt at hi
      cases hoi : ops[i]? with
      | none => rw [hoi] at hi; cases hi
      | some oi =>
        rw [hoi] at hi
        unfold dstsOf
        exact List.mem_filterMap.2 ⟨oi, by have := Array.mem_of_getElem? hoi; simpa using this, hi⟩
  · refine Steps.head mv_draw ?_
    simp only [Region.schedule, hm, Bool.true_or, if_true]
    exact h5
end
end Go.Ax

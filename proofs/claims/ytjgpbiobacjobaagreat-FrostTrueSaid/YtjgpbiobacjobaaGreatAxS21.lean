import Derived.Test.YtjgpbiobacjobaaGreatAxS20
set_option linter.all false
namespace Go.Ax
open Go Go.RowKit

/-- Where a drawn region stands: what is still to come, the frame, the callers. -/
structure Cx where
  rest : List Nat
  k : List Item
  ds : List Deferred
  kind : CallKind
  rd : Option Nat
  cs : List Frame
/-- What one operation of a drawn region does to the machine. -/
def OneStep (X : Cx) (P : Program) (fn : FuncId) (ops : Array Oper) (i : Nat) (tm : Array Value) (w : World) (o : Oper) (v' : Value) (w2 : World) : Prop :=
  Steps P (lone (mkF fn tm (.inRegion ops (i :: X.rest) :: X.k) X.ds X.kind X.rd) X.cs w) (lone (mkF fn (putT tm o.dst v') (.inRegion ops X.rest :: X.k) X.ds X.kind X.rd) X.cs w2)

theorem clash_EE {a b : Kd} (ha : calm a = false) (hb : calm b = false) : clash a b = true := by
  cases a <;> cases b <;> simp [calm] at ha hb <;> rfl
theorem clash_HE {b : Kd} (hb : calm b = false) : clash .heavy b = true ∧ clash b .heavy = true := by
  cases b <;> simp [calm] at hb <;> exact ⟨rfl, rfl⟩
theorem noclash_read {c : Kd} {b : Nat} (hc : calm c = false) (h : clash c (.read b) = false ∨ clash (.read b) c = false) : ∃ x, c = .store x ∧ x ≠ b := by
  cases c with
  | store x =>
    refine ⟨x, rfl, fun e => ?_⟩
    subst e
    rcases h with h | h <;> simp [clash, Nat.beq_refl] at h
  | full => rcases h with h | h <;> simp [clash] at h
  | _ => cases hc

section
variable {P : Program} {lo base : Nat} {C : CallF} {ops : Array Oper} {n : Nat} {As : Nat → Fr} {Hs : Nat → Hp} {kd : Nat → Kd} {r : Ren} {w : World}
variable {L : Array Bool} {s p : Nat} {r' : Ren} {w' : World} {tm : Array Value} {X : Cx}

theorem runs_value {o : Oper} {fn : FuncId} {tm : Array Value} {i : Nat} {w w2 : World} {v' : Value} (ho : ops[i]? = some o) (hw : Region.wanted o (yielded ops tm) = true) (hd : ∀ c, o.op ≠ .defer c) (hr : (execOp (evT tm) o).run P w = .ok (.value v') w2) : OneStep X P fn ops i tm w o v' w2 :=
  Steps.one (mv_value ho hw (.inr hd) hr)

theorem Inv.dom (hA : CallA C) (hT : Trace P lo C ops As Hs kd n) (hcl : ∀ i j, i < j → j < n → clash (kd j) (kd i) = true → Anc ops j i) (hlo : lo ≤ (Hs 0).next)
    (h : Inv P lo base ops n As Hs kd r w L s p r' w' tm) : ∀ b loc, r' b = some loc → b < (Hs p).next := by
  intro b loc e
  rcases h.own b loc e with q | ⟨j, a, b', c, d⟩
  · have := tr_mono hA hT hlo (i := 0) (j := p) (by omega) h.ple; omega
  · rcases Nat.lt_or_ge j p with q | q
    · have := tr_mono hA hT hlo (i := j + 1) (j := p) q h.ple; omega
    · exfalso
      have hp : p < n := by omega
      obtain ⟨hE, hnd⟩ := h.pE hp
      by_cases hjp : j = p
      · subst hjp; exact hnd b'
      · have hch := tr_chg hA hT hlo (j := j) a
        refine hnd (h.anc (hcl p j (by omega) a ?_) b')
        cases hk : kd j with
        | pure => rw [hk] at hch; rw [show Hs (j + 1) = Hs j from hch] at d; omega
        | read x => rw [hk] at hch; rw [show Hs (j + 1) = Hs j from hch] at d; omega
        | heavy => exact (clash_HE hE).1
        | store x => exact clash_EE rfl hE
        | full => exact clash_EE rfl hE

structure Setup (P : Program) (lo : Nat) (C : CallF) (ops : Array Oper) (n : Nat) (As : Nat → Fr) (Hs : Nat → Hp) (kd : Nat → Kd) : Prop where
  A : CallA C
  S : RegS ops
  T : Trace P lo C ops As Hs kd n
  cl : ∀ i j, i < j → j < n → clash (kd j) (kd i) = true → Anc ops j i
  lo : lo ≤ (Hs 0).next

/-- An operation that leaves memory alone. -/
theorem step_light (U : Setup P lo C ops n As Hs kd) (h : Inv P lo base ops n As Hs kd r w L s p r' w' tm) {i : Nat} (hi : i < n) (hun : ¬ Done L i) {o : Oper} {v : Value} (ho : ops[i]? = some o) (hr : ∀ e ∈ o.after, Region.binds .any e = true → Done L e.on)
    (hput : (As i).put o.dst v = some (As (i + 1))) (hc : kd i = .pure ∨ ∃ b, kd i = .read b) {v' : Value} (hv : VR (r'.below (Hs (max i s)).next) v v') (hs : OneStep X P (As 0).fn ops i tm w' o v' w') :
    ∃ s2 p2 r2 w2 v', OneStep X P (As 0).fn ops i tm w' o v' w2 ∧ Inv P lo base ops n As Hs kd r w (L.setIfInBounds i true) s2 p2 r2 w2 (putT tm o.dst v') := by
  have hcalm : calm (kd i) = true := by rcases hc with q | ⟨b, q⟩ <;> rw [q] <;> rfl
  have hpi : p < n → p ≠ i := fun hp e => by
    subst e
    have := (h.pE hp).1
    rw [hcalm] at this; cases this
  have hsame : Hs (i + 1) = Hs i := by
    have hch := tr_chg U.A U.T U.lo (j := i) hi
    rcases hc with q | ⟨b, q⟩ <;> rw [q] at hch <;> exact hch
  have hmax : (Hs (max (i + 1) s)).next = (Hs (max i s)).next := by
    rcases Nat.lt_or_ge i s with q | q
    · rw [Nat.max_eq_right q, Nat.max_eq_right (by omega)]
    · rw [Nat.max_eq_left (by omega), Nat.max_eq_left q, hsame]
  exact ⟨s, p, r', w', v', hs, h.next U.A U.lo U.S U.T hi ho hun hr hput (Nat.le_refl _) h.sle h.scalm (fun j hj hk => .inr (h.sdone j hj hk)) h.ple (fun hlt => ⟨(h.pE hlt).1, hpi hlt, (h.pE hlt).2⟩) (fun j hj hcj => .inr (h.pbelow j hj hcj)) h.rels (.refl _)
    (fun _ _ e => .inl e) (by rw [hmax]; exact hv) h.pk⟩

/-- Where an operation stands that makes new blocks alone. -/
theorem heavy_at (U : Setup P lo C ops n As Hs kd) (h : Inv P lo base ops n As Hs kd r w L s p r' w' tm) {i : Nat} (hi : i < n) (hun : ¬ Done L i) {o : Oper} (ho : ops[i]? = some o) (hr : ∀ e ∈ o.after, Region.binds .any e = true → Done L e.on)
    (hk : kd i = .heavy) : s ≤ i ∧ i < p := by
  constructor
  · rcases Nat.lt_or_ge i s with q | q
    · exact absurd (h.sdone i q hk) hun
    · exact q
  · rcases Nat.lt_or_ge i p with q | q
    · exact q
    · exfalso
      have hE := h.pE (by omega)
      by_cases hpi : p = i
      · subst hpi; rw [hk] at hE; cases hE.1
      · exact hE.2 (h.ready ho hr (U.cl p i (by omega) hi (by rw [hk]; exact (clash_HE hE.1).1)))

/-- An operation that makes new blocks alone. -/
theorem step_heavy (U : Setup P lo C ops n As Hs kd) (h : Inv P lo base ops n As Hs kd r w L s p r' w' tm) {i : Nat} (hi : i < n) (hun : ¬ Done L i) {o : Oper} {v : Value} (ho : ops[i]? = some o) (hr : ∀ e ∈ o.after, Region.binds .any e = true → Done L e.on)
    (hput : (As i).put o.dst v = some (As (i + 1))) (hk : kd i = .heavy) {r3 : Ren} {w2 : World} {v' : Value} (hpost : Post P (Hs i).next base (r'.below (Hs i).next) (Hs i) w' r3 (Hs (i + 1)) w2) (hv : VR r3 v v') (hs : OneStep X P (As 0).fn ops i tm w' o v' w2) :
    ∃ s2 p2 r2 w2 v', OneStep X P (As 0).fn ops i tm w' o v' w2 ∧ Inv P lo base ops n As Hs kd r w (L.setIfInBounds i true) s2 p2 r2 w2 (putT tm o.dst v') := by
  obtain ⟨hsi, hip⟩ := heavy_at U h hi hun ho hr hk
  have hnx := tr_next U.A U.T U.lo i (by omega)
  have hmono := tr_mono U.A U.T U.lo (i := i) (j := i + 1) (by omega) (by omega)
  have hag : ∀ q, i + 1 ≤ q → q ≤ p → ∀ c, c < (Hs (i + 1)).next → (Hs q).t.get c = (Hs (i + 1)).t.get c := fun q h1 h2 =>
    tr_agree U.A U.T U.lo h1 (by have := h.ple; omega) (fun j a b => h.scalm j (by omega) (by omega))
  -- whose blocks are new
  have hnewr : ∀ b loc, r' b = some loc → (Hs i).next ≤ b → (Hs (i + 1)).next ≤ b := fun b loc e hb => by
    rcases h.own b loc e with q | ⟨j, a, b', c, d⟩
    · have := tr_mono U.A U.T U.lo (i := 0) (j := i) (by omega) (by omega); omega
    · by_cases hji : j = i
      · subst hji; exact absurd b' hun
      · rcases Nat.lt_or_ge j i with q | q
        · have := tr_mono U.A U.T U.lo (i := j + 1) (j := i) (by omega) (by omega); omega
        · have := tr_mono U.A U.T U.lo (i := i + 1) (j := j) (by omega) (by omega); omega
  have h3 : ∀ b loc, r3 b = some loc → (b < (Hs i).next ∧ r' b = some loc) ∨ ((Hs i).next ≤ b ∧ b < (Hs (i + 1)).next ∧ w'.heap.size ≤ loc.blk) := fun b loc e => by
    have hdom := (hpost.rel.dom b loc e).1
    rcases hpost.place b loc e with q | ⟨q1, q2⟩
    · exact .inl (below_some q)
    · refine .inr ⟨q1, hdom, ?_⟩
      rcases q2 with q2 | ⟨b0, l0, f1, f2, f3⟩
      · exact q2
      · have := (below_some f1).1; omega
  let r2 : Ren := fun b => match r' b with | some l => some l | none => r3 b
  have hle1 : Ren.Le r' r2 := fun b loc e => by simp only [r2, e]
  have hle3 : Ren.Le r3 r2 := fun b loc e => by
    rcases h3 b loc e with ⟨_, q⟩ | ⟨q1, q2, _⟩
    · simp only [r2, q]
    · cases hr' : r' b with
      | none => simp only [r2, hr', e]
      | some l => have := hnewr b l hr' q1; omega
  have hle3' : Ren.Le r3 (r2.below (Hs (i + 1)).next) := fun b loc e => below_mk (hpost.rel.dom b loc e).1 (hle3 b loc e)
  have hsplit : ∀ b loc, r2 b = some loc → r' b = some loc ∨ (r' b = none ∧ r3 b = some loc) := fun b loc e => by
    simp only [r2] at e
    cases hr' : r' b with
    | none => rw [hr'] at e; exact .inr ⟨rfl, e⟩
    | some l => rw [hr'] at e; cases e; exact .inl rfl
  have hnew3 : ∀ b loc, r' b = none → r3 b = some loc → (Hs i).next ≤ b ∧ b < (Hs (i + 1)).next ∧ w'.heap.size ≤ loc.blk := fun b loc e1 e2 => by
    rcases h3 b loc e2 with ⟨_, q⟩ | q
    · rw [e1] at q; cases q
    · exact q
  have hkeep : ∀ k, k < w'.heap.size → w2.heap[k]? = w'.heap[k]? := fun k hk => hpost.keep k hk fun b loc e _ => (below_some e).1
  have hrels : ∀ q, s ≤ q → q ≤ p → Rel P (r2.below (Hs q).next) base (Hs q) w2 := by
    intro q hsq hqp
    have hR := h.rels q hsq hqp
    have hqmono : q ≤ i → (Hs q).next ≤ (Hs i).next := fun hq => tr_mono U.A U.T U.lo hq (by omega)
    refine ⟨fun b loc e => ?_, fun b loc ob e eo => ?_, fun b1 b2 l1 l2 e1 e2 e3 v1 v2 => ?_, Nat.le_trans hR.top hpost.str.size⟩
    · obtain ⟨hb, e⟩ := below_some e
      rcases hsplit b loc e with q' | ⟨q1, q2⟩
      · obtain ⟨a, c⟩ := hR.dom b loc (below_mk hb q')
        exact ⟨a, c.more hpost.str.size⟩
      · obtain ⟨_, d⟩ := hpost.rel.dom b loc q2
        obtain ⟨x1, x2, _⟩ := hnew3 b loc q1 q2
        have hq : i + 1 ≤ q := by
          rcases Nat.lt_or_ge i q with x | x
          · exact x
          · have := hqmono x; omega
        refine ⟨hb, ?_⟩
        rw [hag q hq hqp b x2]; exact d
    · obtain ⟨hb, e⟩ := below_some e
      rcases hsplit b loc e with q' | ⟨q1, q2⟩
      · have hb' := below_mk hb q'
        have hdm := (hR.dom b loc hb').2
        rw [eo] at hdm
        exact ((hR.cont b loc ob hb' eo).keep hdm hR.top (hkeep _)).mono (below_mono hle1 (Nat.le_refl _))
      · obtain ⟨a, b', c⟩ := hnew3 b loc q1 q2
        have hq : i + 1 ≤ q := by
          rcases Nat.lt_or_ge i q with x | x
          · exact x
          · have := hqmono x; omega
        rw [hag q hq hqp b b'] at eo
        have hm2 := tr_mono U.A U.T U.lo hq (by have := h.ple; omega)
        exact (hpost.rel.cont b loc ob q2 eo).mono (hle3'.trans (below_mono (.refl _) hm2))
    · obtain ⟨hb1, e1⟩ := below_some e1
      obtain ⟨hb2, e2⟩ := below_some e2
      have live3 : ∀ b, b < (Hs (i + 1)).next → (Hs i).next ≤ b → b < (Hs q).next → live (Hs q) b → live (Hs (i + 1)) b := fun b hb ha hbq ⟨ob, x, y⟩ => by
        have hq : i + 1 ≤ q := by
          rcases Nat.lt_or_ge i q with x | x
          · exact x
          · have := hqmono x; omega
        exact ⟨ob, by rw [← hag q hq hqp b hb]; exact x, y⟩
      rcases hsplit b1 l1 e1 with q' | ⟨q1, q2⟩ <;> rcases hsplit b2 l2 e2 with p1 | ⟨p1, p2⟩
      · exact hR.inj b1 b2 l1 l2 (below_mk hb1 q') (below_mk hb2 p1) e3 v1 v2
      · have := (hR.liveAt (below_mk hb1 q') v1).2
        have := (hnew3 b2 l2 p1 p2).2.2
        omega
      · have := (hR.liveAt (below_mk hb2 p1) v2).2
        have := (hnew3 b1 l1 q1 q2).2.2
        omega
      · obtain ⟨x1, x2, _⟩ := hnew3 b1 l1 q1 q2
        obtain ⟨y1, y2, _⟩ := hnew3 b2 l2 p1 p2
        exact hpost.rel.inj b1 b2 l1 l2 q2 p2 e3 (live3 _ x2 x1 hb1 v1) (live3 _ y2 y1 hb2 v2)
  have hpk2 : PK lo r (Hs 0).next w r2 w2 := h.pk.step hpost hnx.1 hnx.2 (fun b loc e => (below_some e).2) hle1 (fun b loc e => by
    rcases hsplit b loc e with q | ⟨_, q⟩
    · exact .inl q
    · exact .inr q)
  refine ⟨s, p, r2, w2, v', hs, h.next U.A U.lo U.S U.T hi ho hun hr hput (Nat.le_refl _) h.sle h.scalm (fun j hj hk => .inr (h.sdone j hj hk)) h.ple (fun hlt => ⟨(h.pE hlt).1, by omega, (h.pE hlt).2⟩) (fun j hj hcj => .inr (h.pbelow j hj hcj)) hrels hle1 (fun b loc e => by
    rcases hsplit b loc e with q | ⟨q1, q2⟩
    · exact .inl q
    · obtain ⟨a, b', _⟩ := hnew3 b loc q1 q2; exact .inr ⟨a, b'⟩) ?_ hpk2⟩
  rw [Nat.max_eq_left (by omega)]
  exact hv.mono hle3'

/-- Where a write stands. -/
theorem full_at (U : Setup P lo C ops n As Hs kd) (h : Inv P lo base ops n As Hs kd r w L s p r' w' tm) {i : Nat} (hi : i < n) (hun : ¬ Done L i) {o : Oper} (ho : ops[i]? = some o) (hr : ∀ e ∈ o.after, Region.binds .any e = true → Done L e.on)
    (hk : calm (kd i) = false) : p = i := by
  have h1 : p ≤ i := by
    rcases Nat.lt_or_ge i p with q | q
    · exact absurd (h.pbelow i q hk) hun
    · exact q
  by_cases hpi : p = i
  · exact hpi
  · exfalso
    have hE := h.pE (by omega)
    exact hE.2 (h.ready ho hr (U.cl p i (by omega) hi (clash_EE hk hE.1)))
theorem full_rel (U : Setup P lo C ops n As Hs kd) (h : Inv P lo base ops n As Hs kd r w L s p r' w' tm) : r'.below (Hs p).next = r' ∧ Rel P r' base (Hs p) w' := by
  have e := below_same (h.dom U.A U.T U.cl U.lo)
  refine ⟨e, ?_⟩
  have := h.rels p h.sle (Nat.le_refl _)
  rwa [e] at this

/-- A write, or whatever else. -/
theorem step_full (U : Setup P lo C ops n As Hs kd) (h : Inv P lo base ops n As Hs kd r w L s p r' w' tm) {i : Nat} (hi : i < n) (hun : ¬ Done L i) {o : Oper} {v : Value} (ho : ops[i]? = some o) (hr : ∀ e ∈ o.after, Region.binds .any e = true → Done L e.on)
    (hput : (As i).put o.dst v = some (As (i + 1))) (hk : calm (kd i) = false) {r3 : Ren} {w2 : World} {v' : Value} (hpost : Post P lo base r' (Hs i) w' r3 (Hs (i + 1)) w2) (hv : VR r3 v v') (hs : OneStep X P (As 0).fn ops i tm w' o v' w2) :
    ∃ s2 p2 r2 w2 v', OneStep X P (As 0).fn ops i tm w' o v' w2 ∧ Inv P lo base ops n As Hs kd r w (L.setIfInBounds i true) s2 p2 r2 w2 (putT tm o.dst v') := by
  have hpi := full_at U h hi hun ho hr hk
  have hnx := tr_next U.A U.T U.lo i (by omega)
  obtain ⟨p2, a, b, c, d⟩ := exists_next (fun j => calm (kd j) = false) (n - (i + 1)) (i + 1) n rfl (by omega)
  have hcalm : ∀ j, i + 1 ≤ j → j < p2 → calm (kd j) = true := fun j x y => by
    have := d j x y
    cases hc : calm (kd j) with
    | true => rfl
    | false => exact absurd hc this
  have hdom3 : ∀ b loc, r3 b = some loc → b < (Hs (i + 1)).next := fun b loc e => (hpost.rel.dom b loc e).1
  have hrels : ∀ q, i + 1 ≤ q → q ≤ p2 → Rel P (r3.below (Hs q).next) base (Hs q) w2 := fun q x y => by
    have hm := tr_mono U.A U.T U.lo (i := i + 1) (j := q) x (by omega)
    rw [below_same fun b loc e => by have := hdom3 b loc e; omega]
    have hag := tr_agree U.A U.T U.lo x (by omega) (fun j u t => hcalm j u (by omega))
    refine ⟨fun b loc e => ?_, fun b loc ob e eo => ?_, fun b1 b2 l1 l2 e1 e2 e3 v1 v2 => ?_, hpost.rel.top⟩
    · obtain ⟨x1, x2⟩ := hpost.rel.dom b loc e; exact ⟨by omega, by rw [hag b x1]; exact x2⟩
    · rw [hag b (hdom3 b loc e)] at eo; exact hpost.rel.cont b loc ob e eo
    · have lv : ∀ b loc, r3 b = some loc → live (Hs q) b → live (Hs (i + 1)) b := fun b loc e ⟨ob, y1, y2⟩ => ⟨ob, by rw [← hag b (hdom3 b loc e)]; exact y1, y2⟩
      exact hpost.rel.inj b1 b2 l1 l2 e1 e2 e3 (lv _ _ e1 v1) (lv _ _ e2 v2)
  refine ⟨i + 1, p2, r3, w2, v', hs, h.next U.A U.lo U.S U.T hi ho hun hr hput (by have := h.sle; omega) a hcalm (fun j hj hkj => ?_) b (fun hlt => ⟨c hlt, by omega, fun hdn => ?_⟩) (fun j hj hcj => ?_) hrels hpost.le (fun b loc e => ?_) ?_
    (h.pk.step hpost (Nat.le_refl _) hnx.2 (fun _ _ e => e) hpost.le (fun _ _ e => .inr e))⟩
  · by_cases hji : j = i
    · exact .inl hji
    · exact .inr (h.ready ho hr (U.cl j i (by omega) hi (by rw [hkj]; exact (clash_HE hk).2)))
  · exact hun (h.anc (U.cl i p2 (by omega) hlt (clash_EE (c hlt) hk)) hdn)
  · by_cases hji : j = i
    · exact .inl hji
    · rcases Nat.lt_or_ge j i with q | q
      · exact .inr (h.pbelow j (by omega) hcj)
      · exact absurd hcj (d j (by omega) hj)
  · rcases hpost.place b loc e with q | ⟨q, _⟩
    · exact .inl q
    · exact .inr ⟨q, hdom3 b loc e⟩
  · rw [Nat.max_eq_left (by omega), below_same hdom3]
    exact hv
end
end Go.Ax

import Derived.Test.YtkdgngdnmgelnaaAxS20
set_option linter.all false
namespace Go.Ax
open Go Go.RowKit
structure Cx where
  rest : List Nat
  k : List Item
  ds : List Deferred
  kind : CallKind
  rd : Option Nat
  cs : List Frame
def OneStep (X : Cx) (P : Program) (fn : FuncId) (ops : Array Oper) (i : Nat) (tm : Array Value) (w : World) (o : Oper) (v' : Value) (w2 : World) : Prop :=
  Steps P (lone (mkF fn tm (.inRegion ops (i :: X.rest) :: X.k) X.ds X.kind X.rd) X.cs w) (lone (mkF fn (putT tm o.dst v') (.inRegion ops X.rest :: X.k) X.ds X.kind X.rd) X.cs w2)
theorem clash_EE {a b : Kd} (ha : calm a = false) (hb : calm b = false) : clashR a b = true := by
  cases a <;> cases b <;> simp [calm] at ha hb <;> rfl
theorem clash_HE {b : Kd} (hb : calm b = false) : clashR .heavy b = true ∧ clashR b .heavy = true := by
  cases b <;> simp [calm] at hb <;> exact ⟨rfl, rfl⟩
theorem noclash_read {c : Kd} {b : Nat} (hc : calm c = false) (h : clashR c (.read b) = false ∨ clashR (.read b) c = false) : ∃ x, c = .store x ∧ x ≠ b := by
  cases c with
  | store x =>
    refine ⟨x, rfl, fun e => ?_⟩
    subst e
    rcases h with h | h <;> simp [clashR, clash, Nat.beq_refl] at h
  | full => rcases h with h | h <;> simp [clashR, clash] at h
  | _ => cases hc
theorem Wr.calm {k : Kd} {b : Nat} (h : Wr k b) : calm k = false := by rcases h with rfl | rfl <;> rfl
theorem wr_read {k : Kd} {b : Nat} (h : Wr k b) : clashR k (.read b) = true ∧ clashR (.read b) k = true := by
  rcases h with rfl | rfl <;> simp [clashR, clash, Nat.beq_refl]
theorem wr_mk {k : Kd} {b : Nat} (h : Wr k b) : clashR k (.mk b) = true ∧ clashR (.mk b) k = true := by
  rcases h with rfl | rfl <;> simp [clashR, clash, Nat.beq_refl]
section
variable {P : Program} {lo base : Nat} {C : CallF} {ops : Array Oper} {n : Nat} {As : Nat → Fr} {Hs : Nat → Hp} {kd : Nat → Kd} {r : Ren} {w : World}
variable {L : Array Bool} {s : Nat} {r' : Ren} {w' : World} {tm : Array Value} {X : Cx}
theorem runs_value {o : Oper} {fn : FuncId} {tm : Array Value} {i : Nat} {w w2 : World} {v' : Value} (ho : ops[i]? = some o) (hw : Region.wanted o (yielded ops tm) = true) (hd : ∀ c, o.op ≠ .defer c) (hr : (execOp (evT tm) o).run P w = .ok (.value v') w2) : OneStep X P fn ops i tm w o v' w2 :=
  Steps.one (mv_value ho hw (.inr hd) hr)
structure Setup (P : Program) (lo : Nat) (C : CallF) (ops : Array Oper) (n : Nat) (As : Nat → Fr) (Hs : Nat → Hp) (kd : Nat → Kd) : Prop where
  A : CallA C
  S : RegS ops
  T : Trace P lo C ops As Hs kd n
  cl : ∀ i j, i < j → j < n → clashR (kd j) (kd i) = true → Anc ops j i
  ro : RoLow lo (Hs 0) ∨ ∀ i j, i < j → j < n → clash (kd j) (kd i) = true → Anc ops j i
  lo : lo ≤ (Hs 0).next
theorem tr_same (U : Setup P lo C ops n As Hs kd) {b i q : Nat} (hiq : i ≤ q) (hq : q ≤ n) (hb : b < (Hs i).next) (hw : ∀ j, i ≤ j → j < q → ¬ Wr (kd j) b) : (Hs q).t.get b = (Hs i).t.get b :=
  tr_block U.A U.T U.lo hiq hq hb fun j h1 h2 => by
    cases hk : kd j with
    | store c => exact .inr ⟨c, rfl, fun e => hw j h1 h2 (.inl (by rw [hk, e]))⟩
    | full => exact absurd (.inr hk) (hw j h1 h2)
    | _ => exact .inl rfl
theorem sync_same (U : Setup P lo C ops n As Hs kd) {b q1 q2 : Nat} (h12 : q1 ≤ q2) (hq : q2 ≤ n) (hb : b < (Hs q1).next) (s1 : Sync kd n L b q1) (s2 : Sync kd n L b q2) : (Hs q2).t.get b = (Hs q1).t.get b :=
  tr_same U h12 hq hb fun j h1 h2 hw => by
    have a := (s2 j (by omega) hw).2 h2
    have := (s1 j (by omega) hw).1 a
    omega
theorem sync_set {i b q : Nat} (hLi : i < L.size) (hnw : ¬ Wr (kd i) b) : Sync kd n (L.setIfInBounds i true) b q ↔ Sync kd n L b q := by
  unfold Sync
  refine forall_congr' fun j => forall_congr' fun hj => forall_congr' fun hw => ?_
  rw [done_set hLi]
  have : j ≠ i := fun e => hnw (e ▸ hw)
  simp [this]
theorem own_at (U : Setup P lo C ops n As Hs kd) (h : Inv P lo base ops n As Hs kd r w L s r' w' tm) {i : Nat} (hi : i < n) (hun : ¬ Done L i) {b : Nat} {loc : Loc} (e : r' b = some loc) (hb : (Hs i).next ≤ b) :
    (Hs (i + 1)).next ≤ b ∧ ∃ j, i < j ∧ j < n ∧ Done L j ∧ (Hs j).next ≤ b ∧ b < (Hs (j + 1)).next := by
  rcases h.own b loc e with q | ⟨j, a, b', c, d⟩
  · have := tr_mono U.A U.T U.lo (i := 0) (j := i) (by omega) (by omega); omega
  · by_cases hji : j = i
    · subst hji; exact absurd b' hun
    · rcases Nat.lt_or_ge j i with q | q
      · have := tr_mono U.A U.T U.lo (i := j + 1) (j := i) (by omega) (by omega); omega
      · have := tr_mono U.A U.T U.lo (i := i + 1) (j := j) (by omega) (by omega)
        exact ⟨by omega, j, by omega, a, b', c, d⟩
theorem own_top (U : Setup P lo C ops n As Hs kd) (h : Inv P lo base ops n As Hs kd r w L s r' w' tm) : ∀ b loc, r' b = some loc → b < (Hs n).next := by
  intro b loc e
  rcases h.own b loc e with q | ⟨j, a, _, _, d⟩
  · have := tr_mono U.A U.T U.lo (i := 0) (j := n) (by omega) (by omega); omega
  · have := tr_mono U.A U.T U.lo (i := j + 1) (j := n) (by omega) (by omega); omega
theorem mk_block (U : Setup P lo C ops n As Hs kd) {j b : Nat} (hj : j < n) (hk : kd j = .mk b) : b = (Hs j).next ∧ (Hs (j + 1)).next = b + 1 ∧ ∃ cs e, (Hs (j + 1)).t.get b = some (.cells cs e false) := by
  have := tr_chg U.A U.T U.lo hj
  rw [hk] at this
  obtain ⟨e1, cs, e, e2⟩ := this
  refine ⟨e1, by rw [e2, e1]; rfl, cs, e, ?_⟩
  rw [e2, e1]
  simp only [Hp.new, Tr.get_set, if_true]
theorem sync_at (U : Setup P lo C ops n As Hs kd) (h : Inv P lo base ops n As Hs kd r w L s r' w' tm) {i : Nat} (hi : i < n) (hun : ¬ Done L i) {o : Oper} (ho : ops[i]? = some o) (hr : ∀ e ∈ o.after, Region.binds .any e = true → Done L e.on)
    (hk : kd i = .heavy ∨ calm (kd i) = false) (b : Nat) : Sync kd n L b i := by
  intro j hj hw
  have hc1 : clashR (kd i) (kd j) = true := by
    rcases hk with q | q
    · rw [q]; exact (clash_HE hw.calm).1
    · exact clash_EE q hw.calm
  have hc2 : clashR (kd j) (kd i) = true := by
    rcases hk with q | q
    · rw [q]; exact (clash_HE hw.calm).2
    · exact clash_EE hw.calm q
  constructor
  · intro hd
    rcases Nat.lt_or_ge j i with q | q
    · exact q
    · by_cases hji : j = i
      · subst hji; exact absurd hd hun
      · exact absurd (h.anc (U.cl i j (by omega) hj hc2) hd) hun
  · intro q
    exact h.ready ho hr (U.cl j i q hi hc1)
theorem rel_at (h : Inv P lo base ops n As Hs kd r w L s r' w' tm) {i : Nat} (hsi : s ≤ i) (hi : i ≤ n) (hs : ∀ b, Sync kd n L b i) : Rel P (r'.below (Hs i).next) base (Hs i) w' := by
  have R := h.rels i hsi hi
  refine ⟨fun b loc e => ?_, fun b loc ob e eo => ?_, fun b1 b2 l1 l2 e1 e2 e3 v1 v2 => ?_, h.top⟩
  · obtain ⟨hb, e⟩ := below_some e
    exact ⟨hb, R.dom b loc e hb (hs b)⟩
  · obtain ⟨hb, e⟩ := below_some e
    exact R.cont b loc ob e hb (hs b) eo
  · obtain ⟨hb1, e1⟩ := below_some e1
    obtain ⟨hb2, e2⟩ := below_some e2
    exact R.inj b1 b2 l1 l2 e1 e2 hb1 hb2 (hs b1) (hs b2) e3 v1 v2
theorem step_light (U : Setup P lo C ops n As Hs kd) (h : Inv P lo base ops n As Hs kd r w L s r' w' tm) {i : Nat} (hi : i < n) (hun : ¬ Done L i) {o : Oper} {v : Value} (ho : ops[i]? = some o) (hr : ∀ e ∈ o.after, Region.binds .any e = true → Done L e.on)
    (hput : (As i).put o.dst v = some (As (i + 1))) (hc : kd i = .pure ∨ ∃ b, kd i = .read b) {v' : Value} (hv : VR (r'.below (Hs (max i s)).next) v v') (hs : OneStep X P (As 0).fn ops i tm w' o v' w') :
    ∃ s2 r2 w2 v', OneStep X P (As 0).fn ops i tm w' o v' w2 ∧ Inv P lo base ops n As Hs kd r w (L.setIfInBounds i true) s2 r2 w2 (putT tm o.dst v') := by
  have hLi : i < L.size := by have := U.T.le; rw [h.size]; omega
  have hnw : ∀ b, ¬ Wr (kd i) b := fun b hw => by
    have := hw.calm
    rcases hc with q | ⟨b, q⟩ <;> rw [q] at this <;> cases this
  have hsame : Hs (i + 1) = Hs i := by
    have hch := tr_chg U.A U.T U.lo (j := i) hi
    rcases hc with q | ⟨b, q⟩ <;> rw [q] at hch <;> exact hch
  have hmax : (Hs (max (i + 1) s)).next = (Hs (max i s)).next := by
    rcases Nat.lt_or_ge i s with q | q
    · rw [Nat.max_eq_right q, Nat.max_eq_right (by omega)]
    · rw [Nat.max_eq_left (by omega), Nat.max_eq_left q, hsame]
  refine ⟨s, r', w', v', hs, h.next U.A U.lo U.S U.T hi ho hun hr hput (Nat.le_refl _) h.sle (fun j hj hk => .inr (h.sdone j hj hk)) (fun q h1 h2 => ?_) (.refl _)
    (fun _ _ e => .inl e) h.low (fun hro j h1 h2 h3 b loc hk => ?_) h.top (by rw [hmax]; exact hv) h.pk⟩
  · have R := h.rels q h1 h2
    exact ⟨fun b loc e hb hsy => R.dom b loc e hb ((sync_set hLi (hnw b)).1 hsy), fun b loc ob e hb hsy => R.cont b loc ob e hb ((sync_set hLi (hnw b)).1 hsy), fun b1 b2 l1 l2 e1 e2 g1 g2 s1 s2 => R.inj b1 b2 l1 l2 e1 e2 g1 g2 ((sync_set hLi (hnw b1)).1 s1) ((sync_set hLi (hnw b2)).1 s2)⟩
  · rcases h3 with rfl | h3
    · exfalso
      rcases hc with q | ⟨b, q⟩ <;> rw [q] at hk <;> cases hk
    · exact h.sep hro j h1 h2 h3 b loc hk
theorem step_mk (U : Setup P lo C ops n As Hs kd) (h : Inv P lo base ops n As Hs kd r w L s r' w' tm) {i : Nat} (hi : i < n) (hun : ¬ Done L i) {o : Oper} {v : Value} (ho : ops[i]? = some o) (hr : ∀ e ∈ o.after, Region.binds .any e = true → Done L e.on)
    (hput : (As i).put o.dst v = some (As (i + 1))) {b : Nat} (hk : kd i = .mk b) {cs : List Value} {e : TypeId} (hH : Hs (i + 1) = (Hs i).new (.cells cs e false)) {C' : Array Value} {v' : Value} (hL : LR (r'.below (Hs (max i s)).next) cs C'.toList)
    (hv : ∀ r2 : Ren, r2 (Hs i).next = some ⟨w'.heap.size, 0, none⟩ → VR r2 v v') (hs : OneStep X P (As 0).fn ops i tm w' o v' (w'.alloc (.cells C' e))) :
    ∃ s2 r2 w2 v', OneStep X P (As 0).fn ops i tm w' o v' w2 ∧ Inv P lo base ops n As Hs kd r w (L.setIfInBounds i true) s2 r2 w2 (putT tm o.dst v') := by
  have hLi : i < L.size := by have := U.T.le; rw [h.size]; omega
  have hnw : ∀ b, ¬ Wr (kd i) b := fun b hw => by have := hw.calm; rw [hk] at this; cases this
  obtain ⟨hb, hb1, _⟩ := mk_block U hi hk
  have hnone : r' b = none := by
    cases e : r' b with
    | none => rfl
    | some loc => have := (own_at U h hi hun e (by omega)).1; omega
  have hsz : (w'.alloc (.cells C' e)).heap.size = w'.heap.size + 1 := by simp [World.size_alloc]
  have hold : ∀ k, k < w'.heap.size → (w'.alloc (.cells C' e)).heap[k]? = w'.heap[k]? := fun k hk => by
    show (w'.heap.push _)[k]? = _
    rw [Array.getElem?_push, if_neg (by omega)]
  have hnew : (w'.alloc (.cells C' e)).heap[w'.heap.size]? = some (.cells C' e (0, 0)) := by
    show (w'.heap.push _)[w'.heap.size]? = _
    simp
  have hle := Ren.le_add (⟨w'.heap.size, 0, none⟩ : Loc) hnone
  have part : ∀ x loc, r'.add b ⟨w'.heap.size, 0, none⟩ x = some loc → (x = b ∧ loc = ⟨w'.heap.size, 0, none⟩) ∨ (x ≠ b ∧ r' x = some loc) := fun x loc e => by
    unfold Ren.add at e
    by_cases hx : x = b
    · rw [if_pos hx] at e; cases e; exact .inl ⟨hx, rfl⟩
    · rw [if_neg hx] at e; exact .inr ⟨hx, e⟩
  have hnxt := tr_next U.A U.T U.lo i (by omega)
  -- the new block's content
  have cont : ∀ q, s ≤ q → q ≤ n → b < (Hs q).next → Sync kd n L b q → i + 1 ≤ q ∧ (Hs q).t.get b = some (.cells cs e false) := fun q h1 h2 hbq hsy => by
    have hiq : i + 1 ≤ q := by
      rcases Nat.lt_or_ge i q with x | x
      · exact x
      · have := tr_mono U.A U.T U.lo x (by omega); omega
    refine ⟨hiq, ?_⟩
    rw [tr_same U hiq h2 (by omega) fun j a c hw => ?_, hH, hb]
    · simp only [Hp.new, Tr.get_set, if_true]
    · have hd := (hsy j (by omega) hw).2 c
      exact hun (h.anc (U.cl i j (by omega) (by omega) (by rw [hk]; exact (wr_mk hw).1)) hd)
  have small : ∀ q, s ≤ q → q ≤ n → ∀ x loc, r' x = some loc → x < (Hs q).next → Sync kd n L x q → live (Hs q) x → loc.blk < w'.heap.size := fun q h1 h2 x loc e hx hsy ⟨o', e1, _, e3⟩ => by
    have := (h.rels q h1 h2).dom x loc e hx hsy
    rw [e1] at this
    exact (this.own e3).2
  refine ⟨s, r'.add b ⟨w'.heap.size, 0, none⟩, w'.alloc (.cells C' e), v', hs, h.next U.A U.lo U.S U.T hi ho hun hr hput (Nat.le_refl _) h.sle (fun j hj hk => .inr (h.sdone j hj hk)) (fun q h1 h2 => ?_) hle
    (fun x loc e => ?_) (fun hro x loc e => ?_) (fun hro j h1 h2 h3 x loc hkx e x0 loc0 e0 hblk => ?_) (by rw [hsz]; have := h.top; omega) ?_ ?_⟩
  · have R := h.rels q h1 h2
    refine ⟨fun x loc e hx hsy => ?_, fun x loc ob e hx hsy eo => ?_, fun b1 b2 l1 l2 e1 e2 g1 g2 s1 s2 e3 v1 v2 => ?_⟩
    · have hsy := (sync_set hLi (hnw x)).1 hsy
      rcases part x loc e with ⟨rfl, rfl⟩ | ⟨_, e⟩
      · rw [(cont q h1 h2 hx hsy).2]
        have := h.top
        exact ⟨this, by rw [hsz]; exact Nat.lt_succ_self _⟩
      · exact (R.dom x loc e hx hsy).more (by rw [hsz]; omega)
    · have hsy := (sync_set hLi (hnw x)).1 hsy
      rcases part x loc e with ⟨rfl, rfl⟩ | ⟨_, e⟩
      · obtain ⟨hiq, hg⟩ := cont q h1 h2 hx hsy
        rw [hg] at eo
        cases eo
        rw [hnew]
        have hm := tr_mono U.A U.T U.lo (i := max i s) (j := q) (by omega) h2
        exact ⟨C', rfl, CellsR_LR (hL.mono (below_mono hle hm)) rfl, .inl ⟨rfl, rfl, rfl, by have := hL.1; simpa using this.symm⟩⟩
      · have hdm := R.dom x loc e hx hsy
        rw [eo] at hdm
        exact ((R.cont x loc ob e hx hsy eo).keep hdm h.top (hold _)).mono (below_mono hle (Nat.le_refl _))
    · have t1 := (sync_set hLi (hnw b1)).1 s1
      have t2 := (sync_set hLi (hnw b2)).1 s2
      rcases part b1 l1 e1 with ⟨rfl, rfl⟩ | ⟨_, q1⟩ <;> rcases part b2 l2 e2 with ⟨rfl, rfl⟩ | ⟨_, q2⟩
      · rfl
      · have := small q h1 h2 b2 l2 q2 g2 t2 v2; simp only at e3; omega
      · have := small q h1 h2 b1 l1 q1 g1 t1 v1; simp only at e3; omega
      · exact R.inj b1 b2 l1 l2 q1 q2 g1 g2 t1 t2 e3 v1 v2
  · rcases part x loc e with ⟨rfl, rfl⟩ | ⟨_, e⟩
    · exact .inr ⟨by omega, by omega⟩
    · exact .inl e
  · rcases part x loc e with ⟨rfl, rfl⟩ | ⟨_, e⟩
    · exact .inl (by rw [hsz]; exact Nat.lt_succ_self _)
    · exact (h.low hro x loc e).imp (fun q => by rw [hsz]; omega) id
  · rcases h3 with rfl | h3
    · rw [hk] at hkx; cases hkx
      rcases part _ loc e with ⟨_, rfl⟩ | ⟨q, _⟩
      · rcases part x0 loc0 e0 with ⟨q, _⟩ | ⟨_, q⟩
        · exact .inl q
        · rcases h.low hro x0 loc0 q with z | z
          · simp only at hblk; omega
          · exact .inr z
      · exact absurd rfl q
    · obtain ⟨a1, a2, _⟩ := mk_block U h2 hkx
      have hxb : x ≠ b := fun q => by
        subst q
        by_cases hji : j = i
        · subst hji; exact hun h3
        · rcases Nat.lt_or_ge j i with z | z
          · have := tr_mono U.A U.T U.lo (i := j + 1) (j := i) (by omega) (by omega); omega
          · have := tr_mono U.A U.T U.lo (i := i + 1) (j := j) (by omega) (by omega); omega
      rcases part x loc e with ⟨q, _⟩ | ⟨_, ex⟩
      · exact absurd q hxb
      · rcases part x0 loc0 e0 with ⟨rfl, rfl⟩ | ⟨_, ex0⟩
        · rcases h.low hro x loc ex with z | z
          · simp only at hblk; omega
          · have := z.1; have := tr_next U.A U.T U.lo j (by omega); omega
        · exact h.sep hro j h1 h2 h3 x loc hkx ex x0 loc0 ex0 hblk
  · refine hv _ (below_mk ?_ ?_)
    · have := tr_mono U.A U.T U.lo (i := i + 1) (j := max (i + 1) s) (by omega) (by have := h.sle; omega)
      omega
    · rw [← hb]; exact Ren.add_same _ _ _
  · refine ⟨h.pk.le.trans hle, fun x loc e => ?_, fun k hk hpre => ?_, h.pk.str.trans ⟨rfl, rfl, rfl, by rw [hsz]; omega⟩⟩
    · rcases part x loc e with ⟨rfl, rfl⟩ | ⟨_, e⟩
      · exact .inr ⟨by omega, .inl ⟨h.pk.str.size, by rw [hsz]; exact Nat.lt_succ_self _⟩⟩
      · exact PK.up (by rw [hsz]; omega) (h.pk.place x loc e)
    · rw [hold k (Nat.lt_of_lt_of_le hk h.pk.str.size)]
      exact h.pk.keep k hk hpre
theorem step_heavy (U : Setup P lo C ops n As Hs kd) (h : Inv P lo base ops n As Hs kd r w L s r' w' tm) {i : Nat} (hi : i < n) (hun : ¬ Done L i) {o : Oper} {v : Value} (ho : ops[i]? = some o) (hr : ∀ e ∈ o.after, Region.binds .any e = true → Done L e.on)
    (hput : (As i).put o.dst v = some (As (i + 1))) (hk : kd i = .heavy) {r3 : Ren} {w2 : World} {v' : Value} (hpost : Post P (Hs i).next base (r'.below (Hs i).next) (Hs i) w' r3 (Hs (i + 1)) w2) (hv : VR r3 v v') (hs : OneStep X P (As 0).fn ops i tm w' o v' w2) :
    ∃ s2 r2 w2 v', OneStep X P (As 0).fn ops i tm w' o v' w2 ∧ Inv P lo base ops n As Hs kd r w (L.setIfInBounds i true) s2 r2 w2 (putT tm o.dst v') := by
  have hLi : i < L.size := by have := U.T.le; rw [h.size]; omega
  have hnw : ∀ b, ¬ Wr (kd i) b := fun b hw => by have := hw.calm; rw [hk] at this; cases this
  have hsi : s ≤ i := by
    rcases Nat.lt_or_ge i s with q | q
    · exact absurd (h.sdone i q (.inl hk)) hun
    · exact q
  have hnx := tr_next U.A U.T U.lo i (by omega)
  have hmono := tr_mono U.A U.T U.lo (i := i) (j := i + 1) (by omega) (by omega)
  have hsz := hpost.str.size
  have hnewr : ∀ b loc, r' b = some loc → (Hs i).next ≤ b → (Hs (i + 1)).next ≤ b := fun b loc e hb => (own_at U h hi hun e hb).1
  have h3 : ∀ b loc, r3 b = some loc → (b < (Hs i).next ∧ r' b = some loc) ∨ ((Hs i).next ≤ b ∧ b < (Hs (i + 1)).next ∧ w'.heap.size ≤ loc.blk ∧ loc.blk < w2.heap.size) := fun b loc e => by
    have hdom := (hpost.rel.dom b loc e).1
    rcases hpost.place b loc e with q | ⟨q1, q2⟩
    · exact .inl (below_some q)
    · rcases q2 with q2 | ⟨b0, l0, f1, f2, f3⟩
      · exact .inr ⟨q1, hdom, q2.1, q2.2⟩
      · have := (below_some f1).1; omega
  let r2 : Ren := fun b => match r' b with | some l => some l | none => r3 b
  have hle1 : Ren.Le r' r2 := fun b loc e => by simp only [r2, e]
  have hle3 : Ren.Le r3 r2 := fun b loc e => by
    rcases h3 b loc e with ⟨_, q⟩ | ⟨q1, q2, _⟩
    · simp only [r2, q]
    · cases hr' : r' b with
      | none => simp only [r2, hr', e]
      | some l => have := hnewr b l hr' q1; omega
  have hle3' : Ren.Le r3 (r2.below (Hs (i + 1)).next) := fun b loc e => below_mk (hpost.rel.dom b loc e).1 (hle3 b loc e)
  have hsplit : ∀ b loc, r2 b = some loc → r' b = some loc ∨ (r' b = none ∧ r3 b = some loc) := fun b loc e => by
    simp only [r2] at e
    cases hr' : r' b with
    | none => rw [hr'] at e; exact .inr ⟨rfl, e⟩
    | some l => rw [hr'] at e; cases e; exact .inl rfl
  have hnew3 : ∀ b loc, r' b = none → r3 b = some loc → (Hs i).next ≤ b ∧ b < (Hs (i + 1)).next ∧ w'.heap.size ≤ loc.blk ∧ loc.blk < w2.heap.size := fun b loc e1 e2 => by
    rcases h3 b loc e2 with ⟨_, q⟩ | q
    · rw [e1] at q; cases q
    · exact q
  have hkeep : ∀ k, k < w'.heap.size → w2.heap[k]? = w'.heap[k]? := fun k hk => hpost.keep k hk fun b loc e _ => (below_some e).1
  -- a new block's content
  have cont : ∀ q, q ≤ n → ∀ b loc, r' b = none → r3 b = some loc → b < (Hs q).next → Sync kd n L b q → i + 1 ≤ q ∧ (Hs q).t.get b = (Hs (i + 1)).t.get b := fun q hq b loc e1 e2 hbq hsy => by
    obtain ⟨x1, x2, _⟩ := hnew3 b loc e1 e2
    have hiq : i + 1 ≤ q := by
      rcases Nat.lt_or_ge i q with x | x
      · exact x
      · have := tr_mono U.A U.T U.lo x (by omega); omega
    refine ⟨hiq, tr_same U hiq hq x2 fun j a c hw => ?_⟩
    have hd := (hsy j (by omega) hw).2 c
    exact hun (h.anc (U.cl i j (by omega) (by omega) (by rw [hk]; exact (clash_HE hw.calm).2)) hd)
  have small : ∀ q, s ≤ q → q ≤ n → ∀ x loc, r' x = some loc → x < (Hs q).next → Sync kd n L x q → live (Hs q) x → loc.blk < w'.heap.size := fun q h1 h2 x loc e hx hsy ⟨o', e1, _, e3⟩ => by
    have := (h.rels q h1 h2).dom x loc e hx hsy
    rw [e1] at this
    exact (this.own e3).2
  have hpk2 : PK lo r (Hs 0).next w r2 w2 := h.pk.step hpost hnx.1 hnx.2 (fun b loc e => (below_some e).2) hle1 (fun b loc e => by
    rcases hsplit b loc e with q | ⟨_, q⟩
    · exact .inl q
    · exact .inr q)
  refine ⟨s, r2, w2, v', hs, h.next U.A U.lo U.S U.T hi ho hun hr hput (Nat.le_refl _) h.sle (fun j hj hk => .inr (h.sdone j hj hk)) (fun q h1 h2 => ?_) hle1
    (fun b loc e => ?_) (fun hro b loc e => ?_) (fun hro j h1 h2 h3j x loc hkx e x0 loc0 e0 hblk => ?_) (by have := h.top; omega) ?_ hpk2⟩
  · have R := h.rels q h1 h2
    refine ⟨fun b loc e hb hsy => ?_, fun b loc ob e hb hsy eo => ?_, fun b1 b2 l1 l2 e1 e2 g1 g2 s1 s2 e3 v1 v2 => ?_⟩
    · have hsy := (sync_set hLi (hnw b)).1 hsy
      rcases hsplit b loc e with q' | ⟨q1, q2⟩
      · exact (R.dom b loc q' hb hsy).more hsz
      · rw [(cont q h2 b loc q1 q2 hb hsy).2]
        exact (hpost.rel.dom b loc q2).2
    · have hsy := (sync_set hLi (hnw b)).1 hsy
      rcases hsplit b loc e with q' | ⟨q1, q2⟩
      · have hdm := R.dom b loc q' hb hsy
        rw [eo] at hdm
        exact ((R.cont b loc ob q' hb hsy eo).keep hdm h.top (hkeep _)).mono (below_mono hle1 (Nat.le_refl _))
      · obtain ⟨hiq, hg⟩ := cont q h2 b loc q1 q2 hb hsy
        rw [hg] at eo
        have hm2 := tr_mono U.A U.T U.lo hiq h2
        exact (hpost.rel.cont b loc ob q2 eo).mono (hle3'.trans (below_mono (.refl _) hm2))
    · have t1 := (sync_set hLi (hnw b1)).1 s1
      have t2 := (sync_set hLi (hnw b2)).1 s2
      rcases hsplit b1 l1 e1 with q1 | ⟨q1, p1⟩ <;> rcases hsplit b2 l2 e2 with q2 | ⟨q2, p2⟩
      · exact R.inj b1 b2 l1 l2 q1 q2 g1 g2 t1 t2 e3 v1 v2
      · have := small q h1 h2 b1 l1 q1 g1 t1 v1
        have := (hnew3 b2 l2 q2 p2).2.2.1
        omega
      · have := small q h1 h2 b2 l2 q2 g2 t2 v2
        have := (hnew3 b1 l1 q1 p1).2.2.1
        omega
      · have c1 := (cont q h2 b1 l1 q1 p1 g1 t1).2
        have c2 := (cont q h2 b2 l2 q2 p2 g2 t2).2
        have lv : ∀ b, (Hs q).t.get b = (Hs (i + 1)).t.get b → live (Hs q) b → live (Hs (i + 1)) b := fun b hb ⟨ob, x, y⟩ => ⟨ob, by rw [← hb]; exact x, y⟩
        exact hpost.rel.inj b1 b2 l1 l2 p1 p2 e3 (lv _ c1 v1) (lv _ c2 v2)
  · rcases hsplit b loc e with q | ⟨q1, q2⟩
    · exact .inl q
    · obtain ⟨a, b', _⟩ := hnew3 b loc q1 q2; exact .inr ⟨a, b'⟩
  · rcases hsplit b loc e with q | ⟨q1, q2⟩
    · exact (h.low hro b loc q).imp (fun q => by omega) id
    · exact .inl (hnew3 b loc q1 q2).2.2.2
  · rcases h3j with rfl | h3j
    · rw [hk] at hkx; cases hkx
    · obtain ⟨a1, a2, _⟩ := mk_block U h2 hkx
      rcases hsplit x loc e with ex | ⟨q1, q2⟩
      · rcases hsplit x0 loc0 e0 with ex0 | ⟨p1, p2⟩
        · exact h.sep hro j h1 h2 h3j x loc hkx ex x0 loc0 ex0 hblk
        · have := (hnew3 x0 loc0 p1 p2).2.2.1
          rcases h.low hro x loc ex with z | z
          · omega
          · have := z.1; have := tr_next U.A U.T U.lo j (by omega); omega
      · exfalso
        obtain ⟨b1, b2, _⟩ := hnew3 x loc q1 q2
        by_cases hji : j = i
        · subst hji; exact hun h3j
        · rcases Nat.lt_or_ge j i with z | z
          · have := tr_mono U.A U.T U.lo (i := j + 1) (j := i) (by omega) (by omega); omega
          · have := tr_mono U.A U.T U.lo (i := i + 1) (j := j) (by omega) (by omega); omega
  · rw [Nat.max_eq_left (by omega)]
    exact hv.mono hle3'
theorem step_full (U : Setup P lo C ops n As Hs kd) (h : Inv P lo base ops n As Hs kd r w L s r' w' tm) {i : Nat} (hi : i < n) (hun : ¬ Done L i) {o : Oper} {v : Value} (ho : ops[i]? = some o) (hr : ∀ e ∈ o.after, Region.binds .any e = true → Done L e.on)
    (hput : (As i).put o.dst v = some (As (i + 1))) (hk : calm (kd i) = false) {r3 : Ren} {w2 : World} {v' : Value} (hpost : Post P lo base (r'.below (Hs i).next) (Hs i) w' r3 (Hs (i + 1)) w2) (hv : VR r3 v v') (hs : OneStep X P (As 0).fn ops i tm w' o v' w2) :
    ∃ s2 r2 w2 v', OneStep X P (As 0).fn ops i tm w' o v' w2 ∧ Inv P lo base ops n As Hs kd r w (L.setIfInBounds i true) s2 r2 w2 (putT tm o.dst v') := by
  have hLi : i < L.size := by have := U.T.le; rw [h.size]; omega
  have hsi : s ≤ i := by
    rcases Nat.lt_or_ge i s with q | q
    · exact absurd (h.sdone i q (.inr hk)) hun
    · exact q
  have hnx := tr_next U.A U.T U.lo i (by omega)
  have hmono := tr_mono U.A U.T U.lo (i := i) (j := i + 1) (by omega) (by omega)
  have hsz := hpost.str.size
  have hsyn := sync_at U h hi hun ho hr (.inr hk)
  -- blocks that stand behind: new ones, made ahead of their place
  have ahead : ∀ b loc, r' b = some loc → (Hs i).next ≤ b → (Hs (i + 1)).next ≤ b ∧ (∀ c, kd i = .store c → c ≠ b) ∧ (∃ c, kd i = .store c) ∧ ∃ j, i < j ∧ j < n ∧ Done L j ∧ kd j = .mk b ∧ RoLow lo (Hs 0) := fun b loc e hb => by
    obtain ⟨h1, j, h2, h3, h4, h5, h6⟩ := own_at U h hi hun e hb
    refine ⟨h1, ?_⟩
    have hch := tr_chg U.A U.T U.lo (j := j) h3
    have no : clashR (kd j) (kd i) = true → False := fun hc => hun (h.anc (U.cl i j h2 h3 hc) h4)
    have mk : kd j = .mk b := by
      cases hkj : kd j with
      | pure => rw [hkj] at hch; rw [show Hs (j + 1) = Hs j from hch] at h6; omega
      | read x => rw [hkj] at hch; rw [show Hs (j + 1) = Hs j from hch] at h6; omega
      | heavy => exact (no (by rw [hkj]; exact (clash_HE hk).1)).elim
      | store x => exact (no (clash_EE (by rw [hkj]; rfl) hk)).elim
      | full => exact (no (clash_EE (by rw [hkj]; rfl) hk)).elim
      | mk x => obtain ⟨a1, a2, _⟩ := mk_block U h3 hkj; rw [show x = b by omega]
    have st : ∃ c, kd i = .store c := by
      cases hki : kd i with
      | store c => exact ⟨c, rfl⟩
      | full => exact (no (by rw [mk, hki]; rfl)).elim
      | _ => rw [hki] at hk; cases hk
    refine ⟨fun c hc e => no (by rw [mk, hc, e]; simp [clashR]), st, j, h2, h3, h4, mk, ?_⟩
    rcases U.ro with q | q
    · exact q
    · obtain ⟨c, hc⟩ := st
      exact (hun (h.anc (q i j h2 h3 (by rw [mk, hc]; rfl)) h4)).elim
  have h3 : ∀ b loc, r3 b = some loc → (b < (Hs i).next ∧ r' b = some loc) ∨ ((Hs i).next ≤ b ∧ b < (Hs (i + 1)).next ∧ ((w'.heap.size ≤ loc.blk ∧ loc.blk < w2.heap.size) ∨ ∃ b0 loc0, b0 < (Hs i).next ∧ r' b0 = some loc0 ∧ loc0.blk = loc.blk ∧ lo ≤ b0)) := fun b loc e => by
    have hdom := (hpost.rel.dom b loc e).1
    rcases hpost.place b loc e with q | ⟨q1, q2⟩
    · exact .inl (below_some q)
    · refine .inr ⟨q1, hdom, ?_⟩
      rcases q2 with q2 | ⟨b0, l0, f1, f2, f3⟩
      · exact .inl q2
      · exact .inr ⟨b0, l0, (below_some f1).1, (below_some f1).2, f2, f3⟩
  have hdom3 : ∀ b loc, r3 b = some loc → b < (Hs (i + 1)).next := fun b loc e => (hpost.rel.dom b loc e).1
  let r2 : Ren := fun b => match r3 b with | some l => some l | none => r' b
  have hle3 : Ren.Le r3 r2 := fun b loc e => by simp only [r2, e]
  have hle1 : Ren.Le r' r2 := fun b loc e => by
    cases hr3 : r3 b with
    | none => simp only [r2, hr3, e]
    | some l =>
      rcases h3 b l hr3 with ⟨_, q⟩ | ⟨q1, q2, _⟩
      · rw [e] at q; cases q; simp only [r2, hr3]
      · have := (ahead b loc e q1).1; omega
  have hle3' : Ren.Le r3 (r2.below (Hs (i + 1)).next) := fun b loc e => below_mk (hdom3 b loc e) (hle3 b loc e)
  have hsplit : ∀ b loc, r2 b = some loc → r3 b = some loc ∨ (r' b = some loc ∧ (Hs i).next ≤ b) := fun b loc e => by
    simp only [r2] at e
    cases hr3 : r3 b with
    | some l => rw [hr3] at e; cases e; exact .inl rfl
    | none =>
      rw [hr3] at e
      refine .inr ⟨e, ?_⟩
      rcases Nat.lt_or_ge b (Hs i).next with q | q
      · have := hpost.le b loc (below_mk q e); rw [hr3] at this; cases this
      · exact q
  -- where all has been written in order
  have hsyn2 : ∀ b, Sync kd n (L.setIfInBounds i true) b (i + 1) := fun b j hj hw => by
    rw [done_set hLi, hsyn b j hj hw]; omega
  have same : ∀ q, i + 1 ≤ q → q ≤ n → ∀ b, b < (Hs (i + 1)).next → Sync kd n (L.setIfInBounds i true) b q → (Hs q).t.get b = (Hs (i + 1)).t.get b := fun q h1 h2 b hb hsy => sync_same U h1 h2 hb (hsyn2 b) hsy
  have lv : ∀ q b, (Hs q).t.get b = (Hs (i + 1)).t.get b → live (Hs q) b → live (Hs (i + 1)) b := fun q b hb ⟨ob, x, y⟩ => ⟨ob, by rw [← hb]; exact x, y⟩
  -- what stands behind is as it was
  have stays : ∀ b loc, r' b = some loc → (Hs i).next ≤ b → loc.blk < w'.heap.size ∧ w2.heap[loc.blk]? = w'.heap[loc.blk]? := fun b loc e hb => by
    obtain ⟨_, _, _, j, h1, h2, h4, hmk, hro⟩ := ahead b loc e hb
    have hlt : loc.blk < w'.heap.size := by
      rcases h.low hro b loc e with z | z
      · exact z
      · have := z.1; omega
    refine ⟨hlt, hpost.keep _ hlt fun b0 loc0 e0 hblk => ?_⟩
    obtain ⟨x1, x2⟩ := below_some e0
    rcases h.sep hro j (by omega) h2 h4 b loc hmk e b0 loc0 x2 hblk with z | z
    · omega
    · exact z.1
  have syncL : ∀ b loc, r' b = some loc → (Hs i).next ≤ b → ∀ q, Sync kd n (L.setIfInBounds i true) b q → Sync kd n L b q := fun b loc e hb q hsy => by
    obtain ⟨_, hne, ⟨c, hc⟩, _⟩ := ahead b loc e hb
    refine (sync_set hLi fun hw => ?_).1 hsy
    rcases hw with z | z
    · exact hne b z rfl
    · rw [hc] at z; cases z
  have notro : ∀ q, q ≤ n → ∀ b, Weird lo (Hs 0) b → ¬ live (Hs q) b := fun q hq b ⟨z1, cs, z2⟩ ⟨o', e1, _, e3⟩ => by
    rw [tr_low U.A U.T U.lo hq b z1, z2] at e1
    cases e1; cases e3
  -- new ones and what stands behind
  have cross : ∀ q, i + 1 ≤ q → q ≤ n → ∀ b1 b2 l1 l2, r3 b1 = some l1 → r' b2 = some l2 → (Hs i).next ≤ b2 → live (Hs q) b1 → l1.blk = l2.blk → False := fun q h1 h2 b1 b2 l1 l2 e1 e2 hb2 v1 hblk => by
    obtain ⟨_, _, _, j, x1, x2, x4, hmk, hro⟩ := ahead b2 l2 e2 hb2
    have hlt := (stays b2 l2 e2 hb2).1
    rcases h3 b1 l1 e1 with ⟨y1, y2⟩ | ⟨y1, y2, y3 | ⟨b0, l0, y3, y4, y5, y6⟩⟩
    · rcases h.sep hro j (by omega) x2 x4 b2 l2 hmk e2 b1 l1 y2 hblk with z | z
      · omega
      · exact notro q h2 b1 z v1
    · omega
    · rcases h.sep hro j (by omega) x2 x4 b2 l2 hmk e2 b0 l0 y4 (y5.trans hblk) with z | z
      · omega
      · have := z.1; omega
  refine ⟨i + 1, r2, w2, v', hs, h.next U.A U.lo U.S U.T hi ho hun hr hput (by omega) (by omega) (fun j hj hkj => ?_) (fun q h1 h2 => ?_) hle1
    (fun b loc e => ?_) (fun hro b loc e => ?_) (fun hro j h1 h2 h3j x loc hkx e x0 loc0 e0 hblk => ?_) (by have := h.top; omega) ?_
    (h.pk.step hpost (Nat.le_refl _) hnx.2 (fun b loc e => (below_some e).2) hle1 (fun b loc e => by
      rcases hsplit b loc e with q | ⟨q, _⟩
      · exact .inr q
      · exact .inl q))⟩
  · by_cases hji : j = i
    · exact .inl hji
    · refine .inr (h.ready ho hr (U.cl j i (by omega) hi ?_))
      rcases hkj with q | q
      · rw [q]; exact (clash_HE hk).2
      · exact clash_EE hk q
  · have R := h.rels q (by omega) h2
    have hm2 := tr_mono U.A U.T U.lo h1 h2
    refine ⟨fun b loc e hb hsy => ?_, fun b loc ob e hb hsy eo => ?_, fun b1 b2 l1 l2 e1 e2 g1 g2 s1 s2 e3 v1 v2 => ?_⟩
    · rcases hsplit b loc e with e | ⟨e, hbi⟩
      · rw [same q h1 h2 b (hdom3 b loc e) hsy]
        exact (hpost.rel.dom b loc e).2
      · exact (R.dom b loc e hb (syncL b loc e hbi q hsy)).more hsz
    · rcases hsplit b loc e with e | ⟨e, hbi⟩
      · rw [same q h1 h2 b (hdom3 b loc e) hsy] at eo
        exact (hpost.rel.cont b loc ob e eo).mono (hle3'.trans (below_mono (.refl _) hm2))
      · rw [(stays b loc e hbi).2]
        exact (R.cont b loc ob e hb (syncL b loc e hbi q hsy) eo).mono (below_mono hle1 (Nat.le_refl _))
    · rcases hsplit b1 l1 e1 with q1 | ⟨q1, p1⟩ <;> rcases hsplit b2 l2 e2 with q2 | ⟨q2, p2⟩
      · exact hpost.rel.inj b1 b2 l1 l2 q1 q2 e3 (lv q _ (same q h1 h2 b1 (hdom3 b1 l1 q1) s1) v1) (lv q _ (same q h1 h2 b2 (hdom3 b2 l2 q2) s2) v2)
      · exact (cross q h1 h2 b1 b2 l1 l2 q1 q2 p2 v1 e3).elim
      · exact (cross q h1 h2 b2 b1 l2 l1 q2 q1 p1 v2 e3.symm).elim
      · exact R.inj b1 b2 l1 l2 q1 q2 g1 g2 (syncL b1 l1 q1 p1 q s1) (syncL b2 l2 q2 p2 q s2) e3 v1 v2
  · rcases hsplit b loc e with e | ⟨e, _⟩
    · rcases h3 b loc e with ⟨_, q⟩ | ⟨q1, q2, _⟩
      · exact .inl q
      · exact .inr ⟨q1, q2⟩
    · exact .inl e
  · rcases hsplit b loc e with e | ⟨e, _⟩
    · rcases h3 b loc e with ⟨_, q⟩ | ⟨q1, q2, q3 | ⟨b0, l0, y3, y4, y5, y6⟩⟩
      · exact (h.low hro b loc q).imp (fun q => by omega) id
      · exact .inl q3.2
      · rcases h.low hro b0 l0 y4 with z | z
        · exact .inl (by omega)
        · have := z.1; omega
    · exact (h.low hro b loc e).imp (fun q => by omega) id
  · rcases h3j with rfl | h3j
    · omega
    · obtain ⟨a1, a2, _⟩ := mk_block U h2 hkx
      have hmj := tr_mono U.A U.T U.lo (i := i + 1) (j := j) h1 (by omega)
      have hmj2 := tr_next U.A U.T U.lo j (by omega)
      have ex : r' x = some loc := by
        rcases hsplit x loc e with q | ⟨q, _⟩
        · have := hdom3 x loc q; omega
        · exact q
      rcases hsplit x0 loc0 e0 with q | ⟨q, _⟩
      · rcases h3 x0 loc0 q with ⟨_, y⟩ | ⟨q1, q2, q3 | ⟨b0, l0, y3, y4, y5, y6⟩⟩
        · exact h.sep hro j (by omega) h2 h3j x loc hkx ex x0 loc0 y hblk
        · rcases h.low hro x loc ex with z | z
          · omega
          · have := z.1; omega
        · rcases h.sep hro j (by omega) h2 h3j x loc hkx ex b0 l0 y4 (y5.trans hblk) with z | z
          · omega
          · have := z.1; omega
      · exact h.sep hro j (by omega) h2 h3j x loc hkx ex x0 loc0 q hblk
  · rw [Nat.max_eq_left (by omega)]
    exact hv.mono hle3'
end
end Go.Ax

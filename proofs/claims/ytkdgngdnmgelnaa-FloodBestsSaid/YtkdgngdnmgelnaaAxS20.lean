import Derived.Test.YtkdgngdnmgelnaaAxS19
set_option linter.all false
namespace Go.Ax
open Go Go.RowKit
structure PK (lo : Nat) (r : Ren) (nx : Nat) (w : World) (r' : Ren) (w' : World) : Prop where
  le : Ren.Le r r'
  place : ∀ b loc, r' b = some loc → r b = some loc ∨ (nx ≤ b ∧ ((w.heap.size ≤ loc.blk ∧ loc.blk < w'.heap.size) ∨ ∃ b0 loc0, r b0 = some loc0 ∧ loc0.blk = loc.blk ∧ lo ≤ b0))
  keep : ∀ k, k < w.heap.size → (∀ b loc, r b = some loc → loc.blk = k → b < lo) → w'.heap[k]? = w.heap[k]?
  str : Str w w'
theorem PK.refl (lo : Nat) (r : Ren) (nx : Nat) (w : World) : PK lo r nx w r w := ⟨.refl r, fun _ _ e => .inl e, fun _ _ _ => rfl, .refl w⟩
theorem PK.drew {lo : Nat} {r : Ren} {nx : Nat} {w : World} (n : Nat) : PK lo r nx w r { w with drawn := n } := ⟨.refl r, fun _ _ e => .inl e, fun _ _ _ => rfl, ⟨rfl, rfl, rfl, Nat.le_refl _⟩⟩
theorem PK.up {lo : Nat} {r : Ren} {nx : Nat} {w w' : World} {n : Nat} (hn : w'.heap.size ≤ n) {b : Nat} {loc : Loc} (h : r b = some loc ∨ (nx ≤ b ∧ ((w.heap.size ≤ loc.blk ∧ loc.blk < w'.heap.size) ∨ ∃ b0 loc0, r b0 = some loc0 ∧ loc0.blk = loc.blk ∧ lo ≤ b0))) :
    r b = some loc ∨ (nx ≤ b ∧ ((w.heap.size ≤ loc.blk ∧ loc.blk < n) ∨ ∃ b0 loc0, r b0 = some loc0 ∧ loc0.blk = loc.blk ∧ lo ≤ b0)) := by
  rcases h with q | ⟨q1, q2 | q2⟩
  · exact .inl q
  · exact .inr ⟨q1, .inl ⟨q2.1, by omega⟩⟩
  · exact .inr ⟨q1, .inr q2⟩
theorem PK.step {P : Program} {lo lo' base nx : Nat} {r r' rr r3 r2 : Ren} {w w' w2 : World} {Hx Hy : Hp} (h : PK lo r nx w r' w') (hp : Post P lo' base rr Hx w' r3 Hy w2) (hlo : lo ≤ lo') (hnx : nx ≤ Hx.next) (hr : ∀ b loc, rr b = some loc → r' b = some loc)
    (hle : Ren.Le r' r2) (h2 : ∀ b loc, r2 b = some loc → r' b = some loc ∨ r3 b = some loc) : PK lo r nx w r2 w2 := by
  have hplace : ∀ b loc, r' b = some loc → ∀ k, loc.blk = k → k < w.heap.size → (∀ b loc, r b = some loc → loc.blk = k → b < lo) → b < lo := fun b loc e k hk hks hpre => by
    rcases h.place b loc e with g | ⟨g1, g2 | ⟨b0, l0, f1, f2, f3⟩⟩
    · exact hpre b loc g hk
    · omega
    · have := hpre b0 l0 f1 (f2.trans hk); omega
  refine ⟨h.le.trans hle, fun b loc e => ?_, fun k hk hpre => ?_, h.str.trans hp.str⟩
  · rcases h2 b loc e with e1 | e1
    · exact PK.up hp.str.size (h.place b loc e1)
    · rcases hp.place b loc e1 with g | ⟨g1, g2⟩
      · exact PK.up hp.str.size (h.place b loc (hr b loc g))
      · refine .inr ⟨by omega, ?_⟩
        rcases g2 with g2 | ⟨b0, loc0, f1, f2, f3⟩
        · exact .inl ⟨Nat.le_trans h.str.size g2.1, g2.2⟩
        · rcases PK.up hp.str.size (h.place b0 loc0 (hr b0 loc0 f1)) with q | ⟨q1, q2⟩
          · exact .inr ⟨b0, loc0, q, f2, by omega⟩
          · rw [← f2]; exact q2
  · rw [hp.keep k (Nat.lt_of_lt_of_le hk h.str.size) (fun b loc e q => by have := hplace b loc (hr b loc e) k q hk hpre; omega)]
    exact h.keep k hk hpre
theorem exists_next (p : Nat → Prop) : ∀ (d s n : Nat), n - s = d → s ≤ n → ∃ q, s ≤ q ∧ q ≤ n ∧ (q < n → p q) ∧ ∀ j, s ≤ j → j < q → ¬ p j := by
  intro d
  induction d with
  | zero => intro s n h1 h2; exact ⟨s, Nat.le_refl _, h2, fun h => by omega, fun j a b => by omega⟩
  | succ d ih =>
    intro s n h1 h2
    by_cases hp : p s
    · exact ⟨s, Nat.le_refl _, h2, fun _ => hp, fun j a b => by omega⟩
    · obtain ⟨q, a, b, c, e⟩ := ih (s + 1) n (by omega) (by omega)
      exact ⟨q, by omega, b, c, fun j x y => by
        by_cases hj : j = s
        · subst hj; exact hp
        · exact e j (by omega) y⟩
section
variable {P : Program} {lo : Nat} {C : CallF} {ops : Array Oper} {n : Nat} {As : Nat → Fr} {Hs : Nat → Hp} {kd : Nat → Kd}
theorem put_get {A A' : Fr} {dst : Option Tmp} {v : Value} (h : A.put dst v = some A') (t : Nat) : A'.T.get t = if dst = some t then some v else A.T.get t := by
  unfold Fr.put at h
  cases dst with
  | none => cases h; simp
  | some d =>
    simp only at h
    obtain ⟨_, h⟩ := bif_some h
    cases h
    simp only [Tr.get_set]
    by_cases hd : t = d
    · subst hd; simp
    · rw [if_neg hd, if_neg (by simpa using fun e => hd e.symm)]
theorem put_same {A A' : Fr} {dst : Option Tmp} {v : Value} (h : A.put dst v = some A') : A'.fn = A.fn ∧ A'.n = A.n ∧ A'.defers = A.defers ∧ A'.round = A.round ∧ ∀ d, dst = some d → d < A.n := by
  unfold Fr.put at h
  cases dst with
  | none => cases h; exact ⟨rfl, rfl, rfl, rfl, fun _ e => by cases e⟩
  | some d =>
    simp only at h
    obtain ⟨hb, h⟩ := bif_some h
    have hlt : d < A.n := Nat.le_of_ble_eq_true hb
    cases h
    exact ⟨rfl, rfl, rfl, rfl, fun x e => by cases e; exact hlt⟩
theorem DStep.chg (hA : CallA C) {o : Oper} {A : Fr} {H H' : Hp} {k : Kd} {v : Value} (h : DStep P lo C ops o A H k v H') (hlo : lo ≤ H.next) : Chg lo H H' k := by
  cases h with
  | passed _ => rfl
  | val _ he _ =>
    unfold aOp at he
    cases hp : pureOp P A o with
    | some u => rw [hp] at he; cases he; rfl
    | none =>
      rw [hp] at he
      rcases heapOp_chg he with ⟨v', H'', e, q⟩ | ⟨H'', e, _⟩ | ⟨d, e⟩ | e | ⟨t, vs, e⟩ | ⟨u, e⟩ <;> cases e
      exact q
  | mk _ he hm =>
    unfold aOp at he
    rw [mk_pure hm] at he
    obtain ⟨_, cs, e, q, _⟩ := mk_R he hm
    exact ⟨rfl, cs, e, q⟩
  | skip _ he =>
    unfold aOp at he
    cases hp : pureOp P A o with
    | some u => rw [hp] at he; cases he
    | none =>
      rw [hp] at he
      rcases heapOp_chg he with ⟨v', H'', e, q⟩ | ⟨H'', e, q, _⟩ | ⟨d, e⟩ | e | ⟨t, vs, e⟩ | ⟨u, e⟩ <;> cases e
      exact q
  | full _ _ hc => exact hA _ _ _ _ _ _ hc hlo
  | quiet _ _ hc => exact hA _ _ _ _ _ _ hc (Nat.le_refl _)
  | one _ _ hc hb ho => exact ⟨(hA _ _ _ _ _ _ hc hlo).1, hb, fun c h1 h2 => ho c h1 h2⟩
theorem Chg.next {H H' : Hp} {k : Kd} (h : Chg lo H H' k) : H.next ≤ H'.next := by
  cases k with
  | pure => rw [show H' = H from h]; exact Nat.le_refl _
  | read b => rw [show H' = H from h]; exact Nat.le_refl _
  | heavy => exact h.1
  | store b => exact h.1
  | full => exact h.1
  | mk b => obtain ⟨_, cs, e, q⟩ := h; subst q; exact Nat.le_succ _
theorem Chg.calm {H H' : Hp} {k : Kd} (h : Chg lo H H' k) (hc : calm k = true) : ∀ c, c < H.next → H'.t.get c = H.t.get c := by
  cases k with
  | pure => rw [show H' = H from h]; exact fun _ _ => rfl
  | read b => rw [show H' = H from h]; exact fun _ _ => rfl
  | heavy => exact h.2
  | store b => cases hc
  | full => cases hc
  | mk b => obtain ⟨_, cs, e, q⟩ := h; subst q; exact (Chg.new lo H _).2
theorem Chg.low {H H' : Hp} {k : Kd} (h : Chg lo H H' k) (hlo : lo ≤ H.next) : ∀ c, c < lo → H'.t.get c = H.t.get c := fun c hc => by
  cases k with
  | pure => rw [show H' = H from h]
  | read b => rw [show H' = H from h]
  | heavy => exact h.2 c (by omega)
  | store b => exact h.2.2 c (by omega) (by have := h.2.1; omega)
  | full => exact h.2 c hc
  | mk b => obtain ⟨_, cs, e, q⟩ := h; subst q; exact (Chg.new lo H _).2 c (by omega)
variable (hA : CallA C) (hT : Trace P lo C ops As Hs kd n) (hlo : lo ≤ (Hs 0).next)
include hA hT hlo
theorem tr_next : ∀ j, j ≤ n → lo ≤ (Hs j).next ∧ (Hs 0).next ≤ (Hs j).next := by
  intro j
  induction j with
  | zero => intro _; exact ⟨hlo, Nat.le_refl _⟩
  | succ j ih =>
    intro hj
    obtain ⟨h1, h2⟩ := ih (by omega)
    obtain ⟨o, v, _, hd, _⟩ := hT.step j (by omega)
    have := (hd.chg hA h1).next
    omega
theorem tr_chg {j : Nat} (hj : j < n) : Chg lo (Hs j) (Hs (j + 1)) (kd j) := by
  obtain ⟨o, v, _, hd, _⟩ := hT.step j hj
  exact hd.chg hA (tr_next hA hT hlo j (by omega)).1
theorem tr_mono {i j : Nat} (hij : i ≤ j) (hj : j ≤ n) : (Hs i).next ≤ (Hs j).next := by
  induction hij with
  | refl => exact Nat.le_refl _
  | step h ih =>
    rename_i m
    have q1 := (tr_chg hA hT hlo (j := m) (by omega)).next
    have q2 := ih (by omega)
    exact Nat.le_trans q2 q1
theorem tr_agree {i p : Nat} (hip : i ≤ p) (hp : p ≤ n) (hc : ∀ j, i ≤ j → j < p → calm (kd j) = true) : ∀ c, c < (Hs i).next → (Hs p).t.get c = (Hs i).t.get c := by
  induction hip with
  | refl => exact fun _ _ => rfl
  | step h ih =>
    rename_i m
    intro c hlt
    have h1 := ih (by omega) (fun j a b => hc j a (by omega)) c hlt
    have h2 := (tr_chg hA hT hlo (j := m) (by omega)).calm (hc m h (by omega)) c (by have := tr_mono hA hT hlo h (by omega : m ≤ n); omega)
    exact h2.trans h1
theorem tr_block {i p b : Nat} (hip : i ≤ p) (hp : p ≤ n) (hb : b < (Hs i).next) (hc : ∀ j, i ≤ j → j < p → calm (kd j) = true ∨ ∃ c, kd j = .store c ∧ c ≠ b) : (Hs p).t.get b = (Hs i).t.get b := by
  induction hip with
  | refl => rfl
  | step h ih =>
    rename_i m
    have h1 := ih (by omega) (fun j a b => hc j a (by omega))
    have hlt : b < (Hs m).next := by have := tr_mono hA hT hlo h (by omega : m ≤ n); omega
    have hch := tr_chg hA hT hlo (j := m) (by omega)
    rcases hc m h (by omega) with q | ⟨c, q, hne⟩
    · exact (hch.calm q b hlt).trans h1
    · rw [q] at hch
      exact (hch.2.2 b hlt (fun e => hne e.symm)).trans h1
theorem tr_low {j : Nat} (hj : j ≤ n) : ∀ c, c < lo → (Hs j).t.get c = (Hs 0).t.get c := by
  induction j with
  | zero => exact fun _ _ => rfl
  | succ j ih =>
    intro c hc
    have h1 := ih (by omega) c hc
    have h2 := (tr_chg hA hT hlo (j := j) (by omega)).low (tr_next hA hT hlo j (by omega)).1 c hc
    exact h2.trans h1
omit hA hlo
theorem tr_frame : ∀ j, j ≤ n → (As j).fn = (As 0).fn ∧ (As j).n = (As 0).n ∧ (As j).defers = (As 0).defers ∧ (As j).round = (As 0).round := by
  intro j
  induction j with
  | zero => intro _; exact ⟨rfl, rfl, rfl, rfl⟩
  | succ j ih =>
    intro hj
    obtain ⟨h1, h2, h3, h4⟩ := ih (by omega)
    obtain ⟨o, v, _, _, hp⟩ := hT.step j (by omega)
    obtain ⟨g1, g2, g3, g4, _⟩ := put_same hp
    exact ⟨g1.trans h1, g2.trans h2, g3.trans h3, g4.trans h4⟩
end
def Ren.below (r : Ren) (n : Nat) : Ren := fun b => if b < n then r b else none
theorem below_some {r : Ren} {n b : Nat} {loc : Loc} (h : r.below n b = some loc) : b < n ∧ r b = some loc := by
  unfold Ren.below at h
  split at h
  · exact ⟨by assumption, h⟩
  · cases h
theorem below_mk {r : Ren} {n b : Nat} {loc : Loc} (hb : b < n) (h : r b = some loc) : r.below n b = some loc := by
  unfold Ren.below; rw [if_pos hb]; exact h
theorem below_le (r : Ren) (n : Nat) : Ren.Le (r.below n) r := fun _ _ e => (below_some e).2
theorem below_mono {r r2 : Ren} (h : Ren.Le r r2) {n n2 : Nat} (hn : n ≤ n2) : Ren.Le (r.below n) (r2.below n2) := fun b loc e => by
  obtain ⟨a, q⟩ := below_some e
  exact below_mk (by omega) (h b loc q)
theorem below_same {r : Ren} {n : Nat} (h : ∀ b loc, r b = some loc → b < n) : r.below n = r := by
  funext b
  unfold Ren.below
  split
  · rfl
  · rename_i hb
    cases e : r b with
    | none => rfl
    | some loc => exact absurd (h b loc e) hb
/-! ### The state of a drawn region, some of whose operations have run -/
def dstAt (ops : Array Oper) (i : Nat) : Option Tmp := (ops[i]?).bind (·.dst)
def Done (L : Array Bool) (i : Nat) : Prop := L.getD i false = true
def Wr (k : Kd) (b : Nat) : Prop := k = .store b ∨ k = .full
def Sync (kd : Nat → Kd) (n : Nat) (L : Array Bool) (b q : Nat) : Prop := ∀ j, j < n → Wr (kd j) b → (Done L j ↔ j < q)
def Weird (lo : Nat) (H : Hp) (b : Nat) : Prop := b < lo ∧ ∃ cs, H.t.get b = some (.ro cs)
structure RelQ (P : Program) (base n : Nat) (kd : Nat → Kd) (L : Array Bool) (r' : Ren) (Hq : Hp) (q : Nat) (w' : World) : Prop where
  dom : ∀ b loc, r' b = some loc → b < Hq.next → Sync kd n L b q → Dm base w'.heap.size loc (Hq.t.get b)
  cont : ∀ b loc ob, r' b = some loc → b < Hq.next → Sync kd n L b q → Hq.t.get b = some ob → ObR P (r'.below Hq.next) loc ob w'.heap[loc.blk]?
  inj : ∀ b1 b2 l1 l2, r' b1 = some l1 → r' b2 = some l2 → b1 < Hq.next → b2 < Hq.next → Sync kd n L b1 q → Sync kd n L b2 q → l1.blk = l2.blk → live Hq b1 → live Hq b2 → b1 = b2
structure Inv (P : Program) (lo base : Nat) (ops : Array Oper) (n : Nat) (As : Nat → Fr) (Hs : Nat → Hp) (kd : Nat → Kd) (r : Ren) (w : World) (L : Array Bool) (s : Nat) (r' : Ren) (w' : World) (tm : Array Value) : Prop where
  size : L.size = ops.size
  closed : ∀ (i : Nat) o, ops[i]? = some o → Done L i → ∀ e ∈ o.after, Region.binds .any e = true → Done L e.on
  sle : s ≤ n
  sdone : ∀ i, i < s → (kd i = .heavy ∨ calm (kd i) = false) → Done L i
  rels : ∀ q, s ≤ q → q ≤ n → RelQ P base n kd L r' (Hs q) q w'
  own : ∀ b loc, r' b = some loc → b < (Hs 0).next ∨ ∃ i, i < n ∧ Done L i ∧ (Hs i).next ≤ b ∧ b < (Hs (i + 1)).next
  low : RoLow lo (Hs 0) → ∀ b loc, r' b = some loc → loc.blk < w'.heap.size ∨ Weird lo (Hs 0) b
  sep : RoLow lo (Hs 0) → ∀ j, s ≤ j → j < n → Done L j → ∀ b loc, kd j = .mk b → r' b = some loc → ∀ b0 loc0, r' b0 = some loc0 → loc0.blk = loc.blk → b0 = b ∨ Weird lo (Hs 0) b0
  top : base ≤ w'.heap.size
  tsize : tm.size = (As 0).n
  tm : ∀ t m, m ≤ n → (∀ i, i < m → dstAt ops i = some t → Done L i) → (∀ i, m ≤ i → i < n → dstAt ops i = some t → ¬ Done L i) → ∀ v, (As m).T.get t = some v → ∃ v', tm[t]? = some v' ∧ VR (r'.below (Hs (max m s)).next) v v'
  pk : PK lo r (Hs 0).next w r' w'
theorem Inv.anc {P : Program} {lo base : Nat} {ops : Array Oper} {n : Nat} {As : Nat → Fr} {Hs : Nat → Hp} {kd : Nat → Kd} {r : Ren} {w : World} {L : Array Bool} {s : Nat} {r' : Ren} {w' : World} {tm : Array Value} (h : Inv P lo base ops n As Hs kd r w L s r' w' tm) {j i : Nat}
    (ha : Anc ops j i) : Done L j → Done L i := by
  induction ha with
  | edge ho he hb => exact fun hj => h.closed _ _ ho hj _ he hb
  | more ho he hb _ ih => exact fun hj => ih (h.closed _ _ ho hj _ he hb)
theorem Inv.ready {P : Program} {lo base : Nat} {ops : Array Oper} {n : Nat} {As : Nat → Fr} {Hs : Nat → Hp} {kd : Nat → Kd} {r : Ren} {w : World} {L : Array Bool} {s : Nat} {r' : Ren} {w' : World} {tm : Array Value} (h : Inv P lo base ops n As Hs kd r w L s r' w' tm) {i j : Nat} {o : Oper}
    (ho : ops[i]? = some o) (hr : ∀ e ∈ o.after, Region.binds .any e = true → Done L e.on) (ha : Anc ops i j) : Done L j := by
  cases ha with
  | edge ho' he hb => rw [ho] at ho'; cases ho'; exact hr _ he hb
  | more ho' he hb ha => rw [ho] at ho'; cases ho'; exact h.anc ha (hr _ he hb)
theorem done_set {L : Array Bool} {i j : Nat} (hi : i < L.size) : Done (L.setIfInBounds i true) j ↔ (j = i ∨ Done L j) := by
  unfold Done
  simp only [Array.getD_eq_getD_getElem?, Array.getElem?_setIfInBounds]
  by_cases h : i = j
  · subst h; simp [hi]
  · rw [if_neg h]
    constructor
    · exact .inr
    · rintro (e | e)
      · exact absurd e.symm h
      · exact e
theorem Inv.next {P : Program} {lo base : Nat} {C : CallF} {ops : Array Oper} {n : Nat} {As : Nat → Fr} {Hs : Nat → Hp} {kd : Nat → Kd} {r : Ren} {w : World} {L : Array Bool} {s : Nat} {r' : Ren} {w' : World} {tm : Array Value} (hA : CallA C) (hlo : lo ≤ (Hs 0).next) (hS : RegS ops) (hT : Trace P lo C ops As Hs kd n)
    (h : Inv P lo base ops n As Hs kd r w L s r' w' tm) {i : Nat} {o : Oper} {v v' : Value} (hi : i < n) (ho : ops[i]? = some o) (hun : ¬ Done L i) (hr : ∀ e ∈ o.after, Region.binds .any e = true → Done L e.on) (hput : (As i).put o.dst v = some (As (i + 1)))
    {s2 : Nat} {r2 : Ren} {w2 : World} (hss : s ≤ s2) (hs2 : s2 ≤ n) (hsd : ∀ j, j < s2 → (kd j = .heavy ∨ calm (kd j) = false) → j = i ∨ Done L j) (hrel : ∀ q, s2 ≤ q → q ≤ n → RelQ P base n kd (L.setIfInBounds i true) r2 (Hs q) q w2) (hle : Ren.Le r' r2)
    (hown : ∀ b loc, r2 b = some loc → r' b = some loc ∨ ((Hs i).next ≤ b ∧ b < (Hs (i + 1)).next)) (hlow : RoLow lo (Hs 0) → ∀ b loc, r2 b = some loc → loc.blk < w2.heap.size ∨ Weird lo (Hs 0) b)
    (hsep : RoLow lo (Hs 0) → ∀ j, s2 ≤ j → j < n → (j = i ∨ Done L j) → ∀ b loc, kd j = .mk b → r2 b = some loc → ∀ b0 loc0, r2 b0 = some loc0 → loc0.blk = loc.blk → b0 = b ∨ Weird lo (Hs 0) b0) (htop : base ≤ w2.heap.size)
    (hv : VR (r2.below (Hs (max (i + 1) s2)).next) v v') (hpk : PK lo r (Hs 0).next w r2 w2) :
    Inv P lo base ops n As Hs kd r w (L.setIfInBounds i true) s2 r2 w2 (putT tm o.dst v') := by
  have hnle := hT.le
  have hLi : i < L.size := by rw [h.size]; omega
  have hds : dstAt ops i = o.dst := by simp [dstAt, ho]
  refine ⟨by simpa using h.size, ?_, hs2, fun j hj hk => (done_set hLi).2 (hsd j hj hk), hrel, ?_, hlow, fun hr j h1 h2 h3 => hsep hr j h1 h2 ((done_set hLi).1 h3), htop, ?_, ?_, hpk⟩
  · intro j o' ho' hj e he hb
    rw [done_set hLi] at hj ⊢
    rcases hj with rfl | hj
    · rw [ho] at ho'; cases ho'; exact .inr (hr e he hb)
    · exact .inr (h.closed j o' ho' hj e he hb)
  · intro b loc e
    rcases hown b loc e with q | q
    · rcases h.own b loc q with q | ⟨j, a, b', c⟩
      · exact .inl q
      · exact .inr ⟨j, a, (done_set hLi).2 (.inr b'), c⟩
    · exact .inr ⟨i, hi, (done_set hLi).2 (.inl rfl), q⟩
  · unfold putT
    cases o.dst <;> simp [h.tsize]
  · intro t m hm h1 h2 u hu
    by_cases hdt : o.dst = some t
    · -- the operation's own temporary
      have him : i < m := by
        rcases Nat.lt_or_ge i m with q | q
        · exact q
        · exact absurd ((done_set hLi).2 (.inl rfl)) (h2 i q hi (by rw [hds]; exact hdt))
      -- nobody between writes it
      have hno : ∀ j, i < j → j < m → dstAt ops j ≠ some t := fun j hij hjm hd => by
        have hdj := h1 j hjm hd
        rw [done_set hLi] at hdj
        rcases hdj with rfl | hdj
        · omega
        · have hoj : ops[j]? = some ops[j] := Array.getElem?_eq_getElem (by omega)
          have hdj' : ops[j].dst = some t := by simpa [dstAt, hoj] using hd
          have ha := hS.apart i j o ops[j] ho hoj hij (by
            unfold hit sameD
            rw [hdj', hdt]; simp [Nat.beq_refl])
          exact hun (h.anc ha hdj)
      have hgo : ∀ m, i < m → m ≤ n → (∀ j, i < j → j < m → dstAt ops j ≠ some t) → (As m).T.get t = some v := by
        intro m
        induction m with
        | zero => intro a _ _; omega
        | succ m ih =>
          intro a b c
          obtain ⟨om, vm, hom, _, hpm⟩ := hT.step m (by omega)
          by_cases hmi : m = i
          · subst hmi
            rw [ho] at hom; cases hom
            rw [put_get hput, if_pos hdt]
          · rw [put_get hpm, if_neg]
            · exact ih (by omega) (by omega) (fun j x y => c j x (by omega))
            · have := c m (by omega) (by omega)
              simpa [dstAt, hom] using this
      rw [hgo m him hm hno] at hu
      cases hu
      have hlt : t < tm.size := by
        rw [h.tsize, ← (tr_frame hT i (by omega)).2.1]
        exact (put_same hput).2.2.2.2 t hdt
      refine ⟨v', ?_, hv.mono (below_mono (.refl _) (tr_mono hA hT hlo (by omega) (by omega)))⟩
      rw [hdt]
      simp [putT, hlt]
    · -- another one
      have h1' : ∀ j, j < m → dstAt ops j = some t → Done L j := fun j hj hd => by
        have := h1 j hj hd
        rw [done_set hLi] at this
        rcases this with rfl | q
        · rw [hds] at hd; exact absurd hd hdt
        · exact q
      have h2' : ∀ j, m ≤ j → j < n → dstAt ops j = some t → ¬ Done L j := fun j a b c d => h2 j a b c ((done_set hLi).2 (.inr d))
      obtain ⟨u', e, q⟩ := h.tm t m hm h1' h2' u hu
      refine ⟨u', ?_, q.mono (below_mono hle (tr_mono hA hT hlo (by omega) (by omega)))⟩
      unfold putT
      cases hd : o.dst with
      | none => exact e
      | some d =>
        have hne : d ≠ t := fun x => hdt (by rw [hd, x])
        simp only [Array.getElem?_setIfInBounds]
        rw [if_neg hne]; exact e
theorem Inv.reads {P : Program} {lo base : Nat} {C : CallF} {ops : Array Oper} {n : Nat} {As : Nat → Fr} {Hs : Nat → Hp} {kd : Nat → Kd} {r : Ren} {w : World} {L : Array Bool} {s : Nat} {r' : Ren} {w' : World} {tm : Array Value} (hS : RegS ops) (hT : Trace P lo C ops As Hs kd n)
    (h : Inv P lo base ops n As Hs kd r w L s r' w' tm) {i : Nat} {o : Oper} (hi : i ≤ n) (ho : ops[i]? = some o) (hun : ¬ Done L i) (hr : ∀ e ∈ o.after, Region.binds .any e = true → Done L e.on) :
    TmpR (r'.below (Hs (max i s)).next) ((As i).cut (readsOf ops o)).n ((As i).cut (readsOf ops o)).T tm := by
  have hnle := hT.le
  refine ⟨by rw [h.tsize]; exact (tr_frame hT i (by omega)).2.1.symm, fun t v hv => ?_⟩
  simp only [Fr.cut, cutT_get] at hv
  by_cases ht : t ∈ readsOf ops o
  · rw [if_pos ht] at hv
    have hin : ∀ d, d = t → hitD (some d) (readsOf ops o) = true := fun d hd => by
      subst hd
      unfold hitD
      exact List.any_eq_true.2 ⟨d, ht, by simp [Nat.beq_refl]⟩
    refine h.tm t i (by omega) (fun j hj hd => ?_) (fun j hij hj hd hdone => ?_) v hv
    · have hoj : ops[j]? = some ops[j] := Array.getElem?_eq_getElem (by omega)
      have hdj : ops[j].dst = some t := by simpa [dstAt, hoj] using hd
      have ha := hS.apart j i ops[j] o hoj ho hj (by
        unfold hit
        rw [hdj]; simp only [hin t rfl, Bool.or_true, Bool.true_or])
      exact h.ready ho hr ha
    · by_cases hji : j = i
      · subst hji; exact hun hdone
      · have hoj : ops[j]? = some ops[j] := Array.getElem?_eq_getElem (by omega)
        have hdj : ops[j].dst = some t := by simpa [dstAt, hoj] using hd
        have ha := hS.apart i j o ops[j] ho hoj (by omega) (by
          unfold hit
          rw [hdj]; simp only [hin t rfl, Bool.true_or])
        exact hun (h.anc ha hdone)
  · rw [if_neg ht] at hv; cases hv
end Go.Ax

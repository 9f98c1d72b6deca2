import Derived.Test.YtkdgngdnmgelnaaAxS5
set_option linter.all false
namespace Go.Ax
open Go Go.RowKit
def CellsR (r : Ren) (d : Nat) (cs : List Value) (C : Array Value) : Prop := ∀ (i : Nat) v, cs[i]? = some v → ∃ v', C[d + i]? = some v' ∧ VR r v v'
def TgR (r : Ren) : Target → Target → Prop
  | .fn f cap, t => ∃ f' cap', t = .fn f' cap' ∧ FnR r f f' ∧ LR r cap.toList cap'.toList
  | .collected b, t => ∃ loc, r b = some loc ∧ t = .collected loc.blk
  | _, _ => False
def DR (r : Ren) (d d' : Deferred) : Prop := TgR r d.target d'.target ∧ LR r d.args.toList d'.args.toList
inductive DsR (r : Ren) : List Deferred → List Deferred → Prop
  | nil : DsR r [] []
  | cons {d d' : Deferred} {l l' : List Deferred} : DR r d d' → DsR r l l' → DsR r (d :: l) (d' :: l')
theorem TgR.mono {r r' : Ren} (h : Ren.Le r r') {t t' : Target} (k : TgR r t t') : TgR r' t t' := by
  cases t with
  | fn f cap => obtain ⟨f', cap', e, a, b⟩ := k; exact ⟨f', cap', e, a.mono h, b.mono h⟩
  | collected b => obtain ⟨loc, e, q⟩ := k; exact ⟨loc, h _ _ e, q⟩
  | _ => exact k.elim
theorem DR.mono {r r' : Ren} (h : Ren.Le r r') {d d' : Deferred} (k : DR r d d') : DR r' d d' := ⟨k.1.mono h, k.2.mono h⟩
theorem DsR.mono {r r' : Ren} (h : Ren.Le r r') {d d' : List Deferred} (k : DsR r d d') : DsR r' d d' := by
  induction k with
  | nil => exact .nil
  | cons a _ ih => exact .cons (a.mono h) ih
theorem DsR.append {r : Ren} {a a' b b' : List Deferred} (h : DsR r a a') (k : DsR r b b') : DsR r (a ++ b) (a' ++ b') := by
  induction h with
  | nil => exact k
  | cons x _ ih => exact .cons x ih
def ObR (P : Program) (r : Ren) (loc : Loc) : Ob → Option Obj → Prop
  | .cells cs e lz, o => ∃ C, o = some (.cells C e (0, 0)) ∧ CellsR r loc.delta cs C ∧
      ((lz = false ∧ loc.loose = none ∧ loc.delta = 0 ∧ C.size = cs.length) ∨
        ∃ total sz, lz = true ∧ loc.loose = some (total, sz) ∧ C.size = total ∧ cs.length + loc.delta ≤ total ∧ 0 < sz ∧ P.cellsOf e = sz)
  | .lp st pe fn n T ps asg body df, o => ∃ R : Loop, o = some (.loop R) ∧ R.state = st ∧ R.pending = pe ∧ R.fn = fn ∧ TmpR r n T R.tmps ∧ R.params.toList = ps ∧ R.assign = asg ∧ R.body = body ∧
      ∃ l, r df = some l ∧ R.defers = l.blk
  | .dfr none, o => o = some (.deferred none)
  | .dfr (some ds), o => ∃ ds', o = some (.deferred (some ds')) ∧ DsR r ds ds'
  | .dead, _ => True
  | .mp es c, o => o = some (.map es c)
  | .ro cs, o => loc.loose = none ∧ ∀ (i : Nat) v, cs[i]? = some v → ∃ C e f v', o = some (.cells C e f) ∧ C[loc.delta + i]? = some v' ∧ VR r v v'
theorem CellsR.mono {r r' : Ren} (h : Ren.Le r r') {d : Nat} {cs : List Value} {C : Array Value} (k : CellsR r d cs C) : CellsR r' d cs C :=
  fun i v e => let ⟨v', a, b⟩ := k i v e; ⟨v', a, b.mono h⟩
theorem ObR.mono {P : Program} {r r' : Ren} (h : Ren.Le r r') {loc : Loc} {o : Ob} {x : Option Obj} (k : ObR P r loc o x) : ObR P r' loc o x := by
  cases o with
  | cells cs e lz => obtain ⟨C, a, b, c⟩ := k; exact ⟨C, a, b.mono h, c⟩
  | lp st pe fn n T ps asg body df =>
    obtain ⟨R, a, b, c, d, e, f, g, i, l, j, q⟩ := k
    exact ⟨R, a, b, c, d, e.mono h, f, g, i, l, h _ _ j, q⟩
  | dfr ds => cases ds with
    | none => exact k
    | some ds => obtain ⟨ds', a, b⟩ := k; exact ⟨ds', a, b.mono h⟩
  | dead => trivial
  | mp es c => exact k
  | ro cs => exact ⟨k.1, fun i v e => let ⟨C, e', f, v', a, b, c⟩ := k.2 i v e; ⟨C, e', f, v', a, b, c.mono h⟩⟩
def isRo : Ob → Bool
  | .ro _ => true
  | _ => false
def live (H : Hp) (b : Nat) : Prop := ∃ o, H.t.get b = some o ∧ o ≠ .dead ∧ isRo o = false
def Dm (base size : Nat) (loc : Loc) : Option Ob → Prop
  | some (.ro cs) => cs = [] ∨ loc.blk < base
  | _ => base ≤ loc.blk ∧ loc.blk < size
theorem Dm.more {base s s' : Nat} {loc : Loc} {o : Option Ob} (h : Dm base s loc o) (k : s ≤ s') : Dm base s' loc o := by
  cases o with
  | none => exact ⟨h.1, Nat.lt_of_lt_of_le h.2 k⟩
  | some o => cases o <;> first | exact h | exact ⟨h.1, Nat.lt_of_lt_of_le h.2 k⟩
theorem Dm.own {base s : Nat} {loc : Loc} {o : Ob} (h : Dm base s loc (some o)) (k : isRo o = false) : base ≤ loc.blk ∧ loc.blk < s := by
  cases o <;> first | exact h | cases k
theorem Dm.of {base s : Nat} {loc : Loc} {o : Ob} (k : isRo o = false) (h : base ≤ loc.blk ∧ loc.blk < s) : Dm base s loc (some o) := by
  cases o <;> first | exact h | cases k
theorem ObR.keep {P : Program} {r : Ren} {loc : Loc} {o : Ob} {x y : Option Obj} {base s : Nat} (h : ObR P r loc o x) (d : Dm base s loc (some o)) (hb : base ≤ s) (k : loc.blk < s → y = x) : ObR P r loc o y := by
  cases o with
  | ro cs =>
    rcases d with d | d
    · subst d; exact ⟨h.1, fun i v e => by simp at e⟩
    · rw [k (Nat.lt_of_lt_of_le d hb)]; exact h
  | _ => rw [k d.2]; exact h
structure Rel (P : Program) (r : Ren) (base : Nat) (H : Hp) (w : World) : Prop where
  dom : ∀ b loc, r b = some loc → b < H.next ∧ Dm base w.heap.size loc (H.t.get b)
  cont : ∀ b loc o, r b = some loc → H.t.get b = some o → ObR P r loc o w.heap[loc.blk]?
  inj : ∀ b b' loc loc', r b = some loc → r b' = some loc' → loc.blk = loc'.blk → live H b → live H b' → b = b'
  top : base ≤ w.heap.size
structure Str (w w' : World) : Prop where
  os : w'.os = w.os
  tape : w'.tape = w.tape
  output : w'.output = w.output
  size : w.heap.size ≤ w'.heap.size
theorem Str.refl (w : World) : Str w w := ⟨rfl, rfl, rfl, Nat.le_refl _⟩
theorem Str.trans {a b c : World} (h : Str a b) (k : Str b c) : Str a c := ⟨k.os.trans h.os, k.tape.trans h.tape, k.output.trans h.output, Nat.le_trans h.size k.size⟩
structure Post (P : Program) (lo base : Nat) (r : Ren) (H : Hp) (w : World) (r' : Ren) (H' : Hp) (w' : World) : Prop where
  le : Ren.Le r r'
  rel : Rel P r' base H' w'
  next : H.next ≤ H'.next
  place : ∀ b loc, r' b = some loc → r b = some loc ∨ (H.next ≤ b ∧ ((w.heap.size ≤ loc.blk ∧ loc.blk < w'.heap.size) ∨ ∃ b0 loc0, r b0 = some loc0 ∧ loc0.blk = loc.blk ∧ lo ≤ b0))
  keep : ∀ k, k < w.heap.size → (∀ b loc, r b = some loc → loc.blk = k → b < lo) → w'.heap[k]? = w.heap[k]?
  old : ∀ b, b < lo → H'.t.get b = H.t.get b
  str : Str w w'
section
variable {P : Program} {lo base : Nat} {r : Ren} {H : Hp} {w : World}
theorem Post.refl (h : Rel P r base H w) : Post P lo base r H w r H w := ⟨.refl r, h, Nat.le_refl _, fun _ _ e => .inl e, fun _ _ _ => rfl, fun _ _ => rfl, .refl w⟩
theorem Post.trans {r1 r2 : Ren} {H1 H2 : Hp} {w1 w2 : World} (hlo : lo ≤ H.next) (h : Post P lo base r H w r1 H1 w1) (k : Post P lo base r1 H1 w1 r2 H2 w2) : Post P lo base r H w r2 H2 w2 where
  le := h.le.trans k.le
  rel := k.rel
  next := Nat.le_trans h.next k.next
  place := fun b loc e => by
    have hks := k.str.size
    have up : ∀ b loc, (r b = some loc ∨ (H.next ≤ b ∧ ((w.heap.size ≤ loc.blk ∧ loc.blk < w1.heap.size) ∨ ∃ b0 loc0, r b0 = some loc0 ∧ loc0.blk = loc.blk ∧ lo ≤ b0))) → (r b = some loc ∨ (H.next ≤ b ∧ ((w.heap.size ≤ loc.blk ∧ loc.blk < w2.heap.size) ∨ ∃ b0 loc0, r b0 = some loc0 ∧ loc0.blk = loc.blk ∧ lo ≤ b0))) := fun b loc q => by
      rcases q with q | ⟨q1, q2 | q2⟩
      · exact .inl q
      · exact .inr ⟨q1, .inl ⟨q2.1, by omega⟩⟩
      · exact .inr ⟨q1, .inr q2⟩
    rcases k.place b loc e with e1 | ⟨e1, e2⟩
    · exact up _ _ (h.place b loc e1)
    · refine .inr ⟨Nat.le_trans h.next e1, ?_⟩
      rcases e2 with e2 | ⟨b0, loc0, f1, f2, f3⟩
      · exact .inl ⟨Nat.le_trans h.str.size e2.1, e2.2⟩
      · rcases up _ _ (h.place b0 loc0 f1) with g | ⟨g1, g2⟩
        · exact .inr ⟨b0, loc0, g, f2, f3⟩
        · rw [← f2]; exact g2
  keep := fun q hq hp => by
    rw [k.keep q (Nat.lt_of_lt_of_le hq h.str.size) ?_, h.keep q hq hp]
    intro b loc e eq
    rcases h.place b loc e with g | ⟨g1, g2⟩
    · exact hp b loc g eq
    · rcases g2 with g2 | ⟨b0, loc0, f1, f2, f3⟩
      · omega
      · have := hp b0 loc0 f1 (f2.trans eq)
        omega
  old := fun b hb => (k.old b hb).trans (h.old b hb)
  str := h.str.trans k.str
theorem Post.lower {r1 : Ren} {H1 : Hp} {w1 : World} {lo' : Nat} (h : Post P lo base r H w r1 H1 w1) (hl : lo' ≤ lo) : Post P lo' base r H w r1 H1 w1 where
  le := h.le
  rel := h.rel
  next := h.next
  place := fun b loc e => by
    rcases h.place b loc e with g | ⟨g1, g2 | ⟨b0, l0, a, b', c⟩⟩
    · exact .inl g
    · exact .inr ⟨g1, .inl g2⟩
    · exact .inr ⟨g1, .inr ⟨b0, l0, a, b', by omega⟩⟩
  keep := fun k hk hp => h.keep k hk fun b loc e q => by have := hp b loc e q; omega
  old := fun b hb => h.old b (by omega)
  str := h.str
theorem Rel.at (h : Rel P r base H w) {b : Nat} {loc : Loc} {o : Ob} (hr : r b = some loc) (hb : H.t.get b = some o) (k : isRo o = false) : base ≤ loc.blk ∧ loc.blk < w.heap.size := by
  have := (h.dom b loc hr).2
  rw [hb] at this
  exact this.own k
theorem Rel.liveAt (h : Rel P r base H w) {b : Nat} {loc : Loc} (hr : r b = some loc) (hl : live H b) : base ≤ loc.blk ∧ loc.blk < w.heap.size := by
  obtain ⟨o, h1, _, h3⟩ := hl
  exact h.at hr h1 h3
theorem Post.below {r1 : Ren} {H1 : Hp} {w1 : World} (hrel : Rel P r base H w) (hro : ∀ b loc, r b = some loc → b < lo ∨ base ≤ loc.blk) (h : Post P lo base r H w r1 H1 w1) : Below base w w1 :=
  ⟨h.str.os, h.str.tape, h.str.output, h.str.size, fun k hk => h.keep k (Nat.lt_of_lt_of_le hk hrel.top) fun b loc e q => by have := hro b loc e; omega⟩
theorem Rel.drew (h : Rel P r base H w) (n : Nat) : Rel P r base H { w with drawn := n } := ⟨h.dom, h.cont, h.inj, h.top⟩
theorem Post.change (h : Rel P r base H w) {b : Nat} {loc : Loc} (hb : r b = some loc) (hl : live H b) (hlo : lo ≤ b) {o : Ob} {w' : World} (hs : w'.heap.size = w.heap.size)
    (ho : ∀ k, k ≠ loc.blk → w'.heap[k]? = w.heap[k]?) (hst : w'.os = w.os ∧ w'.tape = w.tape ∧ w'.output = w.output) (hR : ObR P r loc o w'.heap[loc.blk]?) (hno : isRo o = false := by rfl) :
    Post P lo base r H w r { H with t := H.t.set b o } w' where
  le := .refl r
  rel := {
    dom := fun b' l e => by
      rw [hs]
      refine ⟨(h.dom b' l e).1, ?_⟩
      simp only [Tr.get_set]
      by_cases hbb : b' = b
      · subst hbb
        rw [if_pos rfl]
        rw [hb] at e; cases e
        exact Dm.of hno (h.liveAt hb hl)
      · rw [if_neg hbb]; exact (h.dom b' l e).2
    cont := fun b' l o' e1 e2 => by
      simp only [Tr.get_set] at e2
      by_cases hbb : b' = b
      · subst hbb
        rw [if_pos rfl] at e2
        cases e2
        rw [hb] at e1; cases e1
        exact hR
      · rw [if_neg hbb] at e2
        have hob := h.cont b' l _ e1 e2
        have hdm := (h.dom b' l e1).2
        rw [e2] at hdm
        cases o' with
        | dead => trivial
        | ro cs =>
          have := (h.liveAt hb hl).1
          rcases hdm with q | q
          · subst q; exact ⟨hob.1, fun i v e => by simp at e⟩
          · rw [ho _ (by omega)]; exact hob
        | _ =>
          all_goals
            have hne : l.blk ≠ loc.blk := fun heq => hbb (h.inj b' b l loc e1 hb heq ⟨_, e2, by simp, rfl⟩ hl)
            rw [ho _ hne]
            exact hob
    inj := fun b1 b2 l1 l2 e1 e2 e3 v1 v2 => by
      have key : ∀ b', live { H with t := H.t.set b o } b' → live H b' := fun b' ⟨o', f1, f2⟩ => by
        simp only [Tr.get_set] at f1
        by_cases hbb : b' = b
        · subst hbb; exact hl
        · rw [if_neg hbb] at f1; exact ⟨o', f1, f2⟩
      exact h.inj b1 b2 l1 l2 e1 e2 e3 (key _ v1) (key _ v2)
    top := by rw [hs]; exact h.top }
  next := Nat.le_refl _
  place := fun _ _ e => .inl e
  keep := fun k hk hp => ho k (fun e => by have := hp b loc hb e.symm; omega)
  old := fun b' hb' => by simp only [Tr.get_set]; rw [if_neg (by omega)]
  str := ⟨hst.1, hst.2.1, hst.2.2, by omega⟩
def Ren.add (r : Ren) (b : Nat) (loc : Loc) : Ren := fun x => if x = b then some loc else r x
theorem Ren.add_same (r : Ren) (b : Nat) (loc : Loc) : r.add b loc b = some loc := by simp [Ren.add]
theorem Ren.le_add {r : Ren} {b : Nat} (loc : Loc) (h : r b = none) : Ren.Le r (r.add b loc) := fun x l e => by
  unfold Ren.add
  by_cases hx : x = b
  · subst hx; rw [h] at e; cases e
  · rw [if_neg hx]; exact e
theorem Rel.none_next (h : Rel P r base H w) : r H.next = none := by
  cases e : r H.next with
  | none => rfl
  | some loc => have := (h.dom _ _ e).1; omega
theorem Post.fresh (h : Rel P r base H w) (hlo : lo ≤ H.next) {o : Ob} {x : Obj} {lz : Option (Nat × Nat)} {w' : World} (hw : w'.heap = w.heap.push x) (hst : w'.os = w.os ∧ w'.tape = w.tape ∧ w'.output = w.output)
    (hR : ObR P (r.add H.next ⟨w.heap.size, 0, lz⟩) ⟨w.heap.size, 0, lz⟩ o (some x)) (hno : isRo o = false := by rfl) : Post P lo base r H w (r.add H.next ⟨w.heap.size, 0, lz⟩) (H.new o) w' := by
  have hn := h.none_next
  have hle := Ren.le_add (⟨w.heap.size, 0, lz⟩ : Loc) hn
  have hsize : w'.heap.size = w.heap.size + 1 := by rw [hw]; simp
  have hold : ∀ k, k < w.heap.size → w'.heap[k]? = w.heap[k]? := fun k hk => by rw [hw, Array.getElem?_push, if_neg (by omega)]
  have hnew : w'.heap[w.heap.size]? = some x := by rw [hw]; simp
  have part : ∀ b loc, r.add H.next ⟨w.heap.size, 0, lz⟩ b = some loc → (b = H.next ∧ loc = ⟨w.heap.size, 0, lz⟩) ∨ (b ≠ H.next ∧ r b = some loc) := fun b loc e => by
    unfold Ren.add at e
    by_cases hb : b = H.next
    · rw [if_pos hb] at e; cases e; exact .inl ⟨hb, rfl⟩
    · rw [if_neg hb] at e; exact .inr ⟨hb, e⟩
  have hbase := h.top
  refine ⟨hle, ⟨?_, ?_, ?_, by omega⟩, Nat.le_succ _, ?_, fun k hk _ => hold k hk, ?_, ⟨hst.1, hst.2.1, hst.2.2, by omega⟩⟩
  · intro b loc e
    rw [hsize]
    simp only [Hp.new, Tr.get_set]
    rcases part b loc e with ⟨rfl, rfl⟩ | ⟨hb, e⟩
    · rw [if_pos rfl]
      exact ⟨Nat.lt_succ_self _, Dm.of hno ⟨hbase, Nat.lt_succ_self _⟩⟩
    · have := h.dom b loc e
      rw [if_neg hb]
      exact ⟨Nat.lt_succ_of_lt this.1, this.2.more (Nat.le_succ _)⟩
  · intro b loc o' e e2
    simp only [Hp.new, Tr.get_set] at e2
    rcases part b loc e with ⟨rfl, rfl⟩ | ⟨hb, e⟩
    · rw [if_pos rfl] at e2; cases e2
      rw [hnew]; exact hR
    · rw [if_neg hb] at e2
      have hdm := (h.dom b loc e).2
      rw [e2] at hdm
      exact ((h.cont b loc o' e e2).keep hdm hbase (hold _)).mono hle
  · intro b1 b2 l1 l2 e1 e2 e3 v1 v2
    have key : ∀ b', b' ≠ H.next → live (H.new o) b' → live H b' := fun b' hb' ⟨o', f1, f2⟩ => by
      simp only [Hp.new, Tr.get_set] at f1
      rw [if_neg hb'] at f1; exact ⟨o', f1, f2⟩
    rcases part b1 l1 e1 with ⟨rfl, rfl⟩ | ⟨hb1, e1⟩
    · rcases part b2 l2 e2 with ⟨rfl, rfl⟩ | ⟨hb2, e2⟩
      · rfl
      · have := (h.liveAt e2 (key _ hb2 v2)).2
        simp only at e3; omega
    · rcases part b2 l2 e2 with ⟨rfl, rfl⟩ | ⟨hb2, e2⟩
      · have := (h.liveAt e1 (key _ hb1 v1)).2
        simp only at e3; omega
      · exact h.inj b1 b2 l1 l2 e1 e2 e3 (key _ hb1 v1) (key _ hb2 v2)
  · intro b loc e
    rcases part b loc e with ⟨rfl, rfl⟩ | ⟨hb, e⟩
    · exact .inr ⟨Nat.le_refl _, .inl ⟨Nat.le_refl _, by rw [hsize]; exact Nat.lt_succ_self _⟩⟩
    · exact .inl e
  · intro b hb
    simp only [Hp.new, Tr.get_set]; rw [if_neg (by omega)]
theorem Post.move (h : Rel P r base H w) (hlo : lo ≤ H.next) {b : Nat} {loc : Loc} (hb : r b = some loc) (hl : live H b) (hlb : lo ≤ b) {o : Ob} {d : Nat} {w' : World} (hs : w'.heap.size = w.heap.size)
    (ho : ∀ k, k ≠ loc.blk → w'.heap[k]? = w.heap[k]?) (hst : w'.os = w.os ∧ w'.tape = w.tape ∧ w'.output = w.output)
    (hR : ObR P (r.add H.next ⟨loc.blk, d, loc.loose⟩) ⟨loc.blk, d, loc.loose⟩ o w'.heap[loc.blk]?) (hno : isRo o = false := by rfl) :
    Post P lo base r H w (r.add H.next ⟨loc.blk, d, loc.loose⟩) ({ H with t := H.t.set b .dead }.new o) w' := by
  have hn := h.none_next
  have hle := Ren.le_add (⟨loc.blk, d, loc.loose⟩ : Loc) hn
  have hbn : b ≠ H.next := fun e => by have := (h.dom _ _ hb).1; omega
  have part : ∀ b' l, r.add H.next ⟨loc.blk, d, loc.loose⟩ b' = some l → (b' = H.next ∧ l = ⟨loc.blk, d, loc.loose⟩) ∨ (b' ≠ H.next ∧ r b' = some l) := fun b' l e => by
    unfold Ren.add at e
    by_cases hb' : b' = H.next
    · rw [if_pos hb'] at e; cases e; exact .inl ⟨hb', rfl⟩
    · rw [if_neg hb'] at e; exact .inr ⟨hb', e⟩
  have get : ∀ b', b' ≠ H.next → ({ H with t := H.t.set b .dead }.new o).t.get b' = if b' = b then some .dead else H.t.get b' := fun b' hb' => by
    simp only [Hp.new, Tr.get_set]; rw [if_neg hb']
  have key : ∀ b', b' ≠ H.next → live ({ H with t := H.t.set b .dead }.new o) b' → b' ≠ b ∧ live H b' := fun b' hb' ⟨o', f1, f2⟩ => by
    rw [get b' hb'] at f1
    by_cases hbb : b' = b
    · rw [if_pos hbb] at f1; cases f1; exact absurd rfl f2.1
    · rw [if_neg hbb] at f1; exact ⟨hbb, o', f1, f2⟩
  have hbase := h.top
  refine ⟨hle, ⟨?_, ?_, ?_, by omega⟩, Nat.le_succ _, ?_, ?_, ?_, ⟨hst.1, hst.2.1, hst.2.2, by omega⟩⟩
  · intro b' l e
    rw [hs]
    rcases part b' l e with ⟨rfl, rfl⟩ | ⟨hb', e⟩
    · refine ⟨Nat.lt_succ_self _, ?_⟩
      simp only [Hp.new, Tr.get_set]
      rw [if_pos trivial]
      have q := h.liveAt hb hl
      exact Dm.of (loc := ⟨loc.blk, d, loc.loose⟩) hno q
    · have := h.dom b' l e
      refine ⟨Nat.lt_succ_of_lt this.1, ?_⟩
      rw [get b' hb']
      by_cases hbb : b' = b
      · rw [if_pos hbb]
        subst hbb
        rw [hb] at e; cases e
        exact h.liveAt hb hl
      · rw [if_neg hbb]; exact this.2
  · intro b' l o' e e2
    rcases part b' l e with ⟨rfl, rfl⟩ | ⟨hb', e⟩
    · simp only [Hp.new, Tr.get_set] at e2
      rw [if_pos trivial] at e2; cases e2
      exact hR
    · rw [get b' hb'] at e2
      by_cases hbb : b' = b
      · rw [if_pos hbb] at e2; cases e2; trivial
      · rw [if_neg hbb] at e2
        have hob := h.cont b' l _ e e2
        have hdm := (h.dom b' l e).2
        rw [e2] at hdm
        cases o' with
        | dead => trivial
        | ro cs =>
          refine ObR.mono hle ?_
          have := (h.liveAt hb hl).1
          rcases hdm with q | q
          · subst q; exact ⟨hob.1, fun i v e => by simp at e⟩
          · rw [ho _ (by omega)]; exact hob
        | _ =>
          all_goals
            have hne : l.blk ≠ loc.blk := fun heq => hbb (h.inj b' b l loc e hb heq ⟨_, e2, by simp, rfl⟩ hl)
            rw [ho _ hne]
            exact hob.mono hle
  · intro b1 b2 l1 l2 e1 e2 e3 v1 v2
    rcases part b1 l1 e1 with ⟨rfl, rfl⟩ | ⟨hb1, e1⟩
    · rcases part b2 l2 e2 with ⟨rfl, rfl⟩ | ⟨hb2, e2⟩
      · rfl
      · obtain ⟨q1, q2⟩ := key _ hb2 v2
        exact absurd (h.inj b2 b l2 loc e2 hb e3.symm q2 hl) q1
    · obtain ⟨q1, q2⟩ := key _ hb1 v1
      rcases part b2 l2 e2 with ⟨rfl, rfl⟩ | ⟨hb2, e2⟩
      · exact absurd (h.inj b1 b l1 loc e1 hb e3 q2 hl) q1
      · exact h.inj b1 b2 l1 l2 e1 e2 e3 q2 (key _ hb2 v2).2
  · intro b' l e
    rcases part b' l e with ⟨rfl, rfl⟩ | ⟨hb', e⟩
    · exact .inr ⟨Nat.le_refl _, .inr ⟨b, loc, hb, rfl, hlb⟩⟩
    · exact .inl e
  · intro k hk hp
    exact ho k (fun e => by have := hp b loc hb e.symm; omega)
  · intro b' hb'
    rw [get b' (by omega), if_neg (by omega)]
end
end Go.Ax

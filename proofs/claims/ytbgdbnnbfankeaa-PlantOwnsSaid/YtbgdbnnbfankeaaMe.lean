import Derived.Test.YtbgdbnnbfankeaaMd
set_option linter.all false
/-! Slices of rows of plain cells, as arguments. -/
namespace Go.Ax
open Go Go.RowKit Go.Proofs Go.ChangeShapes Go.WideShapes Go.Deep

theorem IntT.row {α : Type} {P : Program} {t : TypeId} {k : Nat} {f : α → List Value} {mk : (Nat → Int) → α} (h : IntT P t) (hc : P.cellsOf t = k) (hmk : ∀ N : Nat → Int, f (mk N) = (List.range k).map fun j => Value.int .i64 (N j))
    {H : Type} {enc : TypeId × Value → H} {w : World} {base : Nat} {spare : Nat → Bool} {held : Bool} (fuel : Nat) (cs : List Value) (x : DataW H × List MemPlace) (hx : DataW.trod enc P w base spare held fuel t cs = some x) : ∃ y : α, cs = f y ∧ True := by
  obtain ⟨h1, h2⟩ := h _ _ _ _ _ _ _ _ _ hx
  have : ∃ N : Nat → Int, ∀ j, j < cs.length → cs[j]? = some (.int .i64 (N j)) := by
    refine ⟨fun j => match cs[j]? with | some (.int _ n) => n | _ => 0, fun j hj => ?_⟩
    obtain ⟨n, hn⟩ := h2 j hj
    simp [hn]
  obtain ⟨N, hN⟩ := this
  refine ⟨mk N, ?_, trivial⟩
  rw [hmk]
  apply List.ext_getElem?
  intro j
  by_cases hj : j < k
  · rw [hN j (by omega), List.getElem?_map, List.getElem?_range hj]; rfl
  · rw [List.getElem?_eq_none (by omega), List.getElem?_eq_none (by simp; omega)]
theorem spot_of {w : World} {a : Addr} {v : Value} (h : w.cell? a = some v) : a.spot = none := by
  unfold World.cell? at h
  split at h
  · cases hs : a.spot with
    | none => rfl
    | some x => rw [hs] at h; simp at h
  · cases h
theorem add_zero' (a : Addr) : a.add 0 = a := by unfold Addr.add; simp
theorem add_plain (b o n : Nat) : (⟨b, o, none⟩ : Addr).add n = ⟨b, o + n, none⟩ := by
  unfold Addr.add
  by_cases q : n = 0
  · simp [q]
  · simp [q]
/-- A slice of rows, as it is read; Q: what else is known of a row. -/
theorem rows_read {H : Type} {enc : TypeId × Value → H} {P : Program} {w : World} {base : Nat} {held : Bool} {α : Type} {f : α → List Value} {Q : α → Prop} {k : Nat} {t e : TypeId} {fuel : Nat} {v : Value} {x : DataW H × List MemPlace}
    (ht : P.underlying t = some (.slice e)) (hR : ∀ (fuel : Nat) (cs : List Value) (x : DataW H × List MemPlace), DataW.trod enc P w base (fun _ => true) held fuel e cs = some x → ∃ y : α, cs = f y ∧ Q y) (hc : P.cellsOf e = k) (hk : 0 < k) (hfk : ∀ y, (f y).length = k)
    (h : DataW.trod enc P w base (fun _ => true) held fuel t [v] = some x) : ∃ (l : List α), l.length ≤ maxLen ∧ (∀ y ∈ l, Q y) ∧
      (((v = .slice none 0 0 ∨ ∃ a', v = .slice (some a') 0 0) ∧ l = []) ∨ ∃ blk off cap, v = .slice (some ⟨blk, off, none⟩) l.length cap ∧ l.length ≤ cap ∧ ∀ (i : Nat) u, (l.flatMap f)[i]? = some u → w.cell? ⟨blk, off + i, none⟩ = some u) := by
  rcases open_slice ht h with ⟨h0, _⟩ | ⟨a, len, cap, m, n, D, Pl, hcs, hb, hl, hm, hmm, hx, hi⟩
  · cases h0
    exact ⟨[], by simp, fun y hy => by simp at hy, .inl ⟨.inl rfl, rfl⟩⟩
  cases hcs
  simp only [if_true] at hmm
  subst hmm
  rcases Nat.eq_zero_or_pos m with h0 | h0
  · subst h0
    have : len = 0 := by omega
    subst this
    exact ⟨[], by simp, fun y hy => by simp at hy, .inl ⟨.inr ⟨_, rfl⟩, rfl⟩⟩
  obtain ⟨blk, off, spot⟩ := a
  have hs : spot = none := by
    obtain ⟨cs', h1, h2⟩ := hi 0 h0
    obtain ⟨y, hy, _⟩ := hR _ _ _ h2
    obtain ⟨_, h5, h6⟩ := World.cells?_some h1
    have h7 := h6 0 (by omega)
    rw [Nat.zero_mul, add_zero', add_zero'] at h7
    have h8 : cs'[0]? = some (cs'[0]'(by omega)) := List.getElem?_eq_getElem _
    rw [h8] at h7
    exact spot_of h7
  subst hs
  have hrow : ∀ i, i < len → ∃ y : α, Q y ∧ ∀ j, j < k → ∃ u, (f y)[j]? = some u ∧ w.cell? ⟨blk, off + (i * k + j), none⟩ = some u := by
    intro i hil
    obtain ⟨cs', h1, h2⟩ := hi i (by omega)
    obtain ⟨y, rfl, hq⟩ := hR _ _ _ h2
    obtain ⟨_, h5, h6⟩ := World.cells?_some h1
    refine ⟨y, hq, fun j hj => ?_⟩
    have h7 := h6 j (by omega)
    have h8 : (f y)[j]? = some ((f y)[j]'(by rw [hfk]; exact hj)) := List.getElem?_eq_getElem _
    rw [h8, hc, add_plain, add_plain, Nat.add_assoc] at h7
    exact ⟨_, h8, h7⟩
  have key : ∀ n, n ≤ len → ∃ l : List α, l.length = n ∧ (∀ y ∈ l, Q y) ∧ ∀ (i : Nat) y, l[i]? = some y → ∀ j, j < k → ∃ u, (f y)[j]? = some u ∧ w.cell? ⟨blk, off + (i * k + j), none⟩ = some u := by
    intro n
    induction n with
    | zero => intro _; exact ⟨[], rfl, fun y hy => by simp at hy, fun i y e => by simp at e⟩
    | succ n ih =>
      intro hn
      obtain ⟨l, h1, hq, h2⟩ := ih (by omega)
      obtain ⟨y, hyq, hy⟩ := hrow n (by omega)
      refine ⟨l ++ [y], by simp [h1], fun z hz => ?_, fun i z e => ?_⟩
      · simp only [List.mem_append, List.mem_singleton] at hz
        rcases hz with hz | rfl
        · exact hq z hz
        · exact hyq
      rw [List.getElem?_append] at e
      split at e
      · exact h2 i z e
      · rename_i q
        have : i = n := by have := get_lt e; simp at this; omega
        subst this
        rw [h1, Nat.sub_self] at e
        simp at e; subst e
        exact hy
  obtain ⟨l, hl1, hq, hl2⟩ := key len (Nat.le_refl _)
  refine ⟨l, by omega, hq, .inr ⟨blk, off, m, by rw [hl1], by omega, fun i u hu => ?_⟩⟩
  obtain ⟨y, h1, h2⟩ := flat_get hk (fun y _ => hfk y) i u hu
  have hj : i % k < k := Nat.mod_lt _ hk
  obtain ⟨u', e1, e2⟩ := hl2 _ y h1 _ hj
  rw [h2] at e1; cases e1
  rw [Nat.div_add_mod'] at e2
  exact e2
end Go.Ax

/-! Arguments that point to what points: inner slices, rows of slices. -/
namespace Go.Ax
open Go Go.RowKit Go.Proofs Go.ChangeShapes Go.WideShapes Go.Deep

def renOf (imps : List Imp) : Ren := fun b => (imps[b]?).map fun x => ⟨x.blk, x.off, none⟩
theorem imports3 {P : Program} (imps outs : List Imp) (w : World) (h : ∀ x ∈ imps, ∀ (i : Nat) v, x.cs[i]? = some v → w.cell? ⟨x.blk, x.off + i, none⟩ = some v ∧ flat1 v = true)
    (hcs : ∀ x ∈ outs, ∀ (i : Nat) v, x.cs[i]? = some v → ∃ v', w.cell? ⟨x.blk, x.off + i, none⟩ = some v' ∧ VR (renOf imps) v v') :
    ∃ (r : Ren) (H : Hp), Rel P r w.heap.size H w ∧ H.next = (imps ++ outs).length ∧ (∀ b loc, r b = some loc → b < H.next) ∧ Ren.Le (renOf imps) r ∧ ∀ (b : Nat) x, (imps ++ outs)[b]? = some x → r b = some ⟨x.blk, x.off, none⟩ ∧ H.t.get b = some (.ro x.cs) := by
  have hall : ∀ x ∈ imps ++ outs, ∀ (i : Nat) v, x.cs[i]? = some v → ∃ v', w.cell? ⟨x.blk, x.off + i, none⟩ = some v' ∧ VR (renOf imps) v v' := by
    intro x hx i v hv
    rcases List.mem_append.1 hx with hx | hx
    · obtain ⟨h1, h2⟩ := h x hx i v hv
      exact ⟨v, h1, flat1_vr h2⟩
    · exact hcs x hx i v hv
  obtain ⟨t, ht⟩ := tr_of (fun b => ((imps ++ outs)[b]?).map fun x => .ro x.cs) (imps ++ outs).length
  have hle : Ren.Le (renOf imps) (fun b => ((imps ++ outs)[b]?).map fun x => ⟨x.blk, x.off, none⟩) := fun b loc e => by
    unfold renOf at e
    have hlt : b < imps.length := by
      rcases Nat.lt_or_ge b imps.length with q | q
      · exact q
      · rw [List.getElem?_eq_none q] at e; cases e
    show ((imps ++ outs)[b]?).map _ = _
    rw [List.getElem?_append_left hlt]; exact e
  have hr : ∀ (b : Nat) loc, ((imps ++ outs)[b]?).map (fun x => (⟨x.blk, x.off, none⟩ : Loc)) = some loc → ∃ x, (imps ++ outs)[b]? = some x ∧ b < (imps ++ outs).length ∧ loc = ⟨x.blk, x.off, none⟩ ∧ t.get b = some (.ro x.cs) := by
    intro b loc e
    cases hx : (imps ++ outs)[b]? with
    | none => rw [hx] at e; cases e
    | some x =>
      rw [hx] at e
      simp at e
      have hlt := get_lt hx
      exact ⟨x, rfl, hlt, e.symm, by rw [ht, if_pos hlt, hx]; rfl⟩
  have low : ∀ {g o : Nat} {v : Value}, w.cell? ⟨g, o, none⟩ = some v → g < w.heap.size := fun {g o v} hv => by
    unfold World.cell? at hv
    rcases Nat.lt_or_ge g w.heap.size with q | q
    · exact q
    · rw [Array.getElem?_eq_none q] at hv; cases hv
  refine ⟨fun b => ((imps ++ outs)[b]?).map fun x => ⟨x.blk, x.off, none⟩, { next := (imps ++ outs).length, t }, ⟨?_, ?_, ?_, Nat.le_refl _⟩, rfl, ?_, hle, ?_⟩
  · intro b loc e
    obtain ⟨x, hx, hlt, rfl, hg⟩ := hr b loc e
    refine ⟨hlt, ?_⟩
    show Dm _ _ _ (t.get b)
    rw [hg]
    cases hc : x.cs with
    | nil => exact .inl rfl
    | cons v l =>
      obtain ⟨v', h1, _⟩ := hall x (List.mem_of_getElem? hx) 0 v (by rw [hc]; rfl)
      exact .inr (low h1)
  · intro b loc o e eo
    obtain ⟨x, hx, hlt, rfl, hg⟩ := hr b loc e
    rw [hg] at eo; cases eo
    refine ⟨rfl, fun i v ev => ?_⟩
    obtain ⟨v', h1, h2⟩ := hall x (List.mem_of_getElem? hx) i v ev
    unfold World.cell? at h1
    simp only at h1
    split at h1
    · rename_i C e' f hC
      exact ⟨C, e', f, v', hC, by simpa using h1, h2.mono hle⟩
    · cases h1
  · intro b b' loc loc' e e' _ hl _
    obtain ⟨x, hx, hlt, rfl, hg⟩ := hr b loc e
    obtain ⟨o, h1, h2, h3⟩ := hl
    have : t.get b = some o := h1
    rw [hg] at this; cases this
    cases h3
  · intro b loc e
    obtain ⟨x, hx, hlt, rfl, hg⟩ := hr b loc e
    exact hlt
  · intro b x hx
    have hlt := get_lt hx
    refine ⟨by simp only [hx, Option.map_some], ?_⟩
    show t.get b = _
    rw [ht, if_pos hlt, hx]; rfl

/-- An inner slice, as it is given: an empty one may have any address. -/
structure GivI {α : Type} (w : World) (v : Value) (f : α → List Value) (l : List α) (x : Imp) : Prop where
  ok : ∀ (i : Nat) u, x.cs[i]? = some u → w.cell? ⟨x.blk, x.off + i, none⟩ = some u ∧ flat1 u = true
  cs : x.cs = l.flatMap f
  v : ((v = .slice none 0 0 ∨ ∃ a', v = .slice (some a') 0 0) ∧ l = []) ∨ ∃ cap, v = .slice (some ⟨x.blk, x.off, none⟩) l.length cap ∧ l.length ≤ cap
theorem givI_of {H : Type} {enc : TypeId × Value → H} {P : Program} {w : World} {base : Nat} {held : Bool} {α : Type} {f : α → List Value} {Q : α → Prop} {k : Nat} {t e : TypeId} {fuel : Nat} {v : Value} {x : DataW H × List MemPlace}
    (ht : P.underlying t = some (.slice e)) (hR : ∀ (fuel : Nat) (cs : List Value) (x : DataW H × List MemPlace), DataW.trod enc P w base (fun _ => true) held fuel e cs = some x → ∃ y : α, cs = f y ∧ Q y) (hc : P.cellsOf e = k) (hk : 0 < k) (hfk : ∀ y, (f y).length = k) (hflat : ∀ y u, u ∈ f y → flat1 u = true)
    (h : DataW.trod enc P w base (fun _ => true) held fuel t [v] = some x) : ∃ (l : List α) (y : Imp), GivI w v f l y := by
  obtain ⟨l, h1, h2, ⟨h3, rfl⟩ | ⟨blk, off, cap, h3, h4, h5⟩⟩ := rows_read ht hR hc hk hfk h
  · exact ⟨[], ⟨0, 0, []⟩, ⟨fun i u e => by simp at e, rfl, .inl ⟨h3, rfl⟩⟩⟩
  · refine ⟨l, ⟨blk, off, l.flatMap f⟩, ⟨fun i u hu => ⟨h5 i u hu, ?_⟩, rfl, .inr ⟨cap, h3, h4⟩⟩⟩
    obtain ⟨y, hy, hu'⟩ := List.mem_flatMap.1 (List.mem_of_getElem? hu)
    exact hflat y u hu'
theorem GivI.rel {α : Type} {w : World} {v : Value} {f : α → List Value} {l : List α} {x : Imp} (g : GivI w v f l x) {r : Ren} {b : Nat} (hr : r b = some ⟨x.blk, x.off, none⟩) :
    ∃ a cap, VR r (.slice a l.length cap) v ∧ (∀ y, a = some ⟨y, 0, none⟩ → y = b) ∧ ∀ H : Hp, b < H.next → H.t.get b = some (.ro x.cs) → Sl H a l.length cap (l.flatMap f) := by
  rcases g.v with ⟨rfl | ⟨a', rfl⟩, rfl⟩ | ⟨cap, rfl, hl⟩
  · exact ⟨none, 0, .nilSlice, fun y e => by (cases e), fun H _ _ => .inl ⟨.inl rfl, rfl, rfl, rfl⟩⟩
  · exact ⟨some ⟨0, 0, some 0⟩, 0, .weird, fun y e => by (cases e), fun H _ _ => .inl ⟨.inr rfl, rfl, rfl, rfl⟩⟩
  · refine ⟨some ⟨b, 0, none⟩, cap, ?_, fun y e => by (cases e; rfl), fun H hb hc => .inr ⟨b, rfl, ⟨hb, by unfold cellsOf; rw [hc, g.cs]⟩, hl⟩⟩
    have := VR.slice (o := 0) (n := l.length) (c := cap) hr rfl hl
    simpa using this
/-- A list of rows that point elsewhere, as it is given. -/
structure GivO {α : Type} (w : World) (v : Value) (f : α → List Value) (l : List α) (x : Imp) : Prop where
  cs : ∀ (i : Nat) u, (l.flatMap f)[i]? = some u → w.cell? ⟨x.blk, x.off + i, none⟩ = some u
  v : ((v = .slice none 0 0 ∨ ∃ a', v = .slice (some a') 0 0) ∧ l = []) ∨ ∃ cap, v = .slice (some ⟨x.blk, x.off, none⟩) l.length cap ∧ l.length ≤ cap
theorem givO_of {w : World} {α : Type} {f : α → List Value} {Q : α → Prop} {v : Value} {l : List α} (h : ((v = .slice none 0 0 ∨ ∃ a', v = .slice (some a') 0 0) ∧ l = []) ∨ ∃ blk off cap, v = .slice (some ⟨blk, off, none⟩) l.length cap ∧ l.length ≤ cap ∧ ∀ (i : Nat) u, (l.flatMap f)[i]? = some u → w.cell? ⟨blk, off + i, none⟩ = some u) : ∃ x : Imp, GivO w v f l x := by
  rcases h with ⟨h1, rfl⟩ | ⟨blk, off, cap, h1, h2, h3⟩
  · exact ⟨⟨0, 0, []⟩, fun i u e => by simp at e, .inl ⟨h1, rfl⟩⟩
  · exact ⟨⟨blk, off, []⟩, h3, .inr ⟨cap, h1, h2⟩⟩
structure RV where
  rv : Value
  l : List Int
  x : Imp
def RV.f (r : RV) : List Value := [r.rv]
def RV.Q (w : World) (r : RV) : Prop := GivI w r.rv (fun n : Int => [iv n]) r.l r.x
end Go.Ax

/-! Machines and what is flat as arguments. -/
namespace Go.Ax
open Go Go.RowKit Go.Proofs Go.ChangeShapes Go.WideShapes Go.Deep

/-- A machine, as it is given. -/
structure MV where
  rv : Value
  l : List Ou
  x : Imp
def MV.f (r : MV) : List Value := [r.rv]
def MV.Q (w : World) (r : MV) : Prop := GivI w r.rv Ou.f r.l r.x
theorem rows_abs {w : World} {imps : List Imp} : ∀ (L : List MV) (pre post : List Imp), imps = pre ++ L.map MV.x ++ post → (∀ b ∈ L, b.Q w) → ∃ bs : List Mc, bs.length = L.length ∧ LR (renOf imps) (mcc bs) (L.flatMap MV.f) ∧
    ∀ (H : Hp) (f : Nat), imps.length ≤ f → (∀ (b : Nat) x, imps[b]? = some x → b < H.next ∧ H.t.get b = some (.ro x.cs)) → ∀ b ∈ bs, Sl H b.ra b.n b.cap (ouc b.l) ∧ b.l.length = b.n ∧ ∀ x, b.ra = some ⟨x, 0, none⟩ → x < f ∧ Fy H x (ouc b.l)
  | [], _, _, _, _ => ⟨[], rfl, .nil, fun _ _ _ _ b hb => by simp at hb⟩
  | b :: L, pre, post, he, hq => by
    obtain ⟨bs, e1, e2, e3⟩ := rows_abs (imps := imps) L (pre ++ [b.x]) post (by rw [he]; simp) (fun x hx => hq x (List.mem_cons_of_mem _ hx))
    have q := hq b (List.mem_cons_self ..)
    have i1 : imps[pre.length]? = some b.x := by rw [he]; simp
    obtain ⟨a1, c1, r1, y1, l1⟩ := GivI.rel q (r := renOf imps) (b := pre.length) (by unfold renOf; rw [i1]; rfl)
    refine ⟨⟨a1, b.l.length, c1, b.l⟩ :: bs, by simp [e1], ?_, fun H f hf hH x hx => ?_⟩
    · show LR (renOf imps) (.slice a1 b.l.length c1 :: mcc bs) (b.rv :: L.flatMap MV.f)
      exact .cons r1 e2
    · simp only [List.mem_cons] at hx
      rcases hx with rfl | hx
      · obtain ⟨b1, d1⟩ := hH _ _ i1
        exact ⟨l1 H b1 d1, rfl, fun x e => by
          have e2 := y1 x e; have := get_lt i1; subst e2
          exact ⟨by omega, b1, .inl (by rw [d1, q.cs]; rfl)⟩⟩
      · exact e3 H f hf hH x hx
/-- Some plain lists, and a list of rows. -/
theorem imports_rows {P : Program} (pre : List Imp) {w : World} {s2 : Value} {L2 : List MV} {x2 : Imp} (g2 : GivO w s2 MV.f L2 x2) (q2 : ∀ b ∈ L2, b.Q w) (h : ∀ x ∈ pre, ∀ (i : Nat) v, x.cs[i]? = some v → w.cell? ⟨x.blk, x.off + i, none⟩ = some v ∧ flat1 v = true) :
    ∃ (r : Ren) (H : Hp) (ra : Option Addr) (rn rcap : Nat) (rs : List Mc), Rel P r w.heap.size H w ∧ (∀ b loc, r b = some loc → b < H.next) ∧ (∀ (b : Nat) x, pre[b]? = some x → b < H.next ∧ r b = some ⟨x.blk, x.off, none⟩ ∧ H.t.get b = some (.ro x.cs)) ∧ Mcs H H.next ra rn rcap rs ∧
      VR r (.slice ra rn rcap) s2 ∧ (rn = 0 ∨ ∃ x, ra = some ⟨x, 0, none⟩ ∧ x < H.next ∧ H.t.get x = some (.ro (mcc rs))) := by
  obtain ⟨rs, r1, r2, r3⟩ := rows_abs (w := w) (imps := pre ++ L2.map MV.x) L2 pre [] (by simp) q2
  obtain ⟨imps, himps⟩ : ∃ imps, imps = pre ++ L2.map MV.x := ⟨_, rfl⟩
  rw [← himps] at r2 r3
  have himp : ∀ x ∈ imps, ∀ (i : Nat) v, x.cs[i]? = some v → w.cell? ⟨x.blk, x.off + i, none⟩ = some v ∧ flat1 v = true := by
    intro x hx
    rw [himps] at hx
    simp only [List.mem_append, List.mem_map] at hx
    rcases hx with hx | ⟨y, hy, rfl⟩
    · exact h x hx
    · exact (q2 y hy).ok
  obtain ⟨r, H, h1, h2, h3, h4, h5⟩ := imports3 (P := P) imps [⟨x2.blk, x2.off, mcc rs⟩] w himp (by
    intro x hx i u hu
    simp only [List.mem_cons, List.not_mem_nil, or_false] at hx
    subst hx
    have hlt := get_lt hu
    have hlt2 : i < (L2.flatMap MV.f).length := by rw [← r2.1]; exact hlt
    have hu2 := List.getElem?_eq_getElem hlt2
    exact ⟨_, g2.cs i _ hu2, r2.2 i u _ hu hu2⟩)
  have hnx : H.next = imps.length + 1 := by rw [h2]; simp
  have hg5 : ∀ (b : Nat) x, imps[b]? = some x → r b = some ⟨x.blk, x.off, none⟩ ∧ H.t.get b = some (.ro x.cs) := fun b x hx => h5 b x (by rw [List.getElem?_append_left (get_lt hx)]; exact hx)
  have hH : ∀ (b : Nat) x, imps[b]? = some x → b < H.next ∧ H.t.get b = some (.ro x.cs) := fun b x hx => ⟨by have := get_lt hx; omega, (hg5 b x hx).2⟩
  obtain ⟨o1, p1⟩ := h5 imps.length ⟨x2.blk, x2.off, mcc rs⟩ (by simp)
  refine ⟨r, H, ?_⟩
  have hlen : L2.length = rs.length := r1.symm
  have rows := r3 H H.next (by omega) hH
  have pres : ∀ (b : Nat) x, pre[b]? = some x → b < H.next ∧ r b = some ⟨x.blk, x.off, none⟩ ∧ H.t.get b = some (.ro x.cs) := fun b x hx => by
    have hx2 : imps[b]? = some x := by rw [himps, List.getElem?_append_left (get_lt hx)]; exact hx
    exact ⟨(hH b x hx2).1, hg5 b x hx2⟩
  rcases g2.v with ⟨rfl | ⟨a', rfl⟩, e⟩ | ⟨cap, rfl, hl⟩
  · have e2 : rs = [] := List.eq_nil_of_length_eq_zero (by rw [r1, e]; rfl)
    subst e2
    exact ⟨none, 0, 0, [], h1, h3, pres, ⟨.inl ⟨.inl rfl, rfl, rfl⟩, rfl, fun r hr => by simp at hr⟩, .nilSlice, .inl rfl⟩
  · have e2 : rs = [] := List.eq_nil_of_length_eq_zero (by rw [r1, e]; rfl)
    subst e2
    exact ⟨some ⟨0, 0, some 0⟩, 0, 0, [], h1, h3, pres, ⟨.inl ⟨.inr rfl, rfl, rfl⟩, rfl, fun r hr => by simp at hr⟩, .weird, .inl rfl⟩
  · have hb : imps.length < H.next := by omega
    refine ⟨some ⟨imps.length, 0, none⟩, rs.length, cap, rs, h1, h3, pres, ⟨.inr ⟨imps.length, 0, mcc rs, rfl, ⟨hb, by unfold cellsOf; rw [p1]⟩, hb, by omega, fun i r hr => by have := mcc_row hr; simpa using this⟩, rfl, rows⟩, ?_, .inr ⟨_, rfl, hb, p1⟩⟩
    have := VR.slice (o := 0) (n := L2.length) (c := cap) o1 rfl hl
    rw [hlen] at this
    simpa [hlen] using this
end Go.Ax


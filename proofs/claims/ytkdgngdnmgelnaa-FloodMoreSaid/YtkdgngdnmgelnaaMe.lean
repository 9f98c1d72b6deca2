import Derived.Test.YtkdgngdnmgelnaaMd
set_option linter.all false
/-! A harvest as an argument: its beds and its rates, and what they hold. -/
namespace Go.Ax
open Go Go.RowKit Go.Proofs Go.ChangeShapes Go.WideShapes Go.Deep

def renOf (imps : List Imp) : Ren := fun b => (imps[b]?).map fun x => ⟨x.blk, x.off, none⟩
theorem imports3 {P : Program} (imps outs : List Imp) (w : World) (h : ∀ x ∈ imps, ∀ (i : Nat) v, x.cs[i]? = some v → w.cell? ⟨x.blk, x.off + i, none⟩ = some v ∧ flat1 v = true)
    (hcs : ∀ x ∈ outs, ∀ (i : Nat) v, x.cs[i]? = some v → ∃ v', w.cell? ⟨x.blk, x.off + i, none⟩ = some v' ∧ VR (renOf imps) v v') :
    ∃ (r : Ren) (H : Hp), Rel P r w.heap.size H w ∧ H.next = (imps ++ outs).length ∧ (∀ b loc, r b = some loc → b < H.next) ∧ Ren.Le (renOf imps) r ∧ ∀ (b : Nat) x, (imps ++ outs)[b]? = some x → r b = some ⟨x.blk, x.off, none⟩ ∧ H.t.get b = some (.ro x.cs) := by
  have hall : ∀ x ∈ imps ++ outs, ∀ (i : Nat) v, x.cs[i]? = some v → ∃ v', w.cell? ⟨x.blk, x.off + i, none⟩ = some v' ∧ VR (renOf imps) v v' := by
    intro x hx i v hv
    rcases List.mem_append.1 hx with hx | hx
    · obtain ⟨h1, h2⟩ := h x hx i v hv
      exact ⟨v, h1, flat1_vr h2⟩
    · exact hcs x hx i v hv
  obtain ⟨t, ht⟩ := tr_of (fun b => ((imps ++ outs)[b]?).map fun x => .ro x.cs) (imps ++ outs).length
  have hle : Ren.Le (renOf imps) (fun b => ((imps ++ outs)[b]?).map fun x => ⟨x.blk, x.off, none⟩) := fun b loc e => by
    unfold renOf at e
    have hlt : b < imps.length := by
      rcases Nat.lt_or_ge b imps.length with q | q
      · exact q
      · rw [List.getElem?_eq_none q] at e; cases e
    show ((imps ++ outs)[b]?).map _ = _
    rw [List.getElem?_append_left hlt]; exact e
  have hr : ∀ (b : Nat) loc, ((imps ++ outs)[b]?).map (fun x => (⟨x.blk, x.off, none⟩ : Loc)) = some loc → ∃ x, (imps ++ outs)[b]? = some x ∧ b < (imps ++ outs).length ∧ loc = ⟨x.blk, x.off, none⟩ ∧ t.get b = some (.ro x.cs) := by
    intro b loc e
    cases hx : (imps ++ outs)[b]? with
    | none => rw [hx] at e; cases e
    | some x =>
      rw [hx] at e
      simp at e
      have hlt := get_lt hx
      exact ⟨x, rfl, hlt, e.symm, by rw [ht, if_pos hlt, hx]; rfl⟩
  have low : ∀ {g o : Nat} {v : Value}, w.cell? ⟨g, o, none⟩ = some v → g < w.heap.size := fun {g o v} hv => by
    unfold World.cell? at hv
    rcases Nat.lt_or_ge g w.heap.size with q | q
    · exact q
    · rw [Array.getElem?_eq_none q] at hv; cases hv
  refine ⟨fun b => ((imps ++ outs)[b]?).map fun x => ⟨x.blk, x.off, none⟩, { next := (imps ++ outs).length, t }, ⟨?_, ?_, ?_, Nat.le_refl _⟩, rfl, ?_, hle, ?_⟩
  · intro b loc e
    obtain ⟨x, hx, hlt, rfl, hg⟩ := hr b loc e
    refine ⟨hlt, ?_⟩
    show Dm _ _ _ (t.get b)
    rw [hg]
    cases hc : x.cs with
    | nil => exact .inl rfl
    | cons v l =>
      obtain ⟨v', h1, _⟩ := hall x (List.mem_of_getElem? hx) 0 v (by rw [hc]; rfl)
      exact .inr (low h1)
  · intro b loc o e eo
    obtain ⟨x, hx, hlt, rfl, hg⟩ := hr b loc e
    rw [hg] at eo; cases eo
    refine ⟨rfl, fun i v ev => ?_⟩
    obtain ⟨v', h1, h2⟩ := hall x (List.mem_of_getElem? hx) i v ev
    unfold World.cell? at h1
    simp only at h1
    split at h1
    · rename_i C e' f hC
      exact ⟨C, e', f, v', hC, by simpa using h1, h2.mono hle⟩
    · cases h1
  · intro b b' loc loc' e e' _ hl _
    obtain ⟨x, hx, hlt, rfl, hg⟩ := hr b loc e
    obtain ⟨o, h1, h2, h3⟩ := hl
    have : t.get b = some o := h1
    rw [hg] at this; cases this
    cases h3
  · intro b loc e
    obtain ⟨x, hx, hlt, rfl, hg⟩ := hr b loc e
    exact hlt
  · intro b x hx
    have hlt := get_lt hx
    refine ⟨by simp only [hx, Option.map_some], ?_⟩
    show t.get b = _
    rw [ht, if_pos hlt, hx]; rfl

/-- An inner slice, as it is given: an empty one may have any address. -/
structure GivI {α : Type} (w : World) (v : Value) (f : α → List Value) (l : List α) (x : Imp) : Prop where
  ok : ∀ (i : Nat) u, x.cs[i]? = some u → w.cell? ⟨x.blk, x.off + i, none⟩ = some u ∧ flat1 u = true
  cs : x.cs = l.flatMap f
  v : ((v = .slice none 0 0 ∨ ∃ a', v = .slice (some a') 0 0) ∧ l = []) ∨ ∃ cap, v = .slice (some ⟨x.blk, x.off, none⟩) l.length cap ∧ l.length ≤ cap
theorem givI_of {H : Type} {enc : TypeId × Value → H} {P : Program} {w : World} {base : Nat} {held : Bool} {α : Type} {f : α → List Value} {Q : α → Prop} {k : Nat} {t e : TypeId} {fuel : Nat} {v : Value} {x : DataW H × List MemPlace}
    (ht : P.underlying t = some (.slice e)) (hR : ∀ (fuel : Nat) (cs : List Value) (x : DataW H × List MemPlace), DataW.trod enc P w base (fun _ => true) held fuel e cs = some x → ∃ y : α, cs = f y ∧ Q y) (hc : P.cellsOf e = k) (hk : 0 < k) (hfk : ∀ y, (f y).length = k) (hflat : ∀ y u, u ∈ f y → flat1 u = true)
    (h : DataW.trod enc P w base (fun _ => true) held fuel t [v] = some x) : ∃ (l : List α) (y : Imp), GivI w v f l y := by
  obtain ⟨l, h1, h2, ⟨h3, rfl⟩ | ⟨blk, off, cap, h3, h4, h5⟩⟩ := rows_read ht hR hc hk hfk h
  · exact ⟨[], ⟨0, 0, []⟩, ⟨fun i u e => by simp at e, rfl, .inl ⟨h3, rfl⟩⟩⟩
  · refine ⟨l, ⟨blk, off, l.flatMap f⟩, ⟨fun i u hu => ⟨h5 i u hu, ?_⟩, rfl, .inr ⟨cap, h3, h4⟩⟩⟩
    obtain ⟨y, hy, hu'⟩ := List.mem_flatMap.1 (List.mem_of_getElem? hu)
    exact hflat y u hu'
theorem GivI.rel {α : Type} {w : World} {v : Value} {f : α → List Value} {l : List α} {x : Imp} (g : GivI w v f l x) {r : Ren} {b : Nat} (hr : r b = some ⟨x.blk, x.off, none⟩) :
    ∃ a cap, VR r (.slice a l.length cap) v ∧ (∀ y, a = some ⟨y, 0, none⟩ → y = b) ∧ ∀ H : Hp, b < H.next → H.t.get b = some (.ro x.cs) → Sl H a l.length cap (l.flatMap f) := by
  rcases g.v with ⟨rfl | ⟨a', rfl⟩, rfl⟩ | ⟨cap, rfl, hl⟩
  · exact ⟨none, 0, .nilSlice, fun y e => by (cases e), fun H _ _ => .inl ⟨.inl rfl, rfl, rfl, rfl⟩⟩
  · exact ⟨some ⟨0, 0, some 0⟩, 0, .weird, fun y e => by (cases e), fun H _ _ => .inl ⟨.inr rfl, rfl, rfl, rfl⟩⟩
  · refine ⟨some ⟨b, 0, none⟩, cap, ?_, fun y e => by (cases e; rfl), fun H hb hc => .inr ⟨b, rfl, ⟨hb, by unfold cellsOf; rw [hc, g.cs]⟩, hl⟩⟩
    have := VR.slice (o := 0) (n := l.length) (c := cap) hr rfl hl
    simpa using this
structure BV where
  need : Int
  l1 : Int
  l2 : Int
  wv : Value
  ws : List (Int × Int)
  x : Imp
def BV.f (b : BV) : List Value := [iv b.need, iv b.l1, iv b.l2, b.wv]
def BV.Q (w : World) (b : BV) : Prop := GivI w b.wv (fun s : Int × Int => [iv s.1, iv s.2]) b.ws b.x
structure RV where
  rv : Value
  l : List Int
  x : Imp
def RV.f (r : RV) : List Value := [r.rv]
def RV.Q (w : World) (r : RV) : Prop := GivI w r.rv (fun n : Int => [iv n]) r.l r.x
theorem bogs_abs {w : World} {imps : List Imp} : ∀ (L : List BV) (pre post : List Imp), imps = pre ++ L.map BV.x ++ post → (∀ b ∈ L, b.Q w) → ∃ bs : List Bg, bs.length = L.length ∧ LR (renOf imps) (bgc bs) (L.flatMap BV.f) ∧
    ∀ (H : Hp) (f : Nat), imps.length ≤ f → (∀ (b : Nat) x, imps[b]? = some x → b < H.next ∧ H.t.get b = some (.ro x.cs)) → ∀ b ∈ bs, Sl H b.wa b.wn b.wcap (spc b.ws) ∧ b.ws.length = b.wn ∧ ∀ x, b.wa = some ⟨x, 0, none⟩ → x < f
  | [], _, _, _, _ => ⟨[], rfl, .nil, fun _ _ _ _ b hb => by simp at hb⟩
  | b :: L, pre, post, he, hq => by
    obtain ⟨bs, e1, e2, e3⟩ := bogs_abs (imps := imps) L (pre ++ [b.x]) post (by rw [he]; simp) (fun x hx => hq x (List.mem_cons_of_mem _ hx))
    have q := hq b (List.mem_cons_self ..)
    have i1 : imps[pre.length]? = some b.x := by rw [he]; simp
    obtain ⟨a1, c1, r1, y1, l1⟩ := GivI.rel q (r := renOf imps) (b := pre.length) (by unfold renOf; rw [i1]; rfl)
    refine ⟨⟨b.need, b.l1, b.l2, a1, b.ws.length, c1, b.ws⟩ :: bs, by simp [e1], ?_, fun H f hf hH x hx => ?_⟩
    · show LR (renOf imps) (iv b.need :: iv b.l1 :: iv b.l2 :: .slice a1 b.ws.length c1 :: bgc bs) (iv b.need :: iv b.l1 :: iv b.l2 :: b.wv :: L.flatMap BV.f)
      exact .cons (.int _ _) (.cons (.int _ _) (.cons (.int _ _) (.cons r1 e2)))
    · simp only [List.mem_cons] at hx
      rcases hx with rfl | hx
      · obtain ⟨b1, d1⟩ := hH _ _ i1
        exact ⟨l1 H b1 d1, rfl, fun x e => by have := y1 x e; have := get_lt i1; omega⟩
      · exact e3 H f hf hH x hx
theorem rates_abs {w : World} {imps : List Imp} : ∀ (L : List RV) (pre post : List Imp), imps = pre ++ L.map RV.x ++ post → (∀ b ∈ L, b.Q w) → ∃ bs : List Rw, bs.length = L.length ∧ LR (renOf imps) (rwc bs) (L.flatMap RV.f) ∧
    ∀ (H : Hp) (f : Nat), imps.length ≤ f → (∀ (b : Nat) x, imps[b]? = some x → b < H.next ∧ H.t.get b = some (.ro x.cs)) → ∀ b ∈ bs, Sl H b.ra b.n b.cap (ints b.l) ∧ b.l.length = b.n ∧ ∀ x, b.ra = some ⟨x, 0, none⟩ → x < f
  | [], _, _, _, _ => ⟨[], rfl, .nil, fun _ _ _ _ b hb => by simp at hb⟩
  | b :: L, pre, post, he, hq => by
    obtain ⟨bs, e1, e2, e3⟩ := rates_abs (imps := imps) L (pre ++ [b.x]) post (by rw [he]; simp) (fun x hx => hq x (List.mem_cons_of_mem _ hx))
    have q := hq b (List.mem_cons_self ..)
    have i1 : imps[pre.length]? = some b.x := by rw [he]; simp
    obtain ⟨a1, c1, r1, y1, l1⟩ := GivI.rel q (r := renOf imps) (b := pre.length) (by unfold renOf; rw [i1]; rfl)
    refine ⟨⟨a1, b.l.length, c1, b.l⟩ :: bs, by simp [e1], ?_, fun H f hf hH x hx => ?_⟩
    · show LR (renOf imps) (.slice a1 b.l.length c1 :: rwc bs) (b.rv :: L.flatMap RV.f)
      exact .cons r1 e2
    · simp only [List.mem_cons] at hx
      rcases hx with rfl | hx
      · obtain ⟨b1, d1⟩ := hH _ _ i1
        exact ⟨by rw [← flat_ints]; exact l1 H b1 d1, rfl, fun x e => by have := y1 x e; have := get_lt i1; omega⟩
      · exact e3 H f hf hH x hx
/-- A list of rows that point elsewhere, as it is given. -/
structure GivO {α : Type} (w : World) (v : Value) (f : α → List Value) (l : List α) (x : Imp) : Prop where
  cs : ∀ (i : Nat) u, (l.flatMap f)[i]? = some u → w.cell? ⟨x.blk, x.off + i, none⟩ = some u
  v : ((v = .slice none 0 0 ∨ ∃ a', v = .slice (some a') 0 0) ∧ l = []) ∨ ∃ cap, v = .slice (some ⟨x.blk, x.off, none⟩) l.length cap ∧ l.length ≤ cap
theorem givO_rel {α : Type} {w : World} {v : Value} {f : α → List Value} {l : List α} {x : Imp} (g : GivO w v f l x) {r : Ren} {H : Hp} {b n : Nat} {cs : List Value} (hr : r b = some ⟨x.blk, x.off, none⟩) (hb : b < H.next) (hg : H.t.get b = some (.ro cs)) (hn : n = l.length) (h0 : l = [] → cs = []) :
    ∃ a cap, VR r (.slice a n cap) v ∧ Sl H a n cap cs := by
  subst hn
  rcases g.v with ⟨rfl | ⟨a', rfl⟩, rfl⟩ | ⟨cap, rfl, hl⟩
  · exact ⟨none, 0, .nilSlice, .inl ⟨.inl rfl, rfl, rfl, h0 rfl⟩⟩
  · exact ⟨some ⟨0, 0, some 0⟩, 0, .weird, .inl ⟨.inr rfl, rfl, rfl, h0 rfl⟩⟩
  · refine ⟨some ⟨b, 0, none⟩, cap, ?_, .inr ⟨b, rfl, ⟨hb, by unfold cellsOf; rw [hg]⟩, hl⟩⟩
    have := VR.slice (o := 0) (n := l.length) (c := cap) hr rfl hl
    simpa using this
/-- A harvest, as it is given. -/
structure HG (w : World) (s1 s2 : Value) (L1 : List BV) (L2 : List RV) (x1 x2 : Imp) : Prop where
  g1 : GivO w s1 BV.f L1 x1
  g2 : GivO w s2 RV.f L2 x2
  q1 : ∀ b ∈ L1, b.Q w
  q2 : ∀ b ∈ L2, b.Q w
theorem imports_harvest {P : Program} (pre : List Imp) {w : World} {s1 s2 : Value} {L1 : List BV} {L2 : List RV} {x1 x2 : Imp} (hg : HG w s1 s2 L1 L2 x1 x2) (inlet reserve winds : Int) (h : ∀ x ∈ pre, ∀ (i : Nat) v, x.cs[i]? = some v → w.cell? ⟨x.blk, x.off + i, none⟩ = some v ∧ flat1 v = true) :
    ∃ (r : Ren) (H : Hp) (g : Fh), Rel P r w.heap.size H w ∧ (∀ b loc, r b = some loc → b < H.next) ∧ (∀ (b : Nat) x, pre[b]? = some x → b < H.next ∧ r b = some ⟨x.blk, x.off, none⟩ ∧ H.t.get b = some (.ro x.cs)) ∧ g.At H.next H ∧ g.inlet = inlet ∧ g.reserve = reserve ∧ g.winds = winds ∧
      VR r (.slice g.ba g.bn g.bcap) s1 ∧ VR r (.slice g.ra g.rn g.rcap) s2 := by
  obtain ⟨bs, b1, b2, b3⟩ := bogs_abs (w := w) (imps := pre ++ L1.map BV.x ++ L2.map RV.x) L1 pre (L2.map RV.x) rfl hg.q1
  obtain ⟨rs, r1, r2, r3⟩ := rates_abs (w := w) (imps := pre ++ L1.map BV.x ++ L2.map RV.x) L2 (pre ++ L1.map BV.x) [] (by simp) hg.q2
  obtain ⟨imps, himps⟩ : ∃ imps, imps = pre ++ L1.map BV.x ++ L2.map RV.x := ⟨_, rfl⟩
  rw [← himps] at b2 b3 r2 r3
  have himp : ∀ x ∈ imps, ∀ (i : Nat) v, x.cs[i]? = some v → w.cell? ⟨x.blk, x.off + i, none⟩ = some v ∧ flat1 v = true := by
    intro x hx
    rw [himps] at hx
    simp only [List.mem_append, List.mem_map] at hx
    rcases hx with (hx | ⟨y, hy, rfl⟩) | ⟨y, hy, rfl⟩
    · exact h x hx
    · exact (hg.q1 y hy).ok
    · exact (hg.q2 y hy).ok
  have side : ∀ {α : Type} {v : Value} {f : α → List Value} {l : List α} {x : Imp} {cs : List Value}, GivO w v f l x → LR (renOf imps) cs (l.flatMap f) → ∀ (i : Nat) u, cs[i]? = some u → ∃ v', w.cell? ⟨x.blk, x.off + i, none⟩ = some v' ∧ VR (renOf imps) u v' := by
    intro α v f l x cs gv hl i u hu
    have hlt := get_lt hu
    have hlt2 : i < (l.flatMap f).length := by rw [← hl.1]; exact hlt
    have hu2 := List.getElem?_eq_getElem hlt2
    exact ⟨_, gv.cs i _ hu2, hl.2 i u _ hu hu2⟩
  obtain ⟨r, H, h1, h2, h3, h4, h5⟩ := imports3 (P := P) imps [⟨x1.blk, x1.off, bgc bs⟩, ⟨x2.blk, x2.off, rwc rs⟩] w himp (by
    intro x hx i u hu
    simp only [List.mem_cons, List.not_mem_nil, or_false] at hx
    rcases hx with rfl | rfl
    · exact side hg.g1 b2 i u hu
    · exact side hg.g2 r2 i u hu)
  have hnx : H.next = imps.length + 2 := by rw [h2]; simp
  have hg5 : ∀ (b : Nat) x, imps[b]? = some x → r b = some ⟨x.blk, x.off, none⟩ ∧ H.t.get b = some (.ro x.cs) := fun b x hx => h5 b x (by rw [List.getElem?_append_left (get_lt hx)]; exact hx)
  have hH : ∀ (b : Nat) x, imps[b]? = some x → b < H.next ∧ H.t.get b = some (.ro x.cs) := fun b x hx => ⟨by have := get_lt hx; omega, (hg5 b x hx).2⟩
  obtain ⟨o1, p1⟩ := h5 imps.length ⟨x1.blk, x1.off, bgc bs⟩ (by simp)
  obtain ⟨o2, p2⟩ := h5 (imps.length + 1) ⟨x2.blk, x2.off, rwc rs⟩ (by simp)
  obtain ⟨a1, c1, v1, s1'⟩ := givO_rel hg.g1 o1 (by omega) p1 b1 (fun e => by have : bs = [] := List.eq_nil_of_length_eq_zero (by rw [b1, e]; rfl); rw [this]; rfl)
  obtain ⟨a2, c2, v2, s2'⟩ := givO_rel hg.g2 o2 (by omega) p2 r1 (fun e => by have : rs = [] := List.eq_nil_of_length_eq_zero (by rw [r1, e]; rfl); rw [this]; rfl)
  refine ⟨r, H, ⟨a1, bs.length, c1, bs, a2, rs.length, c2, rs, inlet, reserve, winds⟩, h1, h3, fun b x hx => ?_, ?_, rfl, rfl, rfl, v1, v2⟩
  · have hx2 : imps[b]? = some x := by rw [himps, List.append_assoc, List.getElem?_append_left (get_lt hx)]; exact hx
    exact ⟨(hH b x hx2).1, hg5 b x hx2⟩
  · exact ⟨Nat.le_refl _, s1', s2', rfl, rfl, fun x e => s1'.old x e, fun x e => s2'.old x e, b3 H H.next (by omega) hH, r3 H H.next (by omega) hH⟩
end Go.Ax


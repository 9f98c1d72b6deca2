import Derived.Test.YtpdoogfafjjdkaaG
set_option linter.all false
/-! Slices of rows of plain cells, as arguments. -/
namespace Go.Ax
open Go Go.RowKit Go.Proofs Go.ChangeShapes Go.WideShapes Go.Deep

theorem IntT.row {α : Type} {P : Program} {t : TypeId} {k : Nat} {f : α → List Value} {mk : (Nat → Int) → α} (h : IntT P t) (hc : P.cellsOf t = k) (hmk : ∀ N : Nat → Int, f (mk N) = (List.range k).map fun j => Value.int .i64 (N j))
    {H : Type} {enc : TypeId × Value → H} {w : World} {base : Nat} {spare : Nat → Bool} {held : Bool} (fuel : Nat) (cs : List Value) (x : DataW H × List MemPlace) (hx : DataW.trod enc P w base spare held fuel t cs = some x) : ∃ y : α, cs = f y ∧ True := by
  obtain ⟨h1, h2⟩ := h _ _ _ _ _ _ _ _ _ hx
  have : ∃ N : Nat → Int, ∀ j, j < cs.length → cs[j]? = some (.int .i64 (N j)) := by
    refine ⟨fun j => match cs[j]? with | some (.int _ n) => n | _ => 0, fun j hj => ?_⟩
    obtain ⟨n, hn⟩ := h2 j hj
    simp [hn]
  obtain ⟨N, hN⟩ := this
  refine ⟨mk N, ?_, trivial⟩
  rw [hmk]
  apply List.ext_getElem?
  intro j
  by_cases hj : j < k
  · rw [hN j (by omega), List.getElem?_map, List.getElem?_range hj]; rfl
  · rw [List.getElem?_eq_none (by omega), List.getElem?_eq_none (by simp; omega)]
theorem spot_of {w : World} {a : Addr} {v : Value} (h : w.cell? a = some v) : a.spot = none := by
  unfold World.cell? at h
  split at h
  · cases hs : a.spot with
    | none => rfl
    | some x => rw [hs] at h; simp at h
  · cases h
theorem add_zero' (a : Addr) : a.add 0 = a := by unfold Addr.add; simp
theorem add_plain (b o n : Nat) : (⟨b, o, none⟩ : Addr).add n = ⟨b, o + n, none⟩ := by
  unfold Addr.add
  by_cases q : n = 0
  · simp [q]
  · simp [q]
/-- A slice of rows, as it is read; Q: what else is known of a row. -/
theorem rows_read {H : Type} {enc : TypeId × Value → H} {P : Program} {w : World} {base : Nat} {held : Bool} {α : Type} {f : α → List Value} {Q : α → Prop} {k : Nat} {t e : TypeId} {fuel : Nat} {v : Value} {x : DataW H × List MemPlace}
    (ht : P.underlying t = some (.slice e)) (hR : ∀ (fuel : Nat) (cs : List Value) (x : DataW H × List MemPlace), DataW.trod enc P w base (fun _ => true) held fuel e cs = some x → ∃ y : α, cs = f y ∧ Q y) (hc : P.cellsOf e = k) (hk : 0 < k) (hfk : ∀ y, (f y).length = k)
    (h : DataW.trod enc P w base (fun _ => true) held fuel t [v] = some x) : ∃ (l : List α), l.length ≤ maxLen ∧ (∀ y ∈ l, Q y) ∧
      (((v = .slice none 0 0 ∨ ∃ a', v = .slice (some a') 0 0) ∧ l = []) ∨ ∃ blk off cap, v = .slice (some ⟨blk, off, none⟩) l.length cap ∧ l.length ≤ cap ∧ ∀ (i : Nat) u, (l.flatMap f)[i]? = some u → w.cell? ⟨blk, off + i, none⟩ = some u) := by
  rcases open_slice ht h with ⟨h0, _⟩ | ⟨a, len, cap, m, n, D, Pl, hcs, hb, hl, hm, hmm, hx, hi⟩
  · cases h0
    exact ⟨[], by simp, fun y hy => by simp at hy, .inl ⟨.inl rfl, rfl⟩⟩
  cases hcs
  simp only [if_true] at hmm
  subst hmm
  rcases Nat.eq_zero_or_pos m with h0 | h0
  · subst h0
    have : len = 0 := by omega
    subst this
    exact ⟨[], by simp, fun y hy => by simp at hy, .inl ⟨.inr ⟨_, rfl⟩, rfl⟩⟩
  obtain ⟨blk, off, spot⟩ := a
  have hs : spot = none := by
    obtain ⟨cs', h1, h2⟩ := hi 0 h0
    obtain ⟨y, hy, _⟩ := hR _ _ _ h2
    obtain ⟨_, h5, h6⟩ := World.cells?_some h1
    have h7 := h6 0 (by omega)
    rw [Nat.zero_mul, add_zero', add_zero'] at h7
    have h8 : cs'[0]? = some (cs'[0]'(by omega)) := List.getElem?_eq_getElem _
    rw [h8] at h7
    exact spot_of h7
  subst hs
  have hrow : ∀ i, i < len → ∃ y : α, Q y ∧ ∀ j, j < k → ∃ u, (f y)[j]? = some u ∧ w.cell? ⟨blk, off + (i * k + j), none⟩ = some u := by
    intro i hil
    obtain ⟨cs', h1, h2⟩ := hi i (by omega)
    obtain ⟨y, rfl, hq⟩ := hR _ _ _ h2
    obtain ⟨_, h5, h6⟩ := World.cells?_some h1
    refine ⟨y, hq, fun j hj => ?_⟩
    have h7 := h6 j (by omega)
    have h8 : (f y)[j]? = some ((f y)[j]'(by rw [hfk]; exact hj)) := List.getElem?_eq_getElem _
    rw [h8, hc, add_plain, add_plain, Nat.add_assoc] at h7
    exact ⟨_, h8, h7⟩
  have key : ∀ n, n ≤ len → ∃ l : List α, l.length = n ∧ (∀ y ∈ l, Q y) ∧ ∀ (i : Nat) y, l[i]? = some y → ∀ j, j < k → ∃ u, (f y)[j]? = some u ∧ w.cell? ⟨blk, off + (i * k + j), none⟩ = some u := by
    intro n
    induction n with
    | zero => intro _; exact ⟨[], rfl, fun y hy => by simp at hy, fun i y e => by simp at e⟩
    | succ n ih =>
      intro hn
      obtain ⟨l, h1, hq, h2⟩ := ih (by omega)
      obtain ⟨y, hyq, hy⟩ := hrow n (by omega)
      refine ⟨l ++ [y], by simp [h1], fun z hz => ?_, fun i z e => ?_⟩
      · simp only [List.mem_append, List.mem_singleton] at hz
        rcases hz with hz | rfl
        · exact hq z hz
        · exact hyq
      rw [List.getElem?_append] at e
      split at e
      · exact h2 i z e
      · rename_i q
        have : i = n := by have := get_lt e; simp at this; omega
        subst this
        rw [h1, Nat.sub_self] at e
        simp at e; subst e
        exact hy
  obtain ⟨l, hl1, hq, hl2⟩ := key len (Nat.le_refl _)
  refine ⟨l, by omega, hq, .inr ⟨blk, off, m, by rw [hl1], by omega, fun i u hu => ?_⟩⟩
  obtain ⟨y, h1, h2⟩ := flat_get hk (fun y _ => hfk y) i u hu
  have hj : i % k < k := Nat.mod_lt _ hk
  obtain ⟨u', e1, e2⟩ := hl2 _ y h1 _ hj
  rw [h2] at e1; cases e1
  rw [Nat.div_add_mod'] at e2
  exact e2
/-- Rows of plain cells. -/
theorem rows_givenG {H : Type} {enc : TypeId × Value → H} {P : Program} {w : World} {base b0 : Nat} {r : Reach} {held : Bool} {α : Type} {f : α → List Value} {Q : α → Prop} {k : Nat} {t e : TypeId} {fuel : Nat} {v : Value} {x : DataW H × List MemPlace}
    (ht : P.underlying t = some (.slice e)) (hR : ∀ (fuel : Nat) (cs : List Value) (x : DataW H × List MemPlace), DataW.trod enc P w base (fun _ => true) held fuel e cs = some x → ∃ y : α, cs = f y ∧ Q y) (hc : P.cellsOf e = k) (hk : 0 < k) (hfk : ∀ y, (f y).length = k) (hflat : ∀ y u, u ∈ f y → flat1 u = true)
    (hok : Cell.okWide P w r b0 t v) (h : DataW.trod enc P w base (fun _ => true) held fuel t [v] = some x) : ∃ (l : List α) (y : Imp), Given w v f l y ∧ l.length ≤ maxLen ∧ ∀ y ∈ l, Q y := by
  obtain ⟨l, h1, h2, ⟨h3, rfl⟩ | ⟨blk, off, cap, h3, h4, h5⟩⟩ := rows_read ht hR hc hk hfk h
  · rcases h3 with h3 | ⟨⟨blk, off, spot⟩, rfl⟩
    · exact ⟨[], ⟨0, 0, []⟩, ⟨fun i u e => by simp at e, rfl, .inl ⟨h3, rfl⟩⟩, h1, h2⟩
    · have hs : spot = none := by
        unfold Cell.okWide at hok
        rw [ht] at hok
        unfold Cell.ok at hok
        simp only [ht] at hok
        exact hok.2.2.2.1
      subst hs
      exact ⟨[], ⟨blk, off, []⟩, ⟨fun i u e => by simp at e, rfl, .inr ⟨0, rfl, Nat.le_refl 0⟩⟩, h1, h2⟩
  · refine ⟨l, ⟨blk, off, l.flatMap f⟩, ⟨fun i u hu => ⟨h5 i u hu, ?_⟩, rfl, .inr ⟨cap, h3, h4⟩⟩, h1, h2⟩
    obtain ⟨y, hy, hu'⟩ := List.mem_flatMap.1 (List.mem_of_getElem? hu)
    exact hflat y u hu'
theorem maxLen_le : maxLen ≤ 9223372036854775807 := by decide

end Go.Ax

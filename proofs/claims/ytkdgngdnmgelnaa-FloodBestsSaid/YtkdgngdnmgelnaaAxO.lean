
import Derived.Test.YtkdgngdnmgelnaaAxW6
set_option linter.all false
/-! The evaluator for all inputs: what is given lies in blocks that are only read. -/
namespace Go.Ax
open Go Go.RowKit
structure Imp where
  blk : Nat
  off : Nat
  cs : List Value
theorem tr_of (f : Nat → Option Ob) : ∀ n, ∃ t : Tr Ob, ∀ b, t.get b = if b < n then f b else none
  | 0 => ⟨.nil, fun b => by simp [Tr.get_nil]⟩
  | n + 1 => by
    obtain ⟨t, h⟩ := tr_of f n
    cases e : f n with
    | none =>
      refine ⟨t, fun b => ?_⟩
      rw [h]
      by_cases hb : b < n
      · rw [if_pos hb, if_pos (by omega)]
      · rw [if_neg hb]
        by_cases hb2 : b < n + 1
        · rw [if_pos hb2, show b = n by omega, e]
        · rw [if_neg hb2]
    | some o =>
      refine ⟨t.set n o, fun b => ?_⟩
      rw [Tr.get_set, h]
      by_cases hb : b = n
      · subst hb; rw [if_pos rfl, if_pos (by omega), e]
      · rw [if_neg hb]
        by_cases hb2 : b < n
        · rw [if_pos hb2, if_pos (by omega)]
        · rw [if_neg hb2, if_neg (by omega)]
section
variable {P : Program}
theorem imports (imps : List Imp) (w : World) (h : ∀ x ∈ imps, ∀ (i : Nat) v, x.cs[i]? = some v → w.cell? ⟨x.blk, x.off + i, none⟩ = some v ∧ flat1 v = true) :
    ∃ (r : Ren) (H : Hp), Rel P r w.heap.size H w ∧ H.next = imps.length ∧ (∀ b loc, r b = some loc → b < H.next) ∧ ∀ (b : Nat) x, imps[b]? = some x → r b = some ⟨x.blk, x.off, none⟩ ∧ cellsOf H b = some x.cs := by
  obtain ⟨t, ht⟩ := tr_of (fun b => (imps[b]?).map fun x => .ro x.cs) imps.length
  have hr : ∀ (b : Nat) loc, (imps[b]?).map (fun x => (⟨x.blk, x.off, none⟩ : Loc)) = some loc → ∃ x, imps[b]? = some x ∧ b < imps.length ∧ loc = ⟨x.blk, x.off, none⟩ ∧ t.get b = some (.ro x.cs) := by
    intro b loc e
    cases hx : imps[b]? with
    | none => rw [hx] at e; cases e
    | some x =>
      rw [hx] at e
      simp at e
      have hlt : b < imps.length := by
        rcases Nat.lt_or_ge b imps.length with q | q
        · exact q
        · rw [List.getElem?_eq_none q] at hx; cases hx
      exact ⟨x, rfl, hlt, e.symm, by rw [ht, if_pos hlt, hx]; rfl⟩
  refine ⟨fun b => (imps[b]?).map fun x => ⟨x.blk, x.off, none⟩, { next := imps.length, t }, ⟨?_, ?_, ?_, Nat.le_refl _⟩, rfl, ?_, ?_⟩
  · intro b loc e
    obtain ⟨x, hx, hlt, rfl, hg⟩ := hr b loc e
    refine ⟨hlt, ?_⟩
    show Dm _ _ _ (t.get b)
    rw [hg]
    cases hc : x.cs with
    | nil => exact .inl rfl
    | cons v l =>
      refine .inr ?_
      have := (h x (List.mem_of_getElem? hx) 0 v (by rw [hc]; rfl)).1
      unfold World.cell? at this
      rcases Nat.lt_or_ge x.blk w.heap.size with q | q
      · exact q
      · rw [Array.getElem?_eq_none q] at this; cases this
  · intro b loc o e eo
    obtain ⟨x, hx, hlt, rfl, hg⟩ := hr b loc e
    rw [hg] at eo; cases eo
    refine ⟨rfl, fun i v ev => ?_⟩
    obtain ⟨h1, h2⟩ := h x (List.mem_of_getElem? hx) i v ev
    unfold World.cell? at h1
    simp only at h1
    split at h1
    · rename_i C e' f hC
      exact ⟨C, e', f, v, hC, by simpa using h1, flat1_vr h2⟩
    · cases h1
  · intro b b' loc loc' e e' _ hl _
    obtain ⟨x, hx, hlt, rfl, hg⟩ := hr b loc e
    obtain ⟨o, h1, h2, h3⟩ := hl
    have : t.get b = some o := h1
    rw [hg] at this; cases this
    cases h3
  · intro b loc e
    obtain ⟨x, hx, hlt, rfl, hg⟩ := hr b loc e
    exact hlt
  · intro b x hx
    obtain ⟨x', hx', hlt, _, hg⟩ := hr b _ (by rw [hx]; rfl)
    rw [hx] at hx'; cases hx'
    refine ⟨by simp only [hx, Option.map_some], ?_⟩
    unfold cellsOf
    show (match t.get b with | some (.cells cs _ _) => some cs | some (.ro cs) => some cs | _ => none) = _
    rw [hg]
theorem open_call (hm : P.follows .mixedOrders = true) (hN : NoCount P) {kn : FuncId → Option Bool} (hkn : Known P kn) {f : FuncId} {args : List Value} {H H' : Hp} {b : Bool} {w : World} {r : Ren} {args' : Array Value}
    (hrel : Rel P r w.heap.size H w) (hr : ∀ b loc, r b = some loc → b < H.next) (ha : LR r args args'.toList) (h : FnX P kn H.next f args H (.bool b) H') :
    Calls P f args' w fun e w' => e = .returned (.bool b) ∧ Below w.heap.size w w' := by
  obtain ⟨N, h⟩ := h
  have he := h N N (Nat.le_refl _) (Nat.le_refl _)
  obtain ⟨hC, hD⟩ := evCall_R hm hN hkn N N
  have hA : CallA (callF P kn N N) := (evCall_old P kn N N).2
  intro cs
  obtain ⟨_, r', w', pc', fr, q1, q2, q3, q4, q5, q6⟩ := func_R hC hA hm (hD H.next) he (Nat.le_refl _) hrel (args' := args') ha (kind := .normal) (K := fun _ => cs) (.inl ⟨rfl, fun _ => rfl⟩) (pc := none) rfl (fun _ => rfl)
  obtain ⟨v', hv, ⟨g1, g2, g3⟩⟩ := q5
  have := bool_same hv
  subst this
  exact ⟨.returned (.bool b), w', fr, ⟨rfl, q1.below hrel fun b loc e => .inl (hr b loc e)⟩, q6, q3, g1, g2, q4, g3⟩
end
end Go.Ax

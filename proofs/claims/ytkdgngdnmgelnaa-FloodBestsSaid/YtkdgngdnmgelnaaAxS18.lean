import Derived.Test.YtkdgngdnmgelnaaAxS17
set_option linter.all false
namespace Go.Ax
open Go Go.RowKit
/-! ### Which operations surely run before which -/
inductive Anc (ops : Array Oper) : Nat → Nat → Prop
  | edge {j : Nat} {o : Oper} {e : Edge} : ops[j]? = some o → e ∈ o.after → Region.binds .any e = true → Anc ops j e.on
  | more {j i : Nat} {o : Oper} {e : Edge} : ops[j]? = some o → e ∈ o.after → Region.binds .any e = true → Anc ops e.on i → Anc ops j i
theorem mask_bits (look : Nat → Nat) (i : Nat) : ∀ (es : List Edge) (s : Nat), (maskOf look es s).testBit i = true → s.testBit i = true ∨ ∃ e ∈ es, Region.binds .any e = true ∧ (e.on = i ∨ (look e.on).testBit i = true)
  | [], s, h => .inl h
  | e :: es, s, h => by
    unfold maskOf at h
    cases hb : Region.binds .any e with
    | false =>
      rw [hb] at h
      simp only [cond_false] at h
      rcases mask_bits look i es s h with q | ⟨e', q1, q2⟩
      · exact .inl q
      · exact .inr ⟨e', by simp [q1], q2⟩
    | true =>
      rw [hb] at h
      simp only [cond_true] at h
      rcases mask_bits look i es _ h with q | ⟨e', q1, q2⟩
      · simp only [Nat.testBit_or, Bool.or_eq_true] at q
        rcases q with (q | q) | q
        · exact .inl q
        · refine .inr ⟨e, by simp, hb, .inl ?_⟩
          rw [Nat.testBit_two_pow] at q
          simpa using q
        · exact .inr ⟨e, by simp, hb, .inr q⟩
      · exact .inr ⟨e', by simp [q1], q2⟩
theorem forceN_eq {α : Type} (n : Nat) (k : Nat → α) : forceN n k = k n := by cases n <;> rfl
def MasksOk (ops : Array Oper) (n : Nat) (acc : List Nat) : Prop := acc.length = n ∧ ∀ j m, j < n → acc[n - 1 - j]? = some m → ∀ i, m.testBit i = true → Anc ops j i
theorem ancR_ok (ops : Array Oper) : ∀ (l : List Oper) (j : Nat) (acc : List Nat), (∀ k, l[k]? = ops[j + k]?) → MasksOk ops j acc → MasksOk ops (j + l.length) (ancR l j acc)
  | [], j, acc, _, h => by simpa [ancR] using h
  | o :: l, j, acc, hl, h => by
    rw [ancR, forceN_eq]
    have ho : ops[j]? = some o := by simpa using (hl 0).symm
    have hstep : MasksOk ops (j + 1) (maskOf (fun i => bif Nat.ble (i + 1) j then acc.getD (j - 1 - i) 0 else 0) o.after.toList 0 :: acc) := by
      refine ⟨by simp [h.1], fun j' m hj' hm i hi => ?_⟩
      by_cases hjj : j' = j
      · subst hjj
        simp at hm
        subst hm
        rcases mask_bits _ i _ _ hi with q | ⟨e, q1, q2, q3⟩
        · simp at q
        · have he : e ∈ o.after := by simpa using q1
          rcases q3 with q3 | q3
          · rw [← q3]; exact .edge ho he q2
          · cases hb : Nat.ble (e.on + 1) j' with
            | false => rw [hb] at q3; simp at q3
            | true =>
              rw [hb] at q3
              have hlt := Nat.le_of_ble_eq_true hb
              simp only [cond_true] at q3
              cases hg : acc[j' - 1 - e.on]? with
              | none => rw [hg] at q3; simp at q3
              | some m' =>
                rw [hg] at q3
                exact .more ho he q2 (h.2 e.on m' (by omega) hg i q3)
      · have : j + 1 - 1 - j' = (j - 1 - j') + 1 := by omega
        rw [this, List.getElem?_cons_succ] at hm
        exact h.2 j' m (by omega) hm i hi
    have := ancR_ok ops l (j + 1) _ (fun k => by have := hl (k + 1); simpa [Nat.add_assoc, Nat.add_comm 1 k] using this) hstep
    simpa [Nat.add_assoc, Nat.add_comm 1 l.length] using this
theorem ancR_all (ops : Array Oper) : MasksOk ops ops.size (ancR ops.toList 0 []) := by
  have := ancR_ok ops ops.toList 0 [] (fun k => by simp) ⟨rfl, fun j m h => by omega⟩
  simpa using this
theorem belowG_spec {α : Type} {bad : α → α → Bool} {k : α} {m : Nat} : ∀ {cs : List α} , pairsG.belowG bad k m cs cs.length = true → ∀ i c, i < cs.length → cs[cs.length - 1 - i]? = some c → bad k c = true → m.testBit i = true
  | [], _, i, c, hi, _, _ => by simp at hi
  | x :: cs, h, i, c, hi, hc, hb => by
    simp only [List.length_cons, pairsG.belowG, Nat.add_sub_cancel, Bool.and_eq_true, Bool.or_eq_true, Bool.not_eq_true'] at h hi hc
    by_cases hii : i = cs.length
    · subst hii
      simp at hc
      subst hc
      rcases h.1 with q | q
      · rw [hb] at q; cases q
      · exact q
    · have : cs.length - i = (cs.length - 1 - i) + 1 := by omega
      rw [this, List.getElem?_cons_succ] at hc
      exact belowG_spec h.2 i c (by omega) hc hb
theorem pairsG_spec {α : Type} {bad : α → α → Bool} : ∀ {xs : List α} {ms : List Nat}, pairsG bad xs ms = true → ms.length = xs.length → ∀ i j x y m, i < j → j < xs.length → xs[xs.length - 1 - j]? = some x → xs[xs.length - 1 - i]? = some y → ms[xs.length - 1 - j]? = some m →
    bad x y = true → m.testBit i = true
  | [], _, _, _, i, j, x, y, m, _, hj, _, _, _, _ => by simp at hj
  | a :: xs, [], _, hl, _, _, _, _, _, _, _, _, _, _, _ => by simp at hl
  | a :: xs, b :: ms, h, hl, i, j, x, y, m, hij, hj, hx, hy, hm, hb => by
    simp only [pairsG, Bool.and_eq_true] at h
    simp only [List.length_cons, Nat.add_sub_cancel] at hj hx hy hm hl
    by_cases hjj : j = xs.length
    · subst hjj
      simp at hx hm
      subst hx; subst hm
      have : xs.length - i = (xs.length - 1 - i) + 1 := by omega
      rw [this, List.getElem?_cons_succ] at hy
      exact belowG_spec h.1 i y hij hy hb
    · have e1 : xs.length - j = (xs.length - 1 - j) + 1 := by omega
      have e2 : xs.length - i = (xs.length - 1 - i) + 1 := by omega
      rw [e1, List.getElem?_cons_succ] at hx hm
      rw [e2, List.getElem?_cons_succ] at hy
      exact pairsG_spec h.2 (by omega) i j x y m hij (by omega) hx hy hm hb
theorem pairs_anc {α : Type} {bad : α → α → Bool} {ops : Array Oper} {f : Nat → α} {xs : List α} (hxs : xs.length = ops.size) (hf : ∀ j, j < ops.size → xs[ops.size - 1 - j]? = some (f j)) (h : pairsG bad xs (ancR ops.toList 0 []) = true) {i j : Nat} (hij : i < j) (hj : j < ops.size)
    (hb : bad (f j) (f i) = true) : Anc ops j i := by
  have hm := ancR_all ops
  have hlt : ops.size - 1 - j < (ancR ops.toList 0 []).length := by rw [hm.1]; omega
  have hget := List.getElem?_eq_getElem hlt
  have := pairsG_spec h (by rw [hm.1, hxs]) i j (f j) (f i) _ hij (by omega) (by rw [hxs]; exact hf j hj) (by rw [hxs]; exact hf i (by omega)) (by rw [hxs]; exact hget) hb
  exact hm.2 j _ hj hget i this
theorem pairs_ancP {α : Type} {bad : α → α → Bool} {ops : Array Oper} {f : Nat → α} {xs : List α} {n : Nat} (hxs : xs.length = n) (hn : n ≤ ops.size) (hf : ∀ j, j < n → xs[n - 1 - j]? = some (f j)) (h : pairsG bad xs ((ancR ops.toList 0 []).drop (ops.size - n)) = true) {i j : Nat} (hij : i < j) (hj : j < n)
    (hb : bad (f j) (f i) = true) : Anc ops j i := by
  have hm := ancR_all ops
  have hlt : ops.size - 1 - j < (ancR ops.toList 0 []).length := by rw [hm.1]; omega
  have hget := List.getElem?_eq_getElem hlt
  have hget2 : ((ancR ops.toList 0 []).drop (ops.size - n))[n - 1 - j]? = some ((ancR ops.toList 0 [])[ops.size - 1 - j]'hlt) := by
    rw [List.getElem?_drop, ← hget]; congr 1; omega
  have := pairsG_spec h (by rw [List.length_drop, hm.1, hxs]; omega) i j (f j) (f i) _ hij (by omega) (by rw [hxs]; exact hf j hj) (by rw [hxs]; exact hf i (by omega)) (by rw [hxs]; exact hget2) hb
  exact hm.2 j _ (by omega) hget i this
theorem behind_anc {ops : Array Oper} {n : Nat} (h : behindOk (ancL ops.toList) (n + 1) = true) {j : Nat} (hnj : n < j) (hj : j < ops.size) : Anc ops j n := by
  have hm := ancR_all ops
  have hlt : ops.size - 1 - j < (ancR ops.toList 0 []).length := by rw [hm.1]; omega
  have hget := List.getElem?_eq_getElem hlt
  refine hm.2 j _ hj hget n ?_
  have hl : (ancL ops.toList)[j]? = some ((ancR ops.toList 0 [])[ops.size - 1 - j]'hlt) := by
    unfold ancL
    rw [List.getElem?_reverse (by rw [hm.1]; exact hj), ← hget, hm.1]
  have := List.all_eq_true.1 h _ (List.mem_of_getElem? (i := j - (n + 1)) (by rw [List.getElem?_drop, ← hl]; congr 1; omega))
  simpa using this
theorem infoR_get (ops : Array Oper) : ∀ (l : List Oper) (acc : List (Option Nat × List Nat)), infoR ops l acc = (l.map fun o => (o.dst, readsOf ops o)).reverse ++ acc
  | [], acc => by simp [infoR]
  | o :: l, acc => by rw [infoR, infoR_get ops l]; simp
theorem rev_get {α : Type} (l : List α) (j : Nat) (h : j < l.length) : l.reverse[l.length - 1 - j]? = l[j]? := by
  rw [List.getElem?_reverse (by omega)]
  congr 1
  omega
theorem edgesOk_spec : ∀ (l : List Oper) (k : Nat), edgesOk l k = true → ∀ i o, l[i]? = some o → ∀ e ∈ o.after, Region.binds .any e = true → e.on < k + i
  | [], _, _, i, o, h, _, _, _ => by simp at h
  | x :: l, k, h, i, o, ho, e, he, hb => by
    simp only [edgesOk, Bool.and_eq_true] at h
    cases i with
    | zero =>
      simp at ho; subst ho
      have := List.all_eq_true.1 h.1 e (by simpa using he)
      simp only [hb, Bool.not_true, Bool.false_or] at this
      have := Nat.le_of_ble_eq_true this
      omega
    | succ i =>
      have := edgesOk_spec l (k + 1) h.2 i o (by simpa using ho) e he hb
      omega
structure RegS (ops : Array Oper) : Prop where
  back : ∀ (i : Nat) o, ops[i]? = some o → ∀ e ∈ o.after, Region.binds .any e = true → e.on < i
  apart : ∀ (i j : Nat) oi oj, ops[i]? = some oi → ops[j]? = some oj → i < j → hit (oj.dst, readsOf ops oj) (oi.dst, readsOf ops oi) = true → Anc ops j i
theorem regOk_spec {ops : Array Oper} (h : regOk ops = true) : RegS ops := by
  unfold regOk at h
  simp only [Bool.and_eq_true] at h
  refine ⟨fun i o ho e he hb => ?_, fun i j oi oj hi hj hij hh => ?_⟩
  · have := edgesOk_spec ops.toList 0 h.1 i o (by simpa using ho) e he hb
    omega
  · have hjs : j < ops.size := by
      rcases Nat.lt_or_ge j ops.size with q | q
      · exact q
      · rw [Array.getElem?_eq_none q] at hj; cases hj
    refine pairs_anc (bad := hit) (f := fun j => match ops[j]? with | some o => (o.dst, readsOf ops o) | none => (none, [])) (xs := infoR ops ops.toList []) ?_ ?_ h.2 hij hjs ?_
    · rw [infoR_get]; simp
    · intro k hk
      rw [infoR_get]
      simp only [List.append_nil]
      have : ops.size = (ops.toList.map fun o => (o.dst, readsOf ops o)).length := by simp
      rw [this, rev_get _ _ (by simpa using hk)]
      simp [hk]
    · simp only [hi, hj]; exact hh
end Go.Ax

import Derived.Test.YtkdgngdnmgelnaaAx
import Derived.Calls
import Derived.Below
set_option linter.all false
namespace Go.Ax
open Go Go.RowKit
/-! ### The tree -/
theorem beq_eq (a b : Nat) : Nat.beq a b = decide (a = b) := by
  cases h : Nat.beq a b
  · symm; simp; intro e; subst e; simp [Nat.beq_refl] at h
  · symm; simp; exact Nat.eq_of_beq_eq_true h
theorem bool_pick {α : Type} (b : Bool) (x y : α) : (Bool.rec (motive := fun _ => α) x y b) = if b = true then y else x := by cases b <;> rfl
theorem Tr.get_nil {α : Type} (k : Nat) : (Tr.nil : Tr α).get k = none := rfl
theorem Tr.get_node {α : Type} (v : Option α) (l r : Tr α) (k : Nat) : (Tr.node v l r).get k = if k = 0 then v else if k % 2 = 1 then l.get (k / 2) else r.get (k / 2) := by
  show Bool.rec (motive := fun _ => Option α) (Bool.rec (motive := fun _ => Option α) (r.get (k / 2)) (l.get (k / 2)) (Nat.beq (k % 2) 1)) v (Nat.beq k 0) = _
  rw [bool_pick, bool_pick, beq_eq, beq_eq]
  simp only [decide_eq_true_eq]
theorem Tr.one_succ {α : Type} (x : α) (f k : Nat) : Tr.one x (f + 1) k = if k = 0 then .node (some x) .nil .nil else if k % 2 = 1 then .node none (Tr.one x f (k / 2)) .nil else .node none .nil (Tr.one x f (k / 2)) := by
  show Bool.rec (motive := fun _ => Tr α) (Bool.rec (motive := fun _ => Tr α) (.node none .nil (Tr.one x f (k / 2))) (.node none (Tr.one x f (k / 2)) .nil) (Nat.beq (k % 2) 1)) (.node (some x) .nil .nil) (Nat.beq k 0) = _
  rw [bool_pick, bool_pick, beq_eq, beq_eq]
  simp only [decide_eq_true_eq]
theorem Tr.set_nil {α : Type} (k : Nat) (x : α) : (Tr.nil : Tr α).set k x = Tr.one x (k + 1) k := rfl
theorem Tr.set_node {α : Type} (v : Option α) (l r : Tr α) (k : Nat) (x : α) : (Tr.node v l r).set k x = if k = 0 then .node (some x) l r else if k % 2 = 1 then .node v (l.set (k / 2) x) r else .node v l (r.set (k / 2) x) := by
  show Bool.rec (motive := fun _ => Tr α) (Bool.rec (motive := fun _ => Tr α) (.node v l (r.set (k / 2) x)) (.node v (l.set (k / 2) x) r) (Nat.beq (k % 2) 1)) (.node (some x) l r) (Nat.beq k 0) = _
  rw [bool_pick, bool_pick, beq_eq, beq_eq]
  simp only [decide_eq_true_eq]
theorem Tr.get_one {α : Type} (x : α) : ∀ (f k j : Nat), k < f → (Tr.one x f k).get j = if j = k then some x else none
  | 0, k, j, h => by omega
  | f + 1, k, j, h => by
    rw [Tr.one_succ]
    by_cases hk : k = 0
    · subst hk
      rw [if_pos rfl, Tr.get_node]
      by_cases hj : j = 0
      · simp [hj]
      · rw [if_neg hj, if_neg hj]; split <;> rfl
    · rw [if_neg hk]
      by_cases h1 : k % 2 = 1
      · rw [if_pos h1, Tr.get_node, Tr.get_one x f (k / 2) (j / 2) (by omega)]
        by_cases hj : j = 0
        · rw [if_pos hj, if_neg (by omega)]
        · rw [if_neg hj]
          by_cases hj1 : j % 2 = 1
          · rw [if_pos hj1]
            by_cases he : j = k
            · rw [if_pos (by omega), if_pos he]
            · rw [if_neg (by omega), if_neg he]
          · rw [if_neg hj1, if_neg (by omega)]; rfl
      · rw [if_neg h1, Tr.get_node, Tr.get_one x f (k / 2) (j / 2) (by omega)]
        by_cases hj : j = 0
        · rw [if_pos hj, if_neg (by omega)]
        · rw [if_neg hj]
          by_cases hj1 : j % 2 = 1
          · rw [if_pos hj1, if_neg (by omega)]; rfl
          · rw [if_neg hj1]
            by_cases he : j = k
            · rw [if_pos (by omega), if_pos he]
            · rw [if_neg (by omega), if_neg he]
theorem Tr.get_set {α : Type} (t : Tr α) (k : Nat) (x : α) (j : Nat) : (t.set k x).get j = if j = k then some x else t.get j := by
  induction t generalizing k j with
  | nil => rw [Tr.set_nil, Tr.get_one x (k + 1) k j (by omega), Tr.get_nil]
  | node v l r ihl ihr =>
    rw [Tr.set_node, Tr.get_node v l r j]
    by_cases hk : k = 0
    · subst hk
      rw [if_pos rfl, Tr.get_node]
      by_cases hj : j = 0
      · simp [hj]
      · simp [hj]
    · rw [if_neg hk]
      by_cases h1 : k % 2 = 1
      · rw [if_pos h1, Tr.get_node, ihl]
        by_cases hj : j = 0
        · rw [if_pos hj, if_pos hj, if_neg (by omega)]
        · rw [if_neg hj, if_neg hj]
          by_cases hj1 : j % 2 = 1
          · rw [if_pos hj1, if_pos hj1]
            by_cases he : j = k
            · rw [if_pos (by omega), if_pos he]
            · rw [if_neg (by omega), if_neg he]
          · rw [if_neg hj1, if_neg hj1, if_neg (by omega)]
      · rw [if_neg h1, Tr.get_node, ihr]
        by_cases hj : j = 0
        · rw [if_pos hj, if_pos hj, if_neg (by omega)]
        · rw [if_neg hj, if_neg hj]
          by_cases hj1 : j % 2 = 1
          · rw [if_pos hj1, if_pos hj1, if_neg (by omega)]
          · rw [if_neg hj1, if_neg hj1]
            by_cases he : j = k
            · rw [if_pos (by omega), if_pos he]
            · rw [if_neg (by omega), if_neg he]
theorem Tr.del_nil {α : Type} (k : Nat) : (Tr.nil : Tr α).del k = .nil := rfl
theorem Tr.del_node {α : Type} (v : Option α) (l r : Tr α) (k : Nat) : (Tr.node v l r).del k = if k = 0 then .node none l r else if k % 2 = 1 then .node v (l.del (k / 2)) r else .node v l (r.del (k / 2)) := by
  show Bool.rec (motive := fun _ => Tr α) (Bool.rec (motive := fun _ => Tr α) (.node v l (r.del (k / 2))) (.node v (l.del (k / 2)) r) (Nat.beq (k % 2) 1)) (.node none l r) (Nat.beq k 0) = _
  rw [bool_pick, bool_pick, beq_eq, beq_eq]
  simp only [decide_eq_true_eq]
theorem Tr.get_del {α : Type} : ∀ (t : Tr α) (k j : Nat), (t.del k).get j = if j = k then none else t.get j
  | .nil, k, j => by rw [Tr.del_nil, Tr.get_nil]; split <;> rfl
  | .node v l r, k, j => by
    rw [Tr.del_node]
    by_cases hk : k = 0
    · subst hk
      rw [if_pos rfl, Tr.get_node, Tr.get_node]
      by_cases hj : j = 0
      · simp [hj]
      · rw [if_neg hj, if_neg hj, if_neg hj]
    · rw [if_neg hk]
      by_cases h1 : k % 2 = 1
      · rw [if_pos h1, Tr.get_node, Tr.get_node, Tr.get_del l (k / 2) (j / 2)]
        by_cases hj : j = 0
        · rw [if_pos hj, if_pos hj, if_neg (by omega)]
        · rw [if_neg hj, if_neg hj]
          by_cases hj1 : j % 2 = 1
          · rw [if_pos hj1, if_pos hj1]
            by_cases he : j = k
            · rw [if_pos (by omega), if_pos he]
            · rw [if_neg (by omega), if_neg he]
          · rw [if_neg hj1, if_neg hj1, if_neg (by omega)]
      · rw [if_neg h1, Tr.get_node, Tr.get_node, Tr.get_del r (k / 2) (j / 2)]
        by_cases hj : j = 0
        · rw [if_pos hj, if_pos hj, if_neg (by omega)]
        · rw [if_neg hj, if_neg hj]
          by_cases hj1 : j % 2 = 1
          · rw [if_pos hj1, if_pos hj1, if_neg (by omega)]
          · rw [if_neg hj1, if_neg hj1]
            by_cases he : j = k
            · rw [if_pos (by omega), if_pos he]
            · rw [if_neg (by omega), if_neg he]
theorem delT_get (T : Tr Value) (t : Nat) : ∀ l : List Nat, (delT T l).get t = if t ∈ l then none else T.get t
  | [] => by simp [delT]
  | d :: l => by
    rw [delT, Tr.get_del, delT_get T t l]
    by_cases h : t = d
    · simp [h]
    · by_cases h2 : t ∈ l <;> simp [h, h2]
/-! ### Where the blocks lie, and which values are one -/
structure Loc where
  blk : Nat
  delta : Nat
  loose : Option (Nat × Nat)
abbrev Ren := Nat → Option Loc
def Ren.Le (r r' : Ren) : Prop := ∀ b loc, r b = some loc → r' b = some loc
theorem Ren.Le.refl (r : Ren) : Ren.Le r r := fun _ _ h => h
theorem Ren.Le.trans {a b c : Ren} (h : Ren.Le a b) (k : Ren.Le b c) : Ren.Le a c := fun x l e => k x l (h x l e)
inductive FnR (r : Ren) : Fn → Fn → Prop
  | func (f : FuncId) : FnR r (.func f) (.func f)
  | method (m : String) : FnR r (.method m) (.method m)
  | methodOf (t : TypeId) (m : String) : FnR r (.methodOf t m) (.methodOf t m)
  | yield {l : Nat} {loc : Loc} : r l = some loc → FnR r (.yield l) (.yield loc.blk)
inductive VR (r : Ren) : Value → Value → Prop
  | bool (b : Bool) : VR r (.bool b) (.bool b)
  | int (k : IntKind) (n : Int) : VR r (.int k n) (.int k n)
  | str (s : ByteArray) : VR r (.string s) (.string s)
  | nilIface : VR r .nilIface .nilIface
  | nilFunc : VR r .nilFunc .nilFunc
  | nilPtr : VR r (.pointer none) (.pointer none)
  | nilMap : VR r (.map none) (.map none)
  | nilSlice : VR r (.slice none 0 0) (.slice none 0 0)
  | ptr {b o : Nat} {loc : Loc} : r b = some loc → VR r (.pointer (some ⟨b, o, none⟩)) (.pointer (some ⟨loc.blk, o + loc.delta, none⟩))
  | slice {b o n c : Nat} {loc : Loc} : r b = some loc → loc.loose = none → n ≤ c → VR r (.slice (some ⟨b, o, none⟩) n c) (.slice (some ⟨loc.blk, o + loc.delta, none⟩) n c)
  | loose {b o n c c' total sz : Nat} {loc : Loc} : r b = some loc → loc.loose = some (total, sz) → n ≤ c' → o + loc.delta + c' * sz = total →
      VR r (.slice (some ⟨b, o, none⟩) n c) (.slice (some ⟨loc.blk, o + loc.delta, none⟩) n c')
  | mapv {b : Nat} {loc : Loc} : r b = some loc → VR r (.map (some b)) (.map (some loc.blk))
  | weird {a' : Addr} {c' : Nat} : VR r (.slice (some ⟨0, 0, some 0⟩) 0 0) (.slice (some a') 0 c')
  | iface (t : TypeId) {v v' : Value} : VR r v v' → VR r (.iface t v) (.iface t v')
  | func {fn fn' : Fn} {A A' B B' : Array Value} : FnR r fn fn' → A.size = A'.size → (∀ (i : Nat) v v', A[i]? = some v → A'[i]? = some v' → VR r v v') →
      B.size = B'.size → (∀ (i : Nat) v v', B[i]? = some v → B'[i]? = some v' → VR r v v') → VR r (.func fn A B) (.func fn' A' B')
  | agg {A A' : Array Value} : A.size = A'.size → (∀ (i : Nat) v v', A[i]? = some v → A'[i]? = some v' → VR r v v') → VR r (.agg A) (.agg A')
  | tuple {A A' : Array Value} : A.size = A'.size → (∀ (i : Nat) v v', A[i]? = some v → A'[i]? = some v' → VR r v v') → VR r (.tuple A) (.tuple A')
theorem FnR.mono {r r' : Ren} (h : Ren.Le r r') {f f' : Fn} (k : FnR r f f') : FnR r' f f' := by
  cases k with
  | func f => exact .func f
  | method m => exact .method m
  | methodOf t m => exact .methodOf t m
  | yield e => exact .yield (h _ _ e)
theorem VR.mono {r r' : Ren} (h : Ren.Le r r') {v v' : Value} (k : VR r v v') : VR r' v v' := by
  induction k with
  | bool b => exact .bool b
  | int k n => exact .int k n
  | str s => exact .str s
  | nilIface => exact .nilIface
  | nilFunc => exact .nilFunc
  | nilPtr => exact .nilPtr
  | nilMap => exact .nilMap
  | nilSlice => exact .nilSlice
  | ptr e => exact .ptr (h _ _ e)
  | slice e l q => exact .slice (h _ _ e) l q
  | loose e l a b => exact .loose (h _ _ e) l a b
  | mapv e => exact .mapv (h _ _ e)
  | weird => exact .weird
  | iface t _ ih => exact .iface t ih
  | func f s1 _ s2 _ ih1 ih2 => exact .func (f.mono h) s1 ih1 s2 ih2
  | agg s _ ih => exact .agg s ih
  | tuple s _ ih => exact .tuple s ih
def LR (r : Ren) (l l' : List Value) : Prop := l.length = l'.length ∧ ∀ (i : Nat) v v', l[i]? = some v → l'[i]? = some v' → VR r v v'
theorem LR.mono {r r' : Ren} (h : Ren.Le r r') {l l' : List Value} (k : LR r l l') : LR r' l l' := ⟨k.1, fun i v v' a b => (k.2 i v v' a b).mono h⟩
theorem LR.nil {r : Ren} : LR r [] [] := ⟨rfl, fun i v v' a _ => by simp at a⟩
theorem LR.cons {r : Ren} {v v' : Value} {l l' : List Value} (h : VR r v v') (k : LR r l l') : LR r (v :: l) (v' :: l') :=
  ⟨by simp [k.1], fun i a b ha hb => by
    cases i with
    | zero => simp at ha hb; subst ha hb; exact h
    | succ i => exact k.2 i a b (by simpa using ha) (by simpa using hb)⟩
theorem LR.of_cons {r : Ren} {v : Value} {l L : List Value} (h : LR r (v :: l) L) : ∃ v' l', L = v' :: l' ∧ VR r v v' ∧ LR r l l' := by
  cases L with
  | nil => simpa using h.1
  | cons v' l' => exact ⟨v', l', rfl, h.2 0 v v' rfl rfl, by simpa using h.1, fun i a b ha hb => h.2 (i + 1) a b (by simpa using ha) (by simpa using hb)⟩
theorem LR.of_nil {r : Ren} {L : List Value} (h : LR r [] L) : L = [] := by
  cases L with
  | nil => rfl
  | cons _ _ => simpa using h.1
theorem LR.append {r : Ren} {a a' b b' : List Value} (h : LR r a a') (k : LR r b b') : LR r (a ++ b) (a' ++ b') := by
  induction a generalizing a' with
  | nil => rw [h.of_nil]; simpa using k
  | cons v l ih => obtain ⟨v', l', rfl, hv, hl⟩ := h.of_cons; simpa using LR.cons hv (ih hl)
theorem LR.get {r : Ren} {l l' : List Value} (h : LR r l l') {i : Nat} {v : Value} (e : l[i]? = some v) : ∃ v', l'[i]? = some v' ∧ VR r v v' := by
  have hi : i < l.length := by
    rcases Nat.lt_or_ge i l.length with q | q
    · exact q
    · rw [List.getElem?_eq_none q] at e; cases e
  have hi' : i < l'.length := by rw [← h.1]; exact hi
  exact ⟨l'[i], List.getElem?_eq_getElem hi', h.2 i v _ e (List.getElem?_eq_getElem hi')⟩
theorem LR.set {r : Ren} {l l' : List Value} (h : LR r l l') (i : Nat) {v v' : Value} (k : VR r v v') : LR r (l.set i v) (l'.set i v') := by
  refine ⟨by simp [h.1], fun j a b ha hb => ?_⟩
  rw [List.getElem?_set] at ha hb
  by_cases hij : i = j
  · simp only [hij, if_true] at ha hb
    split at ha
    · split at hb
      · simp at ha hb; subst ha hb; exact k
      · cases hb
    · cases ha
  · simp only [hij, if_false] at ha hb
    exact h.2 j a b ha hb
theorem LR.drop {r : Ren} {l l' : List Value} (h : LR r l l') (n : Nat) : LR r (l.drop n) (l'.drop n) :=
  ⟨by simp [h.1], fun j a b ha hb => by rw [List.getElem?_drop] at ha hb; exact h.2 _ a b ha hb⟩
theorem LR.take {r : Ren} {l l' : List Value} (h : LR r l l') (n : Nat) : LR r (l.take n) (l'.take n) :=
  ⟨by simp [h.1], fun j a b ha hb => by
    rw [List.getElem?_take] at ha hb
    split at ha
    · rename_i hj; rw [if_pos hj] at hb; exact h.2 _ a b ha hb
    · cases ha⟩
theorem LR_toArray {r : Ren} {A A' : Array Value} : LR r A.toList A'.toList ↔ (A.size = A'.size ∧ ∀ (i : Nat) v v', A[i]? = some v → A'[i]? = some v' → VR r v v') := by
  unfold LR
  simp
theorem VR.aggL {r : Ren} {l l' : List Value} (h : LR r l l') : VR r (.agg l.toArray) (.agg l'.toArray) := .agg (by simpa using h.1) (by simpa using h.2)
theorem VR.tupleL {r : Ren} {l l' : List Value} (h : LR r l l') : VR r (.tuple l.toArray) (.tuple l'.toArray) := .tuple (by simpa using h.1) (by simpa using h.2)
theorem VR.funcL {r : Ren} {fn fn' : Fn} {a a' b b' : List Value} (f : FnR r fn fn') (h : LR r a a') (k : LR r b b') : VR r (.func fn a.toArray b.toArray) (.func fn' a'.toArray b'.toArray) :=
  .func f (by simpa using h.1) (by simpa using h.2) (by simpa using k.1) (by simpa using k.2)
/-! ### Values without addresses -/
theorem flat1_vr {r : Ren} {v : Value} (h : flat1 v = true) : VR r v v := by
  cases v with
  | bool b => exact .bool b
  | int k n => exact .int k n
  | string s => exact .str s
  | nilIface => exact .nilIface
  | nilFunc => exact .nilFunc
  | pointer a => cases a with
    | none => exact .nilPtr
    | some a => simp [flat1] at h
  | map a => cases a with
    | none => exact .nilMap
    | some a => simp [flat1] at h
  | slice a n c => cases a with
    | none =>
      simp [flat1, beq_eq] at h
      obtain ⟨rfl, rfl⟩ := h
      exact .nilSlice
    | some a => simp [flat1] at h
  | _ => simp [flat1] at h
theorem flatL_vr {r : Ren} {A : Array Value} (h : A.toList.all flat1 = true) : ∀ (i : Nat) v v', A[i]? = some v → A[i]? = some v' → VR r v v' := by
  intro i v v' h1 h2
  rw [h1] at h2; cases h2
  refine flat1_vr ?_
  have := List.all_eq_true.1 h v ?_
  · exact this
  · rw [Array.mem_toList_iff]; exact Array.mem_of_getElem? h1
theorem flat_vr {r : Ren} {v : Value} (h : flat v = true) : VR r v v := by
  cases v with
  | agg A => exact .agg rfl (flatL_vr h)
  | tuple A => exact .tuple rfl (flatL_vr h)
  | iface t v =>
    refine .iface t ?_
    cases v with
    | agg A => exact .agg rfl (flatL_vr h)
    | _ => exact flat1_vr (by simpa [flat] using h)
  | _ => exact flat1_vr (by simpa [flat] using h)
theorem flat1_same {r : Ren} {v v' : Value} (h : flat1 v = true) (k : VR r v v') : v' = v := by
  cases k <;> first | rfl | (simp [flat1] at h)
theorem flatL_same {r : Ren} {A A' : Array Value} (h : A.toList.all flat1 = true) (s : A.size = A'.size) (k : ∀ (i : Nat) v v', A[i]? = some v → A'[i]? = some v' → VR r v v') : A' = A := by
  apply Array.ext s.symm
  intro i h1 h2
  have := k i A[i] A'[i] (Array.getElem?_eq_getElem h2) (Array.getElem?_eq_getElem h1)
  refine flat1_same ?_ this
  exact List.all_eq_true.1 h _ (by rw [Array.mem_toList_iff]; exact Array.getElem_mem h2)
theorem flat_same {r : Ren} {v v' : Value} (h : flat v = true) (k : VR r v v') : v' = v := by
  cases k with
  | agg s k => rw [flatL_same h s k]
  | tuple s k => rw [flatL_same h s k]
  | iface t k =>
    cases k with
    | agg s k => rw [flatL_same h s k]
    | _ => first | rfl | (simp [flat, flat1] at h)
  | _ => first | rfl | (simp [flat, flat1] at h)
theorem prun_run {α : Type} {P : Program} (s : Sem α) {a : α} (h : prun P s = some a) (w : World) : s.run P w = .ok a w := by
  induction s with
  | pure b => simp [prun] at h; subst h; rfl
  | program k ih => simp only [prun] at h; simp only [Sem.run]; exact ih P h
  | _ => simp [prun] at h
end Go.Ax

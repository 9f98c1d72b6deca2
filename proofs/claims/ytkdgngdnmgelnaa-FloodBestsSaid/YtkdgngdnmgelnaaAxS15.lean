import Derived.Test.YtkdgngdnmgelnaaAxS14
set_option linter.all false
namespace Go.Ax
open Go Go.RowKit
def Chg (lo : Nat) (H H' : Hp) : Kd → Prop
  | .pure | .read _ => H' = H
  | .heavy => H.next ≤ H'.next ∧ ∀ c, c < H.next → H'.t.get c = H.t.get c
  | .store b => H.next ≤ H'.next ∧ lo ≤ b ∧ ∀ c, c < H.next → c ≠ b → H'.t.get c = H.t.get c
  | .full => H.next ≤ H'.next ∧ ∀ c, c < lo → H'.t.get c = H.t.get c
  | .mk b => b = H.next ∧ ∃ cs e, H' = H.new (.cells cs e false)
theorem Chg.new (lo : Nat) (H : Hp) (o : Ob) : Chg lo H (H.new o) .heavy := ⟨Nat.le_succ _, fun c hc => by simp only [Hp.new, Tr.get_set]; rw [if_neg (by omega)]⟩
theorem Chg.set {lo b : Nat} (h : lo ≤ b) (H : Hp) (o : Ob) : Chg lo H { H with t := H.t.set b o } (.store b) := ⟨Nat.le_refl _, h, fun c _ hc => by simp only [Tr.get_set]; rw [if_neg hc]⟩
theorem Chg.setNew {lo b : Nat} (h : lo ≤ b) (H : Hp) (o o' : Ob) : Chg lo H ({ H with t := H.t.set b o }.new o') (.store b) :=
  ⟨Nat.le_succ _, h, fun c hc hb => by simp only [Hp.new, Tr.get_set]; rw [if_neg (by omega), if_neg hb]⟩
theorem appendV_chg {lo : Nat} {H : Hp} {e : TypeId} {size : Nat} {s : Value} {n : Nat} {news : List Value} {rs : Rs} {k : Kd} (h : appendV lo H e size s n news = some (rs, k)) : ∃ v H', rs = .val v H' ∧ Chg lo H H' k := by
  unfold appendV at h
  split at h
  · obtain ⟨_, h⟩ := bif_some h
    cases hn : Nat.beq n 0 <;> rw [hn] at h <;> simp only [cond_true, cond_false] at h <;> cases h
    · exact ⟨_, _, rfl, Chg.new _ _ _⟩
    · exact ⟨_, _, rfl, rfl⟩
  · rename_i a len cap
    obtain ⟨_, h⟩ := bif_some h
    cases hn : Nat.beq n 0 <;> rw [hn] at h <;> simp only [cond_true, cond_false] at h
    · split at h <;> first | (cases h; done) | skip
      · rename_i cs e' _ hget
        cases hc : Nat.ble (len + n) cap <;> rw [hc] at h <;> simp only [cond_true, cond_false] at h
        · split at h <;> first | (cases h; done) | skip
          cases h
          exact ⟨_, _, rfl, Chg.new _ _ _⟩
        · obtain ⟨hb, h⟩ := bif_some h
          simp only [Bool.and_eq_true] at hb
          cases h
          exact ⟨_, _, rfl, Chg.set (Nat.le_of_ble_eq_true hb.1.1) _ _⟩
      · rename_i cs e' _ hget
        obtain ⟨hb, h⟩ := bif_some h
        simp only [Bool.and_eq_true] at hb
        have hlo := Nat.le_of_ble_eq_true hb.1.2
        cases hc : Nat.ble (a.off + (len + n) * size) cs.length <;> rw [hc] at h <;> simp only [cond_true, cond_false] at h
        · obtain ⟨_, h⟩ := bif_some h
          cases h
          exact ⟨_, _, rfl, Chg.setNew hlo _ _ _⟩
        · cases h
          exact ⟨_, _, rfl, Chg.set hlo _ _⟩
    · cases h
      exact ⟨_, _, rfl, rfl⟩
  · cases h
theorem appendV_lo {lo lo' : Nat} {H : Hp} {e : TypeId} {size : Nat} {s : Value} {n : Nat} {news : List Value} {rs : Rs} (h : appendV lo H e size s n news = some (rs, .heavy)) : appendV lo' H e size s n news = some (rs, .heavy) := by
  unfold appendV at h ⊢
  split at h
  · exact h
  · rename_i a len cap
    obtain ⟨h0, h⟩ := bif_some h
    rw [h0]
    simp only [cond_true]
    cases hn : Nat.beq n 0 <;> rw [hn] at h <;> simp only [cond_true, cond_false] at h ⊢
    · split at h <;> first | (cases h; done) | skip
      · rename_i cs e' _ hget
        cases hc : Nat.ble (len + n) cap <;> rw [hc] at h <;> simp only [cond_true, cond_false] at h ⊢
        · exact h
        · obtain ⟨hb, h⟩ := bif_some h
          cases h
      · rename_i cs e' _ hget
        obtain ⟨hb, h⟩ := bif_some h
        cases hc : Nat.ble (a.off + (len + n) * size) cs.length <;> rw [hc] at h <;> simp only [cond_true, cond_false] at h
        · obtain ⟨_, h⟩ := bif_some h
          cases h
        · cases h
    · cases h
  · cases h
section
variable {P : Program} {lo : Nat} {A : Fr} {H : Hp}
theorem builtinV_chg {b : Builtin} {ts : Array TypeId} {vs : List Value} {rs : Rs} {k : Kd} (h : builtinV P lo H b ts vs = some (rs, k)) :
    (∃ v H', rs = .val v H' ∧ Chg lo H H' k) ∨ rs = .recov ∨ ∃ v, rs = .pan v := by
  unfold builtinV at h
  split at h
  · (repeat' split at h) <;> first | (cases h; done) | skip
    · exact .inl (appendV_chg h)
    · obtain ⟨_, h⟩ := bif_some h
      exact .inl (appendV_chg h)
  · split at h <;> first | (cases h; done) | skip
    split at h <;> first | (cases h; done) | skip
    · simp only at h
      split at h <;> first | (cases h; done) | skip
      split at h <;> first | (cases h; done) | skip
      obtain ⟨hb, h⟩ := bif_some h
      simp only [Bool.and_eq_true] at hb
      cases h
      have hlo := Nat.le_of_ble_eq_true hb.1.1
      exact .inl ⟨_, _, rfl, Nat.le_refl _, fun c hc => by simp only [Tr.get_set]; rw [if_neg (by omega)]⟩
    · cases h; exact .inl ⟨_, _, rfl, rfl⟩
  · (repeat' split at h) <;> first | (cases h; done) | (cases h; exact .inl ⟨_, _, rfl, rfl⟩)
  · cases h; exact .inr (.inr ⟨_, rfl⟩)
  · cases h; exact .inr (.inl rfl)
  · cases h
theorem storeV_chg {t : TypeId} {a : Addr} {v : Value} {H' : Hp} (h : storeV P lo H t a v = some H') : Chg lo H H' (.store a.block) := by
  unfold storeV at h
  (repeat' split at h) <;> first | (cases h; done) | skip
  obtain ⟨hb, h⟩ := bif_some h
  simp only [Bool.and_eq_true] at hb
  cases h
  exact Chg.set (Nat.le_of_ble_eq_true hb.1.1.1) _ _
theorem updateV_chg {t : TypeId} {m k v : Value} {rs : Rs} {kd : Kd} (h : updateV P lo H t m k v = some (rs, kd)) : ∃ H' b, rs = .skip H' ∧ kd = .store b ∧ Chg lo H H' (.store b) := by
  unfold updateV at h
  split at h <;> first | (cases h; done) | skip
  split at h <;> first | (cases h; done) | skip
  obtain ⟨hb, h⟩ := bif_some h
  simp only [Bool.and_eq_true] at hb
  split at h <;> first | (cases h; done) | skip
  cases h
  exact ⟨_, _, rfl, rfl, Chg.set (Nat.le_of_ble_eq_true hb.2) _ _⟩
theorem entryV_chg {t : TypeId} {m k : Value} {rs : Rs} {kd : Kd} (h : entryV P lo H t m k = some (rs, kd)) : ∃ v H' b, rs = .val v H' ∧ kd = .store b ∧ Chg lo H H' (.store b) := by
  unfold entryV at h
  split at h <;> first | (cases h; done) | skip
  split at h <;> first | (cases h; done) | skip
  obtain ⟨hb, h⟩ := bif_some h
  simp only [Bool.and_eq_true] at hb
  split at h <;> first | (cases h; done) | skip
  obtain ⟨_, h⟩ := bif_some h
  cases h
  exact ⟨_, _, _, rfl, rfl, Chg.set (Nat.le_of_ble_eq_true hb.2) _ _⟩
theorem entryStoreV_chg {m s v : Value} {rs : Rs} {kd : Kd} (h : entryStoreV P lo H m s v = some (rs, kd)) : ∃ H' b, rs = .skip H' ∧ kd = .store b ∧ Chg lo H H' (.store b) := by
  unfold entryStoreV at h
  split at h <;> first | (cases h; done) | skip
  split at h <;> first | (cases h; done) | skip
  obtain ⟨hb, h⟩ := bif_some h
  simp only [Bool.and_eq_true] at hb
  split at h <;> first | (cases h; done) | skip
  cases h
  exact ⟨_, _, rfl, rfl, Chg.set (Nat.le_of_ble_eq_true hb.2) _ _⟩
theorem heapOp_chg {o : Oper} {rs : Rs} {k : Kd} (h : heapOp P lo A H o = some (rs, k)) :
    (∃ v H', rs = .val v H' ∧ Chg lo H H' k) ∨ (∃ H', rs = .skip H' ∧ Chg lo H H' k ∧ ∃ b, k = .store b) ∨ (∃ d, rs = .dfr d) ∨ rs = .recov ∨ (∃ t vs, rs = .call t vs) ∨ ∃ v, rs = .pan v := by
  unfold heapOp at h
  cases hop : o.op <;> simp only [hop] at h <;> try (cases h; done)
  case alloc e =>
    (repeat' split at h) <;> first | (cases h; done) | skip
    cases h; exact .inl ⟨_, _, rfl, Chg.new _ _ _⟩
  case box e x =>
    (repeat' split at h) <;> first | (cases h; done) | skip
    cases h; exact .inl ⟨_, _, rfl, Chg.new _ _ _⟩
  case buildSlice t len parts =>
    split at h <;> first | (cases h; done) | skip
    split at h <;> first | (cases h; done) | skip
    obtain ⟨_, h⟩ := bif_some h
    split at h <;> first | (cases h; done) | skip
    cases h; exact .inl ⟨_, _, rfl, Chg.new _ _ _⟩
  case load t a =>
    (repeat' split at h) <;> first | (cases h; done) | skip
    cases h; exact .inl ⟨_, _, rfl, rfl⟩
  case store t a x =>
    (repeat' split at h) <;> first | (cases h; done) | skip
    rename_i hs
    cases h; exact .inr (.inl ⟨_, rfl, storeV_chg hs, _, rfl⟩)
  case makeSlice t l c =>
    (repeat' split at h) <;> first | (cases h; done) | skip
    obtain ⟨_, h⟩ := bif_some h
    cases h; exact .inl ⟨_, _, rfl, Chg.new _ _ _⟩
  case slice t x lw hi mx =>
    (repeat' split at h) <;> first | (cases h; done) | (obtain ⟨_, h⟩ := bif_some h; cases h; done) | skip
    all_goals
      obtain ⟨_, h⟩ := bif_some h
      cases h
      exact .inl ⟨_, _, rfl, rfl⟩
  case call c =>
    (repeat' split at h) <;> first | (cases h; done) | skip
    · rcases builtinV_chg h with q | q | q
      · exact .inl q
      · exact .inr (.inr (.inr (.inl q)))
      · exact .inr (.inr (.inr (.inr (.inr q))))
    · cases h; exact .inr (.inr (.inr (.inr (.inl ⟨_, _, rfl⟩))))
  case defer c =>
    (repeat' split at h) <;> first | (cases h; done) | skip
    cases h; exact .inr (.inr (.inl ⟨_, rfl⟩))
  case makeMap t r0 =>
    cases r0 with
    | some x => cases h
    | none => cases h; exact .inl ⟨_, _, rfl, Chg.new _ _ _⟩
  case lookup t x ix ok =>
    split at h <;> first | (cases h; done) | skip
    · split at h <;> first | (cases h; done) | skip
      obtain ⟨_, h⟩ := bif_some h
      split at h <;> first | (cases h; done) | skip
      obtain ⟨_, h⟩ := bif_some h
      cases h; exact .inl ⟨_, _, rfl, rfl⟩
    · obtain ⟨_, h⟩ := bif_some h
      split at h <;> first | (cases h; done) | skip
      obtain ⟨_, h⟩ := bif_some h
      cases h; exact .inl ⟨_, _, rfl, rfl⟩
  case mapEntry t m k =>
    split at h <;> first | (cases h; done) | skip
    obtain ⟨v, H', b, rfl, rfl, q⟩ := entryV_chg h
    exact .inl ⟨_, _, rfl, q⟩
  case entryStore t m s x =>
    split at h <;> first | (cases h; done) | skip
    obtain ⟨H', b, rfl, rfl, q⟩ := entryStoreV_chg h
    exact .inr (.inl ⟨_, rfl, q, _, rfl⟩)
  case mapUpdate t m k x =>
    split at h <;> first | (cases h; done) | skip
    obtain ⟨H', b, rfl, rfl, q⟩ := updateV_chg h
    exact .inr (.inl ⟨_, rfl, q, _, rfl⟩)
  case insert t m k x =>
    split at h <;> first | (cases h; done) | skip
    obtain ⟨H', b, rfl, rfl, q⟩ := updateV_chg h
    exact .inr (.inl ⟨_, rfl, q, _, rfl⟩)
  case panic x =>
    (repeat' split at h) <;> first | (cases h; done) | skip
    cases h; exact .inr (.inr (.inr (.inr (.inr ⟨_, rfl⟩))))
theorem builtinV_lo {lo' : Nat} {b : Builtin} {ts : Array TypeId} {vs : List Value} {rs : Rs} (h : builtinV P lo H b ts vs = some (rs, .heavy)) : builtinV P lo' H b ts vs = some (rs, .heavy) := by
  unfold builtinV at h ⊢
  split at h
  · split at h <;> first | (cases h; done) | skip
    split at h <;> first | (cases h; done) | skip
    · split at h <;> first | (cases h; done) | skip
      exact appendV_lo h
    · split at h <;> first | (cases h; done) | skip
      obtain ⟨h0, h⟩ := bif_some h
      rw [h0]
      exact appendV_lo h
  · split at h <;> first | (cases h; done) | skip
    split at h <;> first | (cases h; done) | skip
    simp only at h
    split at h <;> first | (cases h; done) | skip
    split at h <;> first | (cases h; done) | skip
    obtain ⟨_, h⟩ := bif_some h
    cases h
  · exact h
  · cases h
  · cases h
  · cases h
theorem heapOp_lo {lo' : Nat} {o : Oper} {rs : Rs} (h : heapOp P lo A H o = some (rs, .heavy)) : heapOp P lo' A H o = some (rs, .heavy) := by
  unfold heapOp at h ⊢
  cases hop : o.op <;> simp only [hop] at h ⊢ <;> try (first | exact h | (cases h; done))
  case store t a x =>
    (repeat' split at h) <;> first | (cases h; done) | skip
  case mapEntry t m k =>
    split at h <;> first | (cases h; done) | skip
    obtain ⟨_, _, _, _, e2, _⟩ := entryV_chg h
    cases e2
  case entryStore t m s x =>
    split at h <;> first | (cases h; done) | skip
    obtain ⟨_, _, _, e2, _⟩ := entryStoreV_chg h
    cases e2
  case mapUpdate t m k x =>
    split at h <;> first | (cases h; done) | skip
    obtain ⟨_, _, e, _⟩ := updateV_chg h
    obtain ⟨_, _, _, e2, _⟩ := updateV_chg h
    cases e2
  case insert t m k x =>
    split at h <;> first | (cases h; done) | skip
    obtain ⟨_, _, _, e2, _⟩ := updateV_chg h
    cases e2
  case call c =>
    split at h
    · split at h <;> first | (cases h; done) | skip
      exact builtinV_lo h
    · exact h
end
end Go.Ax

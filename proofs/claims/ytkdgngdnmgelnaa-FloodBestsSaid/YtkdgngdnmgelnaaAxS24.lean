import Derived.Test.YtkdgngdnmgelnaaAxS23
set_option linter.all false
namespace Go.Ax
open Go Go.RowKit
/-! ### What a piece of code leaves of the heap, without a machine -/
def Old (lo : Nat) (H H' : Hp) : Prop := H.next ≤ H'.next ∧ ∀ b, b < lo → H'.t.get b = H.t.get b
theorem Old.refl (lo : Nat) (H : Hp) : Old lo H H := ⟨Nat.le_refl _, fun _ _ => rfl⟩
theorem Old.trans {lo : Nat} {a b c : Hp} (h : Old lo a b) (k : Old lo b c) : Old lo a c := ⟨Nat.le_trans h.1 k.1, fun x hx => (k.2 x hx).trans (h.2 x hx)⟩
theorem Chg.old {lo : Nat} {H H' : Hp} {k : Kd} (h : Chg lo H H' k) (hlo : lo ≤ H.next) : Old lo H H' := ⟨h.next, h.low hlo⟩
theorem Old.set {lo : Nat} (H : Hp) {b : Nat} (hb : lo ≤ b) (o : Ob) : Old lo H { H with t := H.t.set b o } := ⟨Nat.le_refl _, fun x hx => by simp only [Tr.get_set]; rw [if_neg (by omega)]⟩
theorem Old.new {lo : Nat} (H : Hp) (hlo : lo ≤ H.next) (o : Ob) : Old lo H (H.new o) := ⟨Nat.le_succ _, fun x hx => by simp only [Hp.new, Tr.get_set]; rw [if_neg (by omega)]⟩
section
variable {P : Program} {lo : Nat} {C : CallF}
theorem aOp_old {A : Fr} {H : Hp} {o : Oper} {rs : Rs} {k : Kd} (h : aOp P lo A H o = some (rs, k)) (hlo : lo ≤ H.next) : (∀ v H', rs = .val v H' → Old lo H H') ∧ ∀ H', rs = .skip H' → Old lo H H' := by
  unfold aOp at h
  cases hp : pureOp P A o with
  | some u =>
    rw [hp] at h; cases h
    exact ⟨fun v H' e => (by cases e; exact .refl _ _), fun H' e => (by cases e)⟩
  | none =>
    rw [hp] at h
    rcases heapOp_chg h with ⟨v', H'', e, q⟩ | ⟨H'', e, q, _⟩ | ⟨d, e⟩ | e | ⟨t, vs, e⟩ | ⟨u, e⟩ <;> subst e
    · exact ⟨fun v H' e => (by cases e; exact q.old hlo), fun H' e => (by cases e)⟩
    · exact ⟨fun v H' e => (by cases e), fun H' e => (by cases e; exact q.old hlo)⟩
    · exact ⟨fun v H' e => (by cases e), fun H' e => (by cases e)⟩
    · exact ⟨fun v H' e => (by cases e), fun H' e => (by cases e)⟩
    · exact ⟨fun v H' e => (by cases e), fun H' e => (by cases e)⟩
    · exact ⟨fun v H' e => (by cases e), fun H' e => (by cases e)⟩
theorem runOps_old (hA : CallA C) {ops : Array Oper} : ∀ (l : List Nat) (A : Fr) (H : Hp) (p : Par) (e : Exit) (A' : Fr) (H' : Hp) (p' : Par), runOps P lo C ops l A H p = some (e, A', H', p') → lo ≤ H.next → Old lo H H'
  | [], A, H, p, e, A', H', p', h, _ => by simp only [runOps] at h; cases h; exact .refl _ _
  | i :: l, A, H, p, e, A', H', p', h, hlo => by
    simp only [runOps] at h
    split at h <;> first | (cases h; done) | skip
    split at h <;> first | (cases h; done) | skip
    · split at h <;> first | (cases h; done) | skip
      exact runOps_old hA l _ _ _ _ _ _ _ h hlo
    · split at h <;> first | (cases h; done) | skip
      · rename_i hop
        split at h <;> first | (cases h; done) | skip
        have q := (aOp_old hop hlo).1 _ _ rfl
        exact q.trans (runOps_old hA l _ _ _ _ _ _ _ h (Nat.le_trans hlo q.1))
      · rename_i hop
        split at h <;> first | (cases h; done) | skip
        have q := (aOp_old hop hlo).2 _ rfl
        exact q.trans (runOps_old hA l _ _ _ _ _ _ _ h (Nat.le_trans hlo q.1))
      · split at h <;> first | (cases h; done) | skip
        split at h <;> first | (cases h; done) | skip
        exact runOps_old hA l _ _ _ _ _ _ _ h hlo
      · split at h <;> first | (cases h; done) | skip
        split at h <;> first | (cases h; done) | skip
        · split at h <;> first | (cases h; done) | skip
          exact runOps_old hA l _ _ _ _ _ _ _ h hlo
        · split at h <;> first | (cases h; done) | skip
          exact runOps_old hA l _ _ _ _ _ _ _ h hlo
      · cases h; exact .refl _ _
      · split at h <;> first | (cases h; done) | skip
        · rename_i hc
          split at h <;> first | (cases h; done) | skip
          have q : Old lo _ _ := hA _ _ _ _ _ _ hc hlo
          exact q.trans (runOps_old hA l _ _ _ _ _ _ _ h (Nat.le_trans hlo q.1))
        · rename_i hc
          cases h
          exact hA _ _ _ _ _ _ hc hlo
theorem drawn_old (hA : CallA C) {ops : Array Oper} {A A' : Fr} {H H' : Hp} (h : drawn P lo C ops A H = some (A', H')) (hlo : lo ≤ H.next) : Old lo H H' := by
  obtain ⟨As, Hs, kd, e1, e2, e3, e4, hT, hS, hcl⟩ := draw_all h
  subst e1 e2 e3 e4
  exact ⟨tr_mono hA hT hlo (by omega) (by omega), tr_low hA hT hlo (Nat.le_refl _)⟩
theorem drawnP_old (hA : CallA C) {ops : Array Oper} {A : Fr} {H H' : Hp} {v : Value} (h : drawnP P lo C ops A H = some (v, H')) (hlo : lo ≤ H.next) : Old lo H H' := by
  obtain ⟨n, As, Hs, kd, o, e1, e2, hT, hS, hcl, hbe, hkn, ho, hp⟩ := draw_allP h
  subst e1 e2
  have q : Old lo (Hs 0) (Hs n) := ⟨tr_mono hA hT hlo (by omega) (by omega), tr_low hA hT hlo (Nat.le_refl _)⟩
  obtain ⟨_, hcase⟩ := hp
  rcases hcase with ⟨_, _, rfl⟩ | ⟨_, _, _, lo', _, hlo', hc⟩
  · exact q
  · have hl1 : lo ≤ lo' := by rcases hlo' with rfl | rfl <;> first | exact Nat.le_refl _ | exact Nat.le_trans hlo q.1
    have hl2 : lo' ≤ (Hs n).next := by rcases hlo' with rfl | rfl <;> first | exact Nat.le_trans hlo q.1 | exact Nat.le_refl _
    have q2 := hA _ _ _ _ _ _ hc hl2
    exact q.trans ⟨q2.1, fun b hb => q2.2 b (Nat.lt_of_lt_of_le hb hl1)⟩
theorem runCode_old (hA : CallA C) : ∀ (f : Nat) (c : Code) (A : Fr) (H : Hp) (p : Par) (e : Exit) (A' : Fr) (H' : Hp) (p' : Par), runCode P lo C f c A H p = some (e, A', H', p') → lo ≤ H.next → Old lo H H'
  | 0, _, _, _, _, _, _, _, _, h, _ => by simp [runCode] at h
  | f + 1, c, A, H, p, e, A', H', p', h, hlo => by
    cases c with
    | skip => simp only [runCode] at h; cases h; exact .refl _ _
    | label l => simp only [runCode] at h; cases h; exact .refl _ _
    | exit id => simp only [runCode] at h; cases h; exact .refl _ _
    | ret => simp only [runCode] at h; cases h; exact .refl _ _
    | seq x y =>
      simp only [runCode] at h
      cases hx : runCode P lo C f x A H p with
      | none => rw [hx] at h; simp at h
      | some q =>
        obtain ⟨e1, A1, H1, p1⟩ := q
        have q := runCode_old hA f x A H p _ _ _ _ hx hlo
        rw [hx] at h
        cases e1 <;> simp only at h <;> first | (cases h; exact q) | exact q.trans (runCode_old hA f y _ _ _ _ _ _ _ h (Nat.le_trans hlo q.1))
    | cond o x y =>
      simp only [runCode] at h
      split at h <;> first | (cases h; done) | skip
      · exact runCode_old hA f x _ _ _ _ _ _ _ h hlo
      · exact runCode_old hA f y _ _ _ _ _ _ _ h hlo
    | block id b =>
      simp only [runCode] at h
      cases hx : runCode P lo C f b A H p with
      | none => rw [hx] at h; simp at h
      | some q =>
        obtain ⟨e1, A1, H1, p1⟩ := q
        have q := runCode_old hA f b A H p _ _ _ _ hx hlo
        rw [hx] at h
        cases e1 <;> simp only at h <;> first | (cases h; exact q) | skip
        rename_i j
        cases hj : Nat.beq j id <;> rw [hj] at h <;> simp only [cond_true, cond_false] at h <;> cases h <;> exact q
    | loop b =>
      simp only [runCode] at h
      cases hx : runCode P lo C f b A H p with
      | none => rw [hx] at h; simp at h
      | some q =>
        obtain ⟨e1, A1, H1, p1⟩ := q
        have q := runCode_old hA f b A H p _ _ _ _ hx hlo
        rw [hx] at h
        cases e1 <;> simp only at h <;> first | (cases h; exact q) | exact q.trans (runCode_old hA f (.loop b) _ _ _ _ _ _ _ h (Nat.le_trans hlo q.1))
    | region id ops draw =>
      simp only [runCode] at h
      cases draw with
      | true =>
        simp only [cond_true] at h
        split at h
        · rename_i hd
          cases h
          exact drawn_old hA hd hlo
        · split at h <;> first | (cases h; done) | skip
          rename_i hd
          cases h
          exact drawnP_old hA hd hlo
      | false =>
        simp only [cond_false] at h
        exact runOps_old hA _ _ _ _ _ _ _ _ h hlo
    | rangeFunc fo params asg body =>
      simp only [runCode] at h
      split at h <;> first | (cases h; done) | skip
      have q0 : Old lo H ((H.new (.dfr (some []))).new (.lp .ready none A.fn A.n A.T params.toList asg body H.next)) := (Old.new H hlo _).trans (Old.new _ (by simp only [Hp.new]; omega) _)
      split at h <;> first | (cases h; done) | skip
      · rename_i hc
        cases h
        exact q0.trans (hA _ _ _ _ _ _ hc (Nat.le_trans hlo q0.1))
      · rename_i hc
        have q1 : Old lo _ _ := hA _ _ _ _ _ _ hc (Nat.le_trans hlo q0.1)
        split at h <;> first | (cases h; done) | skip
        have q2 : ∀ H'' o, Old lo H'' { H'' with t := H''.t.set (H.next + 1) o } := fun H'' o => Old.set H'' (by omega) o
        split at h <;> first | (cases h; done) | skip
        split at h <;> first | (cases h; done) | skip
        all_goals
          cases h
          exact (q0.trans q1).trans (q2 _ _)
    | scope b => simp [runCode] at h
    | goto l => simp [runCode] at h
    | refuse s => simp [runCode] at h
def DefA (lo : Nat) (D : Target → List Value → Hp → Par → Option (En × Hp × Par)) : Prop := ∀ t args H p e H' p', D t args H p = some (e, H', p') → lo ≤ H.next → Old lo H H'
theorem unwind_old {D : Target → List Value → Hp → Par → Option (En × Hp × Par)} (hD : DefA lo D) {fn : Func} : ∀ (f : Nat) (A : Fr) (H : Hp) (m : Par) (e : En) (H' : Hp), unwindV P lo D fn f A H m = some (e, H') → lo ≤ H.next → Old lo H H'
  | 0, _, _, _, _, _, h, _ => by simp [unwindV] at h
  | f + 1, A, H, m, e, H', h, hlo => by
    simp only [unwindV] at h
    split at h
    · split at h <;> first | (cases h; done) | skip
      · cases h; exact .refl _ _
      · split at h <;> first | (cases h; done) | skip
        · cases h; exact .refl _ _
        · cases h; exact .refl _ _
    · split at h
      · split at h <;> first | (cases h; done) | skip
        obtain ⟨hb, h⟩ := bif_some h
        have hb := Nat.le_of_ble_eq_true hb
        exact (Old.set H hb _).trans (unwind_old hD f _ _ _ _ _ h hlo)
      · split at h <;> first | (cases h; done) | skip
        rename_i hd
        have q := hD _ _ _ _ _ _ _ hd hlo
        exact q.trans (unwind_old hD f _ _ _ _ _ h (Nat.le_trans hlo q.1))
      · cases h
theorem runFunc_old (hA : CallA C) {D : Target → List Value → Hp → Par → Option (En × Hp × Par)} (hD : DefA lo D) {m : Nat} {f : FuncId} {args : List Value} {H : Hp} {p : Par} {e : En} {H' : Hp} {p' : Par} (h : runFunc P lo C D m f args H p = some (e, H', p')) (hlo : lo ≤ H.next) : Old lo H H' := by
  unfold runFunc at h
  split at h <;> first | (cases h; done) | skip
  split at h <;> first | (cases h; done) | skip
  obtain ⟨_, h⟩ := bif_some h
  split at h <;> first | (cases h; done) | skip
  all_goals
    rename_i hc
    have q := runCode_old hA _ _ _ _ _ _ _ _ _ hc hlo
    split at h <;> first | (cases h; done) | skip
    rename_i hu
    cases h
    exact q.trans (unwind_old hD _ _ _ _ _ _ hu (Nat.le_trans hlo q.1))
noncomputable def callF (P : Program) (kn : FuncId → Option Bool) (m n : Nat) : CallF := fun lo t args H => match kcall kn t args with
  | some b => some (.ret (.bool b), H)
  | none => match evCall P kn m n lo t args H none with | some (e, H', _) => some (e, H') | none => none
theorem callF_some {kn : FuncId → Option Bool} {m n lo : Nat} {t : Target} {args : List Value} {H : Hp} {e : En} {H' : Hp} (h : callF P kn m n lo t args H = some (e, H')) :
    (∃ b, kcall kn t args = some b ∧ e = .ret (.bool b) ∧ H' = H) ∨ ∃ p', evCall P kn m n lo t args H none = some (e, H', p') := by
  unfold callF at h
  cases hk : kcall kn t args with
  | some b =>
    rw [hk] at h
    simp only at h
    cases h
    exact .inl ⟨b, rfl, rfl, rfl⟩
  | none =>
    rw [hk] at h
    simp only at h
    split at h <;> first | (cases h; done) | skip
    rename_i he
    cases h
    exact .inr ⟨_, he⟩
theorem evCall_old (P : Program) (kn : FuncId → Option Bool) (m : Nat) : ∀ (n : Nat), (∀ lo, DefA lo fun t args H p => evCall P kn m n lo t args H p) ∧ CallA (callF P kn m n) := by
  intro n
  have step : ∀ n, (∀ lo, DefA lo fun t args H p => evCall P kn m n lo t args H p) → CallA (callF P kn m n) := by
    intro n hD lo t args H e H' h hlo
    rcases callF_some h with ⟨b, _, _, rfl⟩ | ⟨p', he⟩
    · exact Old.refl _ _
    · exact hD lo _ _ _ _ _ _ _ he hlo
  suffices hD : ∀ lo, DefA lo fun t args H p => evCall P kn m n lo t args H p from ⟨hD, step n hD⟩
  induction n with
  | zero => intro lo t args H p e H' p' h; simp [evCall] at h
  | succ n ih =>
    have hA : CallA (callF P kn m n) := step n ih
    intro lo t args H p e H' p' h hlo
    simp only [evCall] at h
    split at h
    · exact runFunc_old hA (ih lo) h hlo
    · split at h <;> first | (cases h; done) | skip
      split at h <;> first | (cases h; done) | skip
      exact runFunc_old hA (ih lo) h hlo
    · split at h <;> first | (cases h; done) | skip
      split at h <;> first | (cases h; done) | skip
      exact runFunc_old hA (ih lo) h hlo
    · split at h <;> first | (cases h; done) | skip
      split at h <;> first | (cases h; done) | skip
      obtain ⟨hb, h⟩ := bif_some h
      have hb := Nat.le_of_ble_eq_true hb
      obtain ⟨_, h⟩ := bif_some h
      split at h <;> first | (cases h; done) | skip
      rename_i h1
      have q1 := runCode_old hA _ _ _ _ _ _ _ _ _ h1 hlo
      split at h <;> first | (cases h; done) | skip
      split at h <;> first | (cases h; done) | skip
      rename_i h2
      have q2 := runCode_old hA _ _ _ _ _ _ _ _ _ h2 (Nat.le_trans hlo q1.1)
      have q3 := (q1.trans (Old.set _ hb _)).trans q2
      split at h <;> first | (cases h; done) | skip
      split at h <;> first | (cases h; done) | skip
      · cases h; exact q3.trans (Old.set _ hb _)
      · cases h; exact q3.trans (Old.set _ hb _)
      · cases h; exact q3.trans (Old.set _ hb _)
      · cases h; exact q3
    · cases h
end
end Go.Ax

import Derived.Test.YtjgpbiobacjobaaGreatAxS16
set_option linter.all false
namespace Go.Ax
open Go Go.RowKit

/-! ### What an operation looks at -/
theorem mem_tmpsIn {t : Nat} : ∀ {l : List Operand}, Operand.tmp t ∈ l → t ∈ tmpsIn l
  | [], h => by cases h
  | x :: l, h => by
    cases h with
    | head => simp [tmpsIn]
    | tail _ h =>
      have := mem_tmpsIn h
      cases x <;> simp [tmpsIn, this]

/-- The frame with some of its temporaries alone. -/
noncomputable def cutT (T : Tr Value) : List Nat → Tr Value
  | [] => .nil
  | t :: l => match T.get t with
    | some v => (cutT T l).set t v
    | none => cutT T l
theorem cutT_get (T : Tr Value) (t : Nat) : ∀ l : List Nat, (cutT T l).get t = if t ∈ l then T.get t else none
  | [] => by simp [cutT, Tr.get_nil]
  | x :: l => by
    unfold cutT
    cases h : T.get x with
    | none =>
      simp only
      rw [cutT_get T t l]
      by_cases hx : t = x
      · subst hx; simp [h]
      · simp [hx]
    | some v =>
      simp only
      rw [Tr.get_set, cutT_get T t l]
      by_cases hx : t = x
      · subst hx; simp [h]
      · simp [hx]
noncomputable def Fr.cut (A : Fr) (l : List Nat) : Fr := { A with T := cutT A.T l }

section
variable {P : Program} {lo : Nat} {A B : Fr} {H : Hp}
theorem ev_cut {l : List Nat} {x : Operand} (h : ∀ t, x = .tmp t → t ∈ l) : ev (A.cut l) x = ev A x := by
  cases x with
  | tmp t => simp only [ev, Fr.cut, cutT_get, if_pos (h t rfl)]
  | _ => rfl
theorem evs_congr : ∀ {xs : List Operand}, (∀ x ∈ xs, ev A x = ev B x) → evs A xs = evs B xs
  | [], _ => rfl
  | x :: xs, h => by simp only [evs]; rw [h x (by simp), evs_congr fun y hy => h y (by simp [hy])]
theorem parts_congr : ∀ {xs : List (Nat × Operand)}, (∀ x ∈ xs, ev A x.2 = ev B x.2) → partsOf A xs = partsOf B xs
  | [], _ => rfl
  | (i, x) :: xs, h => by simp only [partsOf]; rw [h (i, x) (by simp), parts_congr fun y hy => h y (by simp [hy])]
theorem evO_congr {x : Option Operand} (h : ∀ y ∈ x.toList, ev A y = ev B y) : evO A x = evO B x := by
  cases x with
  | none => rfl
  | some x => simp only [evO]; rw [h x (by simp)]
theorem bound_congr {d : Nat} {x : Option Operand} (h : ∀ y ∈ x.toList, ev A y = ev B y) : boundOf A d x = boundOf B d x := by
  cases x with
  | none => rfl
  | some x => simp only [boundOf]; rw [h x (by simp)]
theorem target_congr {c : Call} (h : ∀ x ∈ c.operands, ev A x = ev B x) : targetOf A c = targetOf B c := by
  have ha : evs A c.args.toList = evs B c.args.toList := evs_congr fun x hx => h x (by simp [Call.operands]; exact .inr (by simpa using hx))
  unfold targetOf
  rw [ha]
  cases hc : c.callee with
  | builtin b => rfl
  | invoke r n => simp only [h r (by simp [Call.operands, hc])]
  | value f => simp only [h f (by simp [Call.operands, hc])]

theorem pureOp_congr {o : Oper} (h : ∀ x ∈ o.op.operands, ev A x = ev B x) : pureOp P A o = pureOp P B o := by
  unfold pureOp
  cases hop : o.op <;> simp only [hop, Op.operands] at h ⊢
  case move x => exact h x (by simp)
  case assign x => exact h x (by simp)
  case pick c a b => rw [h c (by simp), h a (by simp), h b (by simp)]
  case build t ps => rw [parts_congr (A := A) (B := B) fun x hx => h x.2 (by simp; exact ⟨x.1, by simpa using hx⟩)]
  case nilCheck x => rw [h x (by simp)]
  case binOp op t x y _ => rw [h x (by simp), h y (by simp)]
  case unOp op t x => rw [h x (by simp)]
  case convert s d x => rw [h x (by simp)]
  case makeInterface t x => rw [h x (by simp)]
  case makeFunc fn a b =>
    rw [evs_congr (A := A) (B := B) (xs := a.toList) fun x hx => h x (by simp; exact .inl (by simpa using hx)), evs_congr (A := A) (B := B) (xs := b.toList) fun x hx => h x (by simp; exact .inr (by simpa using hx))]
  case fieldAddr s x f => rw [h x (by simp)]
  case field t x f => rw [h x (by simp)]
  case indexAddr t x i => rw [h x (by simp), h i (by simp)]
  case index t x i => rw [h x (by simp), h i (by simp)]
  case extract x i => rw [h x (by simp)]
  case typeAssert x _ _ _ => rw [h x (by simp)]
  case slice t x lw hi mx =>
    rw [h x (by simp), evO_congr (A := A) (B := B) (x := lw) fun y hy => h y (by cases lw <;> simp_all), evO_congr (A := A) (B := B) (x := hi) fun y hy => h y (by cases hi <;> simp_all)]
  case call c =>
    cases hc : c.callee with
    | builtin b => simp only [hc]; rw [evs_congr (A := A) (B := B) (xs := c.args.toList) fun x hx => h x (by simp [Call.operands, hc]; simpa using hx)]
    | _ => rfl

theorem heapOp_congr {o : Oper} (h : ∀ x ∈ o.op.operands, ev A x = ev B x) : heapOp P lo A H o = heapOp P lo B H o := by
  unfold heapOp
  cases hop : o.op <;> simp only [hop, Op.operands] at h ⊢
  case box e x => rw [h x (by simp)]
  case buildSlice t len ps => rw [parts_congr (A := A) (B := B) fun x hx => h x.2 (by simp; exact ⟨x.1, by simpa using hx⟩)]
  case load t a => rw [h a (by simp)]
  case store t a x => rw [h a (by simp), h x (by simp)]
  case makeSlice t l c => rw [h l (by simp), h c (by simp)]
  case slice t x lw hi mx =>
    have hb1 : ∀ d, boundOf A d lw = boundOf B d lw := fun d => bound_congr fun y hy => h y (by cases lw <;> simp_all)
    have hb2 : ∀ d, boundOf A d hi = boundOf B d hi := fun d => bound_congr fun y hy => h y (by cases hi <;> simp_all)
    rw [h x (by simp)]
    simp only [hb1, hb2]
  case call c =>
    cases hc : c.callee with
    | builtin b => simp only [hc]; rw [evs_congr (A := A) (B := B) (xs := c.args.toList) fun x hx => h x (by simp [Call.operands, hc]; simpa using hx)]
    | _ => simp only [hc]; rw [target_congr (A := A) (B := B) h]
  case defer c =>
    cases hc : c.callee with
    | builtin b => rfl
    | _ => simp only [hc]; rw [target_congr (A := A) (B := B) h]
  case panic x => rw [h x (by simp)]

theorem ops_cut {ops : Array Oper} {o : Oper} {l : List Nat} (hl : ∀ t ∈ readsOf ops o, t ∈ l) : ∀ x ∈ o.op.operands, ev (A.cut l) x = ev A x := fun x hx => ev_cut fun t ht => by
  subst ht
  refine hl t ?_
  have := mem_tmpsIn (l := o.op.operands.toList) (t := t) (by simpa using hx)
  unfold readsOf
  (repeat' split) <;> simp [this]
theorem aOp_cut {ops : Array Oper} {o : Oper} : aOp P lo (A.cut (readsOf ops o)) H o = aOp P lo A H o := by
  unfold aOp
  rw [pureOp_congr (ops_cut fun _ h => h), heapOp_congr (ops_cut fun _ h => h)]
theorem wantedA_cut {ops : Array Oper} {o : Oper} : wantedA ops (A.cut (readsOf ops o)) o = wantedA ops A o := by
  unfold wantedA
  cases hg : o.guard with
  | none => rfl
  | some q =>
    obtain ⟨j, want⟩ := q
    simp only
    cases ho : ops[j]? with
    | none => rfl
    | some g =>
      simp only
      cases hd : g.dst with
      | none => rfl
      | some d =>
        simp only
        have : (A.cut (readsOf ops o)).T.get d = A.T.get d := by
          simp only [Fr.cut, cutT_get]
          rw [if_pos]
          unfold readsOf
          simp [hg, ho, hd]
        rw [this]
end
end Go.Ax

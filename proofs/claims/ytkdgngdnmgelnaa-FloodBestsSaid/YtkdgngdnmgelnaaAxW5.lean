import Derived.Test.YtkdgngdnmgelnaaAxW4
set_option linter.all false
/-! The evaluator for all inputs, 5: words for heaps, and steps. -/
namespace Go.Ax
open Go Go.RowKit
def Cl (H : Hp) (b : Nat) (cs : List Value) : Prop := b < H.next ∧ ∃ e l, H.t.get b = some (.cells cs e l)
def Keep (H H' : Hp) (l : List Nat) : Prop := H.next ≤ H'.next ∧ ∀ b, b < H.next → b ∉ l → H'.t.get b = H.t.get b
theorem Keep.refl (H : Hp) (l : List Nat) : Keep H H l := ⟨Nat.le_refl _, fun _ _ _ => rfl⟩
theorem Keep.trans {H H1 H2 : Hp} {l : List Nat} (h : Keep H H1 l) (k : Keep H1 H2 l) : Keep H H2 l :=
  ⟨Nat.le_trans h.1 k.1, fun b hb hl => (k.2 b (Nat.lt_of_lt_of_le hb h.1) hl).trans (h.2 b hb hl)⟩
theorem Keep.mono {H H1 : Hp} {l l' : List Nat} (h : Keep H H1 l) (k : ∀ b, b ∈ l → b ∈ l') : Keep H H1 l' := ⟨h.1, fun b hb hl => h.2 b hb fun q => hl (k b q)⟩
theorem Keep.cl {H H1 : Hp} {l : List Nat} (h : Keep H H1 l) {b : Nat} {cs : List Value} (hc : Cl H b cs) (hl : b ∉ l) : Cl H1 b cs := by
  obtain ⟨h1, e, lz, h2⟩ := hc
  exact ⟨Nat.lt_of_lt_of_le h1 h.1, e, lz, by rw [h.2 b h1 hl]; exact h2⟩
theorem Keep.new {H H1 H2 : Hp} {l l' : List Nat} (h : Keep H H1 l) (k : Keep H1 H2 l') (hl : ∀ b, b ∈ l' → b ∈ l ∨ H.next ≤ b) : Keep H H2 l :=
  ⟨Nat.le_trans h.1 k.1, fun b hb hn => (k.2 b (Nat.lt_of_lt_of_le hb h.1) fun q => (hl b q).elim hn (fun r => absurd hb (by omega))).trans (h.2 b hb hn)⟩
theorem Cl.of {H : Hp} {b : Nat} {cs : List Value} (h : Cl H b cs) : cellsOf H b = some cs := by
  obtain ⟨_, e, l, h⟩ := h; unfold cellsOf; rw [h]
theorem Cl.lt {H : Hp} {b : Nat} {cs : List Value} (h : Cl H b cs) : b < H.next := h.1
theorem up_facts {H H1 : Hp} {b : Nat} {cs cs' : List Value} {e : TypeId} {l : Bool} (hc : Cl H b cs) (h : H.up b (.cells cs' e l) = H1) : Keep H H1 [b] ∧ H1.next = H.next ∧ Cl H1 b cs' := by
  subst h
  refine ⟨⟨Nat.le_refl _, fun c _ hn => ?_⟩, rfl, hc.1, e, l, ?_⟩
  · show (H.t.set b _).get c = _
    rw [Tr.get_set, if_neg (by simpa using hn)]
  · show (H.t.set b _).get b = _
    rw [Tr.get_set, if_pos rfl]
theorem new_facts {H H1 : Hp} {cs : List Value} {e : TypeId} {l : Bool} (h : H.new (.cells cs e l) = H1) : Keep H H1 [] ∧ H1.next = H.next + 1 ∧ Cl H1 H.next cs := by
  subst h
  refine ⟨⟨Nat.le_succ _, fun c hc _ => ?_⟩, rfl, Nat.lt_succ_self _, e, l, ?_⟩
  · show (H.t.set H.next _).get c = _
    rw [Tr.get_set, if_neg (by omega)]
  · show (H.t.set H.next _).get H.next = _
    rw [Tr.get_set, if_pos rfl]
def Rd (H : Hp) (b : Nat) (cs : List Value) : Prop := b < H.next ∧ cellsOf H b = some cs
theorem Cl.rd {H : Hp} {b : Nat} {cs : List Value} (h : Cl H b cs) : Rd H b cs := ⟨h.1, h.of⟩
theorem Rd.lt {H : Hp} {b : Nat} {cs : List Value} (h : Rd H b cs) : b < H.next := h.1
theorem Rd.of {H : Hp} {b : Nat} {cs : List Value} (h : Rd H b cs) : cellsOf H b = some cs := h.2
theorem Keep.rd {H H1 : Hp} {l : List Nat} (h : Keep H H1 l) {b : Nat} {cs : List Value} (hc : Rd H b cs) (hl : b ∉ l) : Rd H1 b cs := by
  obtain ⟨h1, h2⟩ := hc
  exact ⟨Nat.lt_of_lt_of_le h1 h.1, by unfold cellsOf at h2 ⊢; rw [h.2 b h1 hl]; exact h2⟩
def Sl (H : Hp) (a : Option Addr) (n cap : Nat) (cs : List Value) : Prop := ((a = none ∨ a = some ⟨0, 0, some 0⟩) ∧ n = 0 ∧ cap = 0 ∧ cs = []) ∨ ∃ b, a = some ⟨b, 0, none⟩ ∧ Rd H b cs ∧ n ≤ cap
theorem Keep.sl {H H1 : Hp} {l : List Nat} (h : Keep H H1 l) {a : Option Addr} {n cap : Nat} {cs : List Value} (hc : Sl H a n cap cs) (hl : ∀ b, a = some ⟨b, 0, none⟩ → b ∉ l) : Sl H1 a n cap cs :=
  hc.imp id fun ⟨b, e, r, q⟩ => ⟨b, e, h.rd r (hl b e), q⟩
theorem Keep.sl0 {H H1 : Hp} (h : Keep H H1 []) {a : Option Addr} {n cap : Nat} {cs : List Value} (hc : Sl H a n cap cs) : Sl H1 a n cap cs := h.sl hc fun _ _ => by simp
theorem row_flat {α : Type} {f : α → List Value} {size : Nat} : ∀ {l : List α} (_ : ∀ x ∈ l, (f x).length = size) {i : Nat} {x : α}, l[i]? = some x → row size (l.flatMap f) (0 + i * size) = some (f x)
  | [], _, i, x, h => by simp at h
  | y :: l, hf, 0, x, h => by
    simp at h; subst h
    have := hf y (by simp)
    simp only [List.flatMap_cons, row, Nat.zero_mul, Nat.add_zero, List.drop_zero, beq_eq]
    rw [List.take_append_of_le_length (by omega), List.take_of_length_le (by omega), this]
    simp
  | y :: l, hf, i + 1, x, h => by
    have hy := hf y (by simp)
    have ih := row_flat (l := l) (fun z hz => hf z (by simp [hz])) (i := i) (x := x) (by simpa using h)
    unfold row at ih ⊢
    rw [Nat.zero_add] at ih ⊢
    rw [List.flatMap_cons, List.drop_append, hy, List.drop_eq_nil_of_le (by rw [hy]; exact Nat.le_trans (Nat.le_mul_of_pos_left size (Nat.succ_pos i)) (Nat.le_refl _)), List.nil_append]
    have e : (i + 1) * size - size = i * size := by rw [Nat.succ_mul]; omega
    rw [e]
    exact ih
theorem flat_len {α : Type} {f : α → List Value} {size : Nat} : ∀ {l : List α} (_ : ∀ x ∈ l, (f x).length = size), (l.flatMap f).length = l.length * size
  | [], _ => by simp
  | y :: l, hf => by
    rw [List.flatMap_cons, List.length_append, hf y (by simp), flat_len fun z hz => hf z (by simp [hz]), List.length_cons, Nat.succ_mul]; omega
theorem flat_set {α : Type} {f : α → List Value} {size : Nat} : ∀ {l : List α} (_ : ∀ x ∈ l, (f x).length = size) {i k : Nat} {x y : α} {v : Value}, l[i]? = some x → k < size → (f x).set k v = f y → (l.flatMap f).set (0 + i * size + k) v = (l.set i y).flatMap f
  | [], _, i, k, x, y, v, h, _, _ => by simp at h
  | z :: l, hf, 0, k, x, y, v, h, hk, e => by
    simp at h; subst h
    have := hf z (by simp)
    simp only [List.flatMap_cons, Nat.zero_mul, Nat.add_zero, Nat.zero_add, List.set_cons_zero]
    rw [List.set_append_left _ _ (by omega), e]
  | z :: l, hf, i + 1, k, x, y, v, h, hk, e => by
    have hz := hf z (by simp)
    have ih := flat_set (l := l) (fun u hu => hf u (by simp [hu])) (i := i) (k := k) (x := x) (y := y) (v := v) (by simpa using h) hk e
    rw [Nat.zero_add] at ih ⊢
    have e2 : (i + 1) * size + k - size = i * size + k := by rw [Nat.succ_mul]; omega
    rw [List.flatMap_cons, List.set_append_right _ _ (by rw [hz, Nat.succ_mul]; omega), hz, e2, ih, List.set_cons_succ, List.flatMap_cons]
def ints (ws : List Int) : List Value := ws.map (Value.int .i64)
theorem ints_len (ws : List Int) : (ints ws).length = ws.length := by simp [ints]
theorem ints_get {ws : List Int} {i : Nat} (h : i < ws.length) : (ints ws)[i]? = some (.int .i64 (ws.getD i 0)) := by
  simp [ints, List.getD, h]
theorem ints_set (ws : List Int) (i : Nat) (x : Int) : (ints ws).set i (.int .i64 x) = ints (ws.set i x) := by simp [ints, List.map_set]
section
variable {P : Program} {kn : FuncId → Option Bool} {lo : Nat}
theorem callB {f : FuncId} {a : Value} {args : List Value} {b : Bool} {H : Hp} {K : Value → Hp → Prop} (h : ∃ H', FnX P kn lo f (a :: args) H (.bool b) H' ∧ Keep H H' []) (hk : ∀ t H', b = t → Keep H H' [] → K (.bool t) H') :
    ∃ v H', CallsX P kn lo (.fn (.func f) #[]) (a :: args) H v H' ∧ K v H' := by
  obtain ⟨H', h, k⟩ := h
  exact ⟨_, H', callX_args h, hk b H' rfl k⟩
theorem mem_new {n : Nat} {S : Rg} {H : Hp} {o : Oper} {K : Value → Hp → Kd → Prop} {v : Value} {ob : Ob} (hd : defd S o.op.operands.toList = true) (hp : pureOp P (frS n S) o = none) (hh : heapOp P lo (frS n S) H o = some (.val v (H.new ob), .heavy))
    (hk : ∀ H1, H.new ob = H1 → K v H1 .heavy) : wRI P kn lo n S H K (.mem o) :=
  ⟨hd, .inr ⟨hp, v, _, _, hh, (fun b e => by cases e), hk _ rfl⟩⟩
theorem zeros_int (n : Nat) : zeros [.int .i64 0] n = ints (List.replicate n 0) := by
  induction n with
  | zero => rfl
  | succ n ih => simp only [zeros, ih, ints, List.replicate_succ, List.map_cons]; rfl
theorem heap_makeInts {n : Nat} {S : Rg} {H : Hp} {d : Option Tmp} {t e ty : TypeId} {x y : Operand} {p : String} {i : TypeInfo} {m : Nat} (he : sliceElem P t = some (e, 1)) (hz : zeroOf P e = some (.int .i64 0)) (hi : P.info? e = some i) (hb : i.bytes ≤ 8)
    (hx : evS S x = some (.int .i64 (m : Int))) (hy : evS S y = some (.int .i64 (m : Int))) (hm : m ≤ 1048576) :
    heapOp P lo (frS n S) H ⟨d, .makeSlice t x y, ty, p, #[], none⟩ = some (.val (.slice (some ⟨H.next, 0, none⟩) m m) (H.new (.cells (ints (List.replicate m 0)) e false)), .heavy) := by
  have h1 : Nat.ble (i.bytes * m) 1099511627776 = true := Nat.ble_eq_true_of_le (Nat.le_trans (Nat.mul_le_mul hb hm) (by decide))
  unfold heapOp
  simp only [ev_frS, hx, hy, he, hz, hi, show ((m : Nat) : Int) = Int.ofNat m from rfl, Nat.ble_eq_true_of_le (Nat.le_refl m), h1, Nat.ble_eq_true_of_le hm, Bool.and_true, cond_true]
  rw [← zeros_int]
  rfl
theorem src_of {H : Hp} {size n cap : Nat} {a : Option Addr} {cs : List Value} (hs : Sl H a n cap cs) (hl : cs.length = n * size) : srcCells H size (.slice a n cap) = some (n, cs) := by
  rcases hs with ⟨rfl | rfl, rfl, rfl, rfl⟩ | ⟨b, rfl, hr, _⟩
  · rfl
  · rfl
  · have h : row (n * size) cs 0 = some cs := by
      unfold row
      simp only [List.drop_zero, beq_eq, ← hl, List.take_length, decide_true, cond_true]
    simp only [srcCells, hr.of, h]
theorem heap_append_empty {n : Nat} {S : Rg} {H : Hp} {d : Option Tmp} {t0 t1 e e0 ty ep : TypeId} {x y : Operand} {p : String} {size m cap b0 : Nat} {a : Option Addr} {cs : List Value} (he : sliceElem P t0 = some (e, size)) (ht : P.underlying t1 = some (.slice ep)) (h0 : H.t.get b0 = some (.cells [] e0 false))
    (hx : evS S x = some (.slice (some ⟨b0, 0, none⟩) 0 0)) (hy : evS S y = some (.slice a m cap)) (hs : Sl H a m cap cs) (hl : cs.length = m * size) (hm : m ≤ 1048576) (hm0 : 0 < m) :
    heapOp P lo (frS n S) H ⟨d, .call ⟨.builtin .append, #[x, y], #[t0, t1]⟩, ty, p, #[], none⟩ = some (.val (.slice (some ⟨H.next, 0, none⟩) m m) (H.new (.cells cs e true)), .heavy) := by
  have h1 : Nat.beq m 0 = false := by rw [beq_eq]; simp; omega
  have h2 : Nat.ble (0 + m) 0 = false := by
    cases h : Nat.ble (0 + m) 0 with
    | false => rfl
    | true => have := Nat.le_of_ble_eq_true h; omega
  have h3 : row (0 * size) ([] : List Value) 0 = some [] := by simp [row, beq_eq]
  unfold heapOp
  simp only [evs, ev_frS, hx, hy, builtinV, List.getElem?_toArray, List.getElem?_cons_zero, List.getElem?_cons_succ, he, ht, src_of hs hl, appendV, h0, Nat.zero_add, Nat.ble_eq_true_of_le hm, h1, cond_true, cond_false]
  rw [Nat.zero_add] at h2
  simp only [h2, cond_false, h3, List.nil_append]
theorem heap_append_none {n : Nat} {S : Rg} {H : Hp} {d : Option Tmp} {t0 t1 e ty ep : TypeId} {x y : Operand} {p : String} {size cap b0 : Nat} {a : Option Addr} {cs : List Value} (he : sliceElem P t0 = some (e, size)) (ht : P.underlying t1 = some (.slice ep))
    (hx : evS S x = some (.slice (some ⟨b0, 0, none⟩) 0 0)) (hy : evS S y = some (.slice a 0 cap)) (hs : Sl H a 0 cap cs) (hl : cs.length = 0) :
    heapOp P lo (frS n S) H ⟨d, .call ⟨.builtin .append, #[x, y], #[t0, t1]⟩, ty, p, #[], none⟩ = some (.val (.slice (some ⟨b0, 0, none⟩) 0 0) H, .pure) := by
  unfold heapOp
  simp only [evs, ev_frS, hx, hy, builtinV, List.getElem?_toArray, List.getElem?_cons_zero, List.getElem?_cons_succ, he, ht, src_of (size := size) hs (by simpa using hl), appendV]
  rfl
theorem heap_build0 {n : Nat} {S : Rg} {H : Hp} {d : Option Tmp} {t e ty : TypeId} {p : String} {size : Nat} {z : Value} (he : sliceElem P t = some (e, size)) (hz : zeroOf P e = some z) :
    heapOp P lo (frS n S) H ⟨d, .buildSlice t 0 #[], ty, p, #[], none⟩ = some (.val (.slice (some ⟨H.next, 0, none⟩) 0 0) (H.new (.cells [] e false)), .heavy) := by
  unfold heapOp
  simp only [partsOf, he, hz, Nat.zero_mul]
  rfl
theorem fnX_low {f : FuncId} {fn : Func} {R : RC} {n : Nat} {rs : List ResultVar} {args : List Value} {H : Hp} {Q : Value → Hp → Prop} (hf : P.funcs[f]? = some fn) (hb : fn.body = some (at_ fn [])) (hn : fn.ntmps = n) (hz : fn.results.toList = rs) (hL : low P fn.ntmps (at_ fn []) = some R) (hl : args.length ≤ n)
    (h : wC P kn lo n false R (argS args 0) H fun e S' H' => (match e with | .normal => True | .ret => True | _ => False) ∧ ∃ vs, resS P S' H' rs = some vs ∧ Q (retV vs) H') :
    ∃ v H', FnX P kn lo f args H v H' ∧ Q v H' := by
  subst hn hz
  exact fnX_of_tri hf hb hl (wC_sound false _ hL h)
def Subs : Rg → Rg → Prop
  | [], _ => True
  | (j, v) :: r, S => lk S j = some v ∧ Subs r S
theorem Subs.get : ∀ {S0 S : Rg}, Subs S0 S → ∀ j v, lk S0 j = some v → lk S j = some v
  | [], _, _, j, v, h => by cases h
  | (i, u) :: r, S, hs, j, v, h => by
    simp only [lk, beq_eq] at h
    by_cases e : i = j
    · subst e
      simp only [decide_true, cond_true, Option.some.injEq] at h
      subst h
      exact hs.1
    · rw [decide_eq_false e] at h
      exact hs.2.get j v h
theorem loop_low {α : Type} {c b : Code} {fn : Func} {n : Nat} {R : RC} {rd : Bool} {S : Rg} {H : Hp} {K : Exit → Rg → Hp → Prop} (hc : c = .loop b) (hn : fn.ntmps = n) (hL : low P fn.ntmps b = some R) (SS : α → Rg) (I : Nat → α → Hp → Prop)
    (k : Nat) (a : α) (hI : I k a H) (hS : Subs (SS a) S)
    (hb : ∀ k a H, I k a H → wC P kn lo n rd R (SS a) H fun e S' H' => match e with | .normal => ∃ k' a', k' < k ∧ I k' a' H' ∧ Subs (SS a') S' | e => K e S' H') :
    Tri P kn lo n rd c S H K := by
  subst hc hn
  refine Tri.loop (fun k S H => ∃ a, I k a H ∧ Subs (SS a) S) (fun k S H q => ?_) k S H ⟨a, hI, hS⟩
  obtain ⟨a, q, hs⟩ := q
  refine Tri.forget ((wC_sound rd _ hL (hb k a H q)).mono fun e S' H' r => ?_) hs.get
  cases e with
  | normal => obtain ⟨k', a', x, y, z⟩ := r; exact ⟨k', x, a', y, z⟩
  | _ => exact r
end
end Go.Ax

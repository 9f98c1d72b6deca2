import Derived.Test.YtbgdbnnbfankeaaAxW9
set_option linter.all false
/-! Steps of drawn regions, one theorem each, and pieces (written by program). -/
namespace Go.Ax
open Go Go.RowKit
section
variable {P : Program} {kn : FuncId → Option Bool} {lo n : Nat} {masks : List Nat} {r : List RO} {ks : List Kd} {S : Rg} {H : Hp} {K : Rg → Hp → Prop} {d : Option Nat} {x y : Operand} {rd : Bool}
theorem wD_seq {ops : List RO} {c : RC} {K : Exit → Rg → Hp → Prop} (h : wDraw P kn lo n masks ops [] S H fun S' H' => wC P kn lo n rd c S' H' K) : wC P kn lo n rd (.seq (.dreg ops masks) c) S H K := .inl h
theorem wD_mov {v : Value} (hx : evS S x = some v) (h : wDraw P kn lo n masks r (.pure :: ks) (putS S d v) H K) : wDraw P kn lo n masks (⟨d, none, .mov x⟩ :: r) ks S H K := by
  show match evS S x with | some v => wDraw P kn lo n masks r (.pure :: ks) (putS S d v) H K | none => False
  rw [hx]; exact h
theorem wD_nilc {a : Addr} (hx : evS S x = some (.pointer (some a))) (h : wDraw P kn lo n masks r (.pure :: ks) (putS S d (.pointer (some a))) H K) : wDraw P kn lo n masks (⟨d, none, .nilc x⟩ :: r) ks S H K := by
  simp only [wDraw, wRO, wRI, hx]; exact h
theorem wD_addo {b o off : Nat} (hx : evS S x = some (.pointer (some ⟨b, o, none⟩))) (h : wDraw P kn lo n masks r (.pure :: ks) (putS S d (.pointer (some ⟨b, o + off, none⟩))) H K) : wDraw P kn lo n masks (⟨d, none, .addo x off⟩ :: r) ks S H K := by
  simp only [wDraw, wRO, wRI, hx]; exact h
theorem wD_ld {b o m : Nat} {cs : List Value} {v : Value} (hx : evS S x = some (.pointer (some ⟨b, o, none⟩))) (hc : Rd H b cs) (hv : cs[o]? = some v) (h : wDraw P kn lo n masks r (.read b :: ks) (putS S d v) H K) : wDraw P kn lo n masks (⟨d, none, .ld x m⟩ :: r) ks S H K := by
  simp only [wDraw, wRO, wRI, hx]; exact ⟨cs, v, hc.of, hv, hc.lt, h⟩
theorem wD_pur {o : Oper} {v : Value} (hd : defd S o.op.operands.toList = true) (hv : pureOp P (frS n S) o = some v) (h : wDraw P kn lo n masks r (.pure :: ks) (putS S d v) H K) : wDraw P kn lo n masks (⟨d, none, .pur o⟩ :: r) ks S H K := ⟨hd, v, hv, h⟩
theorem wD_sta {b o m : Nat} {cs : List Value} {v : Value} (hx : evS S x = some (.pointer (some ⟨b, o, none⟩))) (hy : evS S y = some v) (hc : Cl H b cs) (hl : lo ≤ b) (hm : v.cells.toList.length = m) (h1 : v.cells.toList.all one = true) (ho : o + m ≤ cs.length)
    (h : ∀ H1, Keep H H1 [b] → H1.next = H.next → Cl H1 b (putRow cs o v.cells.toList) → wDraw P kn lo n masks r (.store b :: ks) (putS S d undef) H1 K) : wDraw P kn lo n masks (⟨d, none, .sta x y m⟩ :: r) ks S H K := by
  simp only [wDraw, wRO, wRI, hx, hy]
  obtain ⟨_, e, l, g⟩ := id hc
  exact ⟨cs, e, l, g, hl, hm, h1, ho, fun H1 hH1 => by obtain ⟨a, b, c⟩ := up_facts hc hH1; exact h H1 a b c⟩
theorem wD_end (hp : (bif ks.all calm then True else pairsP ks masks)) (h : K S H) : wDraw P kn lo n masks [] ks S H K := ⟨hp, h⟩
theorem wD_lda {b o m : Nat} {cs q : List Value} (hx : evS S x = some (.pointer (some ⟨b, o, none⟩))) (hc : Rd H b cs) (hv : row m cs o = some q) (h : wDraw P kn lo n masks r (.read b :: ks) (putS S d (.agg q.toArray)) H K) : wDraw P kn lo n masks (⟨d, none, .lda x m⟩ :: r) ks S H K := by
  simp only [wDraw, wRO, wRI, hx]; exact ⟨cs, q, hc.of, hv, hc.lt, h⟩
theorem wD_add {a b : Int} (hx : evS S x = some (.int .i64 a)) (hy : evS S y = some (.int .i64 b)) (h2 : InR (a + b)) (h : wDraw P kn lo n masks r (.pure :: ks) (putS S d (.int .i64 (a + b))) H K) : wDraw P kn lo n masks (⟨d, none, .ari .add x y⟩ :: r) ks S H K := by
  simp only [wDraw, wRO, wRI, hx, hy]; exact ⟨h2, h⟩
theorem wD_idx {b o len cap size k : Nat} {kd : IntKind} {j : Int} (hx : evS S x = some (.slice (some ⟨b, o, none⟩) len cap)) (hy : evS S y = some (.int kd j)) (hj : j = (k : Int)) (hk : k < len) (h : wDraw P kn lo n masks r (.pure :: ks) (putS S d (.pointer (some ⟨b, o + k * size, none⟩))) H K) : wDraw P kn lo n masks (⟨d, none, .idx x y size⟩ :: r) ks S H K := by
  simp only [wDraw, wRO, wRI, hx, hy]; exact ⟨k, hj, hk, h⟩
theorem wD_idxa {b o len size k : Nat} {kd : IntKind} {j : Int} (hx : evS S x = some (.pointer (some ⟨b, o, none⟩))) (hy : evS S y = some (.int kd j)) (hj : j = (k : Int)) (hk : k < len) (h : wDraw P kn lo n masks r (.pure :: ks) (putS S d (.pointer (some ⟨b, o + k * size, none⟩))) H K) : wDraw P kn lo n masks (⟨d, none, .idxa x y len size⟩ :: r) ks S H K := by
  simp only [wDraw, wRO, wRI, hx, hy]; exact ⟨k, hj, hk, h⟩
theorem wD_callh {c : Call} {t : Target} {vs : List Value} {v : Value} {H' : Hp} (ht : targetS S c = some (t, vs)) (hm : marked t = false) (hc : CallsX P kn H.next t vs H v H') (h : wDraw P kn lo n masks r (.heavy :: ks) (putS S d v) H' K) : wDraw P kn lo n masks (⟨d, none, .call c false⟩ :: r) ks S H K := by
  simp only [wDraw, wRO, wRI, ht, hm, Bool.and_false, cond_false]; exact ⟨v, H', hc, h⟩
theorem wD_callf {c : Call} {t : Target} {vs : List Value} {v : Value} {H' : Hp} (ht : targetS S c = some (t, vs)) (hc : CallsX P kn lo t vs H v H') (h : wDraw P kn lo n masks r (.full :: ks) (putS S d v) H' K) : wDraw P kn lo n masks (⟨d, none, .call c true⟩ :: r) ks S H K := by
  simp only [wDraw, wRO, wRI, ht, Bool.not_true, Bool.false_and, cond_false, cond_true]; exact ⟨v, H', hc, h⟩
theorem wD_mul {a b : Int} (hx : evS S x = some (.int .i64 a)) (hy : evS S y = some (.int .i64 b)) (h2 : InR (a * b)) (h : wDraw P kn lo n masks r (.pure :: ks) (putS S d (.int .i64 (a * b))) H K) : wDraw P kn lo n masks (⟨d, none, .ari .mul x y⟩ :: r) ks S H K := by
  simp only [wDraw, wRO, wRI, hx, hy]; exact ⟨h2, h⟩
theorem wD_sub {a b : Int} (hx : evS S x = some (.int .i64 a)) (hy : evS S y = some (.int .i64 b)) (h2 : InR (a - b)) (h : wDraw P kn lo n masks r (.pure :: ks) (putS S d (.int .i64 (a - b))) H K) : wDraw P kn lo n masks (⟨d, none, .ari .sub x y⟩ :: r) ks S H K := by
  simp only [wDraw, wRO, wRI, hx, hy]; exact ⟨h2, h⟩
theorem wD_quo {a b : Int} (hx : evS S x = some (.int .i64 a)) (hy : evS S y = some (.int .i64 b)) (h0 : 0 ≤ a) (h1 : 0 < b) (h2 : InR a) (h : wDraw P kn lo n masks r (.pure :: ks) (putS S d (.int .i64 (a / b))) H K) : wDraw P kn lo n masks (⟨d, none, .ari .quo x y⟩ :: r) ks S H K := by
  simp only [wDraw, wRO, wRI, hx, hy]; exact ⟨h0, h1, h2, h⟩
theorem wD_g {g : Nat} {t : Bool} {ri : RI} (hg : lk S g = some (.bool t)) (h : wDraw P kn lo n masks (⟨d, none, ri⟩ :: r) ks S H K) : wDraw P kn lo n masks (⟨d, some (g, t), ri⟩ :: r) ks S H K := by
  cases t <;> (simp only [wDraw, wRO, hg] at h ⊢; exact h)
theorem wD_mm {small : Bool} {a b : Int} (hx : evS S x = some (.int .i64 a)) (hy : evS S y = some (.int .i64 b)) (h : wDraw P kn lo n masks r (.pure :: ks) (putS S d (.int .i64 (bif small then min a b else max a b))) H K) : wDraw P kn lo n masks (⟨d, none, .mm small x y⟩ :: r) ks S H K := by
  simp only [wDraw, wRO, wRI, hx, hy]; exact h
theorem wD_st {b o : Nat} {cs : List Value} {v : Value} (hx : evS S x = some (.pointer (some ⟨b, o, none⟩))) (hy : evS S y = some v) (hc : Cl H b cs) (hl : lo ≤ b) (hv : v.cells.toList = [v]) (h1 : one v = true) (ho : o < cs.length)
    (h : ∀ H1, Keep H H1 [b] → H1.next = H.next → Cl H1 b (cs.set o v) → wDraw P kn lo n masks r (.store b :: ks) (putS S d undef) H1 K) : wDraw P kn lo n masks (⟨d, none, .st x y⟩ :: r) ks S H K := by
  simp only [wDraw, wRO, wRI, hx, hy]
  obtain ⟨_, e, l, g⟩ := id hc
  exact ⟨cs, e, l, g, hl, hv, h1, ho, fun H1 hH1 => by obtain ⟨a, b, c⟩ := up_facts hc hH1; exact h H1 a b c⟩
theorem wD_dreg {ops : List RO} {K : Exit → Rg → Hp → Prop} (h : wDraw P kn lo n masks ops [] S H fun S' H' => K .normal S' H') : wC P kn lo n rd (.dreg ops masks) S H K := .inl h
theorem wD_gs {g : Nat} {t : Bool} {ri : RI} (hg : lk S g = some (.bool (!t))) (h : wDraw P kn lo n masks r (.pure :: ks) (putS S d undef) H K) : wDraw P kn lo n masks (⟨d, some (g, t), ri⟩ :: r) ks S H K := by
  cases t <;> (simp only [wDraw, wRO, hg, Bool.not_true, Bool.not_false, cond_true, cond_false] at h ⊢; exact h)
theorem wD_alc {e : TypeId} {z : List Value} (h : ∀ H1, Keep H H1 [] → H1.next = H.next + 1 → Cl H1 H.next z → wDraw P kn lo n masks r (.heavy :: ks) (putS S d (.pointer (some ⟨H.next, 0, none⟩))) H1 K) : wDraw P kn lo n masks (⟨d, none, .alc e z⟩ :: r) ks S H K := by
  simp only [wDraw, wRO, wRI]
  intro H1 hH1
  obtain ⟨k1, n1, c1⟩ := new_facts hH1
  exact h H1 k1 n1 c1
end
end Go.Ax

namespace Go.Ax
open Go Go.RowKit

section
variable {P : Program} {kn : FuncId → Option Bool} {lo n : Nat}
theorem low_seq {c : Code} {a b : RC} (h : low P n c = some (.seq a b)) : ∃ x y, c = .seq x y ∧ low P n x = some a ∧ low P n y = some b := by
  cases c <;> simp only [low] at h <;> try (cases h; done)
  · rename_i id ops draw
    cases draw <;> simp only [cond_true, cond_false] at h
    · split at h <;> cases h
    · obtain ⟨_, h⟩ := bif_some h
      split at h <;> cases h
  · rename_i x y
    split at h <;> first | (cases h; done) | skip
    rename_i a' ha
    split at h <;> first | (cases h; done) | skip
    rename_i b' hb
    cases h
    exact ⟨x, y, rfl, ha, hb⟩
  · split at h <;> first | (cases h; done) | skip
    split at h <;> cases h
  · split at h <;> cases h
  · split at h <;> cases h
theorem low_block {c : Code} {id : Nat} {a : RC} (h : low P n c = some (.block id a)) : ∃ x, c = .block id x ∧ low P n x = some a := by
  cases c <;> simp only [low] at h <;> try (cases h; done)
  · rename_i id ops draw
    cases draw <;> simp only [cond_true, cond_false] at h
    · split at h <;> cases h
    · obtain ⟨_, h⟩ := bif_some h
      split at h <;> cases h
  · split at h <;> first | (cases h; done) | skip
    split at h <;> cases h
  · split at h <;> first | (cases h; done) | skip
    split at h <;> cases h
  · rename_i id' x
    split at h <;> first | (cases h; done) | skip
    rename_i a' ha
    cases h
    exact ⟨x, rfl, ha⟩
  · split at h <;> cases h
theorem low_other {c d : Code} (h : low P n c = some (.other d)) : c = d := by
  cases c <;> simp only [low] at h <;> try (cases h; done)
  · rename_i id ops draw
    cases draw <;> simp only [cond_true, cond_false] at h
    · split at h <;> cases h
    · obtain ⟨_, h⟩ := bif_some h
      split at h <;> cases h
  · split at h <;> first | (cases h; done) | skip
    split at h <;> cases h
  · split at h <;> first | (cases h; done) | skip
    split at h <;> cases h
  · split at h <;> cases h
  · cases h; rfl
  · cases h; rfl
  · split at h <;> cases h
theorem TriR.lowR {c : Code} {a b : RC} {S : Rg} {H : Hp} {K : Exit → Rg → Hp → List Deferred → Prop} (hL : low P n c = some (.seq a b)) (h : wC P kn lo n false a S H fun e S' H' => match e with | .normal => ∀ y, low P n y = some b → TriR P kn lo n y S' H' K | e => K e S' H' []) : TriR P kn lo n c S H K := by
  obtain ⟨x, y, rfl, hx, hy⟩ := low_seq hL
  refine TriR.seqR ((wC_sound false x hx h).mono fun e S' H' q => ?_)
  cases e with
  | normal => exact q y hy
  | _ => exact q
theorem TriR.lowL {c : Code} {a b : RC} {S : Rg} {H : Hp} {K : Exit → Rg → Hp → List Deferred → Prop} (hL : low P n c = some (.seq a b)) (h : ∀ x, low P n x = some a → TriR P kn lo n x S H fun e S' H' D => match e with | .normal => wC P kn lo n false b S' H' (fun e S2 H2 => K e S2 H2 D) | e => K e S' H' D) : TriR P kn lo n c S H K := by
  obtain ⟨x, y, rfl, hx, hy⟩ := low_seq hL
  refine TriR.seqL fun A h1 h2 h3 h4 => ?_
  obtain ⟨e, S', H', T', D, q, r⟩ := h x hx A h1 h2 h3 h4
  refine ⟨e, S', H', T', D, ?_, r⟩
  cases e with
  | normal => exact wC_sound false y hy q
  | _ => exact q
theorem TriR.lowB {c : Code} {id : Nat} {d : Code} {S : Rg} {H : Hp} {K : Exit → Rg → Hp → List Deferred → Prop} (hL : low P n c = some (.block id (.other d))) (h : TriR P kn lo n d S H fun e S' H' D => match e with | .exit j => (bif Nat.beq j id then K .normal S' H' D else K (.exit j) S' H' D) | e => K e S' H' D) : TriR P kn lo n c S H K := by
  obtain ⟨x, rfl, hx⟩ := low_block hL
  have := low_other hx
  subst this
  exact TriR.block h
theorem fnX_lowR {f : FuncId} {fn : Func} {R : RC} {n : Nat} {rs : List ResultVar} {args : List Value} {H : Hp} {Q : Value → Hp → Prop} (hf : P.funcs[f]? = some fn) (hb : fn.body = some (at_ fn [])) (hn : fn.ntmps = n) (hz : fn.results.toList = rs) (hL : low P fn.ntmps (at_ fn []) = some R) (hl : args.length ≤ n)
    (h : ∀ y, low P n y = some R → TriR P kn lo n y (argS args 0) H fun e S' H' D => (match e with | .normal => True | .ret => True | _ => False) ∧
      ((D = [] ∧ ∃ vs, resS P S' H' rs = some vs ∧ Q (retV vs) H') ∨
        ∃ r, D = [{ target := .collected r, args := #[] }] ∧ lo ≤ r ∧ H'.t.get r = some (.dfr (some [])) ∧ ∀ H2, H2.next = H'.next → Keep H' H2 [r] → ∃ vs, resS P S' H2 rs = some vs ∧ Q (retV vs) H2)) :
    ∃ v H', FnX P kn lo f args H v H' ∧ Q v H' := by
  subst hn hz
  exact fnX_of_triR hf hb hl (h _ hL)
theorem load_one {t : TypeId} (ht : isAggB P t = some false) {H : Hp} {b : Nat} {v : Value} (h : Rd H b [v]) : loadV P H t ⟨b, 0, none⟩ = some v := by
  unfold loadV
  simp only [h.of, ht]
  rfl
end
end Go.Ax

/-! Lemmas of no seat (gathered by program). -/
namespace Go.Ax
open Go Go.RowKit

abbrev pt (b : Nat) : Value := .pointer (some ⟨b, 0, none⟩)
abbrev iv (x : Int) : Value := .int .i64 x
abbrev slv (b n cap : Nat) : Value := .slice (some ⟨b, 0, none⟩) n cap
abbrev unit : Value := .tuple #[]
theorem condT {A B : Prop} (h : A) : (true = true → A) ∧ (true = false → B) := ⟨fun _ => h, fun q => Bool.noConfusion q⟩
theorem condF {A B : Prop} (h : B) : (false = true → A) ∧ (false = false → B) := ⟨fun q => Bool.noConfusion q, fun _ => h⟩
theorem get_lt {α : Type} {l : List α} {i : Nat} {x : α} (h : l[i]? = some x) : i < l.length := by
  rcases Nat.lt_or_ge i l.length with q | q
  · exact q
  · rw [List.getElem?_eq_none q] at h; cases h
theorem get_some {α : Type} {l : List α} {i : Nat} (h : i < l.length) : ∃ x, l[i]? = some x := ⟨l[i], List.getElem?_eq_getElem h⟩
theorem ints_at {us : List Int} {i : Nat} {x : Int} (h : us[i]? = some x) : (ints us)[0 + i * 1]? = some (iv x) := by
  rw [Nat.zero_add, Nat.mul_one]; simp [ints, h]
theorem all_step {α : Type} {f : α → Bool} {l : List α} {i : Nat} {x : α} (h : l[i]? = some x) : (l.take (i + 1)).all f = ((l.take i).all f && f x) := by
  have hi := get_lt h
  rw [List.getElem?_eq_getElem hi] at h
  cases h
  rw [List.take_succ_eq_append_getElem hi, List.all_append]
  simp
theorem all_fail {α : Type} {f : α → Bool} {l : List α} {i : Nat} {x : α} (h : l[i]? = some x) (hx : f x = false) : l.all f = false := by
  rw [List.all_eq_false]; exact ⟨x, List.mem_of_getElem? h, by simp [hx]⟩
theorem putRow_mid : ∀ (z vs pre post : List Value), z.length = vs.length → putRow (pre ++ (z ++ post)) pre.length vs = pre ++ (vs ++ post)
  | [], [], pre, post, _ => by simp [putRow]
  | [], _ :: _, _, _, h => by simp at h
  | _ :: _, [], _, _, h => by simp at h
  | a :: z, v :: vs, pre, post, h => by
    have ih := putRow_mid z vs (pre ++ [v]) post (by simpa using h)
    simp only [List.length_append, List.length_cons, List.length_nil, List.append_assoc, List.cons_append, List.nil_append] at ih
    rw [putRow]
    simp only [List.cons_append, List.set_append_right _ _ (Nat.le_refl _), Nat.sub_self, List.set_cons_zero]
    exact ih
/-- One of the records, whole. -/
theorem flat_put {α : Type} {f : α → List Value} {size : Nat} {l : List α} (hf : ∀ x, (f x).length = size) {i : Nat} (h : i < l.length) (y : α) : putRow (l.flatMap f) (0 + i * size) (f y) = (l.set i y).flatMap f := by
  have e : l = l.take i ++ l[i] :: l.drop (i + 1) := by
    rw [← List.drop_eq_getElem_cons h]; exact (List.take_append_drop i l).symm
  have e2 : l.set i y = l.take i ++ y :: l.drop (i + 1) := by
    rw [List.set_eq_take_append_cons_drop, if_pos h]
  have hl : ((l.take i).flatMap f).length = 0 + i * size := by
    rw [flat_len (fun x _ => hf x), List.length_take]
    rw [Nat.min_eq_left (by omega)]; omega
  rw [e2]
  conv => lhs; rw [e]
  rw [List.flatMap_append, List.flatMap_append, List.flatMap_cons, List.flatMap_cons, ← hl]
  exact putRow_mid _ _ _ _ (by rw [hf, hf])
theorem zeros_flat {α : Type} {f : α → List Value} {z : α} (n : Nat) : zeros (f z) n = (List.replicate n z).flatMap f := by
  induction n with
  | zero => rfl
  | succ n ih => simp only [zeros, ih, List.replicate_succ, List.flatMap_cons]
section
variable {P : Program} {kn : FuncId → Option Bool} {lo : Nat} {H : Hp}
theorem putRow_all : ∀ (z vs pre : List Value), z.length = vs.length → putRow (pre ++ z) pre.length vs = pre ++ vs
  | [], [], pre, _ => by simp [putRow]
  | [], _ :: _, _, h => by simp at h
  | _ :: _, [], _, h => by simp at h
  | y :: z, v :: vs, pre, h => by
    rw [putRow, List.set_append_right _ _ (Nat.le_refl _), Nat.sub_self, List.set_cons_zero]
    have := putRow_all z vs (pre ++ [v]) (by simpa using h)
    simp only [List.append_assoc, List.singleton_append, List.length_append, List.length_singleton] at this
    exact this
theorem heap_build1 {n : Nat} {S : Rg} {H : Hp} {d : Option Tmp} {t e ty : TypeId} {p : String} {size : Nat} {z v : Value} {x : Operand} (he : sliceElem P t = some (e, size)) (hz : zeroOf P e = some z) (hzs : z.cells.toList.length = size) (hx : evS S x = some v) (hv : v.cells.toList.length = size) (hs : size ≤ 16777216) :
    heapOp P lo (frS n S) H ⟨d, .buildSlice t 1 #[(0, x)], ty, p, #[], none⟩ = some (.val (.slice (some ⟨H.next, 0, none⟩) 1 1) (H.new (.cells v.cells.toList e false)), .heavy) := by
  have hp := putRow_all z.cells.toList v.cells.toList [] (by rw [hzs, hv])
  simp only [List.nil_append, List.length_nil] at hp
  have h2 : Nat.ble (0 + size) z.cells.toList.length = true := Nat.ble_eq_true_of_le (by rw [hzs]; omega)
  unfold heapOp
  simp only [partsOf, ev_frS, hx, he, hz, Nat.one_mul, Nat.ble_eq_true_of_le hs, cond_true, zeros, List.append_nil, fillL, Nat.zero_mul, hv, Nat.beq_refl, h2, Bool.and_self, hp]
end
theorem Cl.sl {H : Hp} {b n cap : Nat} {cs : List Value} (h : Cl H b cs) (hn : n ≤ cap) : Sl H (some ⟨b, 0, none⟩) n cap cs := .inr ⟨b, rfl, h.rd, hn⟩
theorem row_get {n : Nat} {cs l : List Value} {i j : Nat} {v : Value} (h : row n cs i = some l) (hj : l[j]? = some v) : cs[i + j]? = some v := by
  obtain ⟨e, hl⟩ := row_some h
  have hjl := get_lt hj
  rw [e, List.getElem?_take, if_pos (by omega), List.getElem?_drop] at hj
  exact hj
/-- What append has made so far, one by one: nothing, or a block that is full. -/
def Acc (lo f : Nat) (e : TypeId) (H : Hp) (v : Value) (n : Nat) (cs : List Value) : Prop :=
  (n = 0 ∧ cs = [] ∧ v = .slice none 0 0) ∨ ∃ b, v = .slice (some ⟨b, 0, none⟩) n n ∧ 0 < n ∧ f ≤ b ∧ lo ≤ b ∧ b < H.next ∧ H.t.get b = some (.cells cs e true)
theorem Acc.sl {lo f : Nat} {e : TypeId} {H : Hp} {v : Value} {n : Nat} {cs : List Value} (h : Acc lo f e H v n cs) : ∃ a cap, v = .slice a n cap ∧ Sl H a n cap cs ∧ ∀ b, a = some ⟨b, 0, none⟩ → f ≤ b := by
  rcases h with ⟨rfl, rfl, rfl⟩ | ⟨b, rfl, h0, hf, hl, hn, hg⟩
  · exact ⟨none, 0, rfl, .inl ⟨.inl rfl, rfl, rfl, rfl⟩, fun b e => by cases e⟩
  · refine ⟨_, _, rfl, .inr ⟨b, rfl, ⟨hn, ?_⟩, Nat.le_refl _⟩, fun b e => by cases e; exact hf⟩
    unfold cellsOf; rw [hg]
theorem Acc.keep {lo f : Nat} {e : TypeId} {H H1 : Hp} {v : Value} {n : Nat} {cs : List Value} (h : Acc lo f e H v n cs) (k : Keep H H1 []) : Acc lo f e H1 v n cs :=
  h.imp id fun ⟨b, e1, h0, hf, hl, hn, hg⟩ => ⟨b, e1, h0, hf, hl, Nat.lt_of_lt_of_le hn k.1, by rw [k.2 b hn (by simp)]; exact hg⟩
/-- what lies below f stays -/
structure KeepB (f : Nat) (H H1 : Hp) : Prop where
  le : H.next ≤ H1.next
  same : ∀ b, b < f → H1.t.get b = H.t.get b
  rox : ∀ b cs, b < H1.next → H1.t.get b = some (.ro cs) → b < H.next ∧ H.t.get b = some (.ro cs)
theorem KeepB.keep {f : Nat} {F H H1 : Hp} {l : List Nat} (h : KeepB f H H1) (k : Keep F H l) (hf : F.next ≤ f) : Keep F H1 l :=
  ⟨Nat.le_trans k.1 h.1, fun b hb hl => (h.2 b (Nat.lt_of_lt_of_le hb hf)).trans (k.2 b hb hl), fun b cs hb hg => (h.3 b cs hb hg).elim fun x y => k.3 b cs x y⟩
theorem KeepB.of {f : Nat} {H H1 : Hp} (k : Keep H H1 []) (hf : f ≤ H.next) : KeepB f H H1 := ⟨k.1, fun b hb => k.2 b (Nat.lt_of_lt_of_le hb hf) (by simp), k.3⟩
section
variable {P : Program} {lo : Nat}
end
theorem reg_ok {kd : Kd} {f : Nat} (h : kd = .heavy ∨ ∃ b, kd = .store b ∧ f ≤ b) (n : Nat) : ∀ b, kd = .read b → b < n := by
  rcases h with rfl | ⟨b, rfl, _⟩ <;> intro c e <;> cases e
theorem Acc.keepW {lo f : Nat} {e : TypeId} {H H1 : Hp} {v : Value} {n x : Nat} {cs : List Value} (h : Acc lo f e H v n cs) (k : Keep H H1 [x]) (hx : x < f) : Acc lo f e H1 v n cs :=
  h.imp id fun ⟨b, e1, h0, hf, hl, hn, hg⟩ => ⟨b, e1, h0, hf, hl, Nat.lt_of_lt_of_le hn k.1, by rw [k.2 b hn (by simp; omega)]; exact hg⟩
theorem load_agg {P : Program} {t : TypeId} {n : Nat} (ht : isAggB P t = some true) (hi : ∃ i, P.info? t = some i ∧ i.size = n) {H : Hp} {b : Nat} {cs : List Value} (h : Rd H b cs) (hl : cs.length = n) : loadV P H t ⟨b, 0, none⟩ = some (.agg cs.toArray) := by
  obtain ⟨i, h1, h2⟩ := hi
  have hr : row i.size cs 0 = some cs := by
    unfold row
    rw [h2, ← hl]
    simp [beq_eq]
  unfold loadV
  simp only [h.of, ht, h1, hr]
theorem Sl.old {H : Hp} {a : Option Addr} {n c : Nat} {cs : List Value} (h : Sl H a n c cs) (b : Nat) (e : a = some ⟨b, 0, none⟩) : b < H.next := by
  rcases h with ⟨h | h, _⟩ | ⟨b', e', h, _⟩
  · rw [h] at e; cases e
  · rw [h] at e; cases e
  · rw [e'] at e; cases e; exact h.lt
theorem KeepB.cl {f : Nat} {H H1 : Hp} {b : Nat} {cs : List Value} (h : KeepB f H H1) (hc : Cl H b cs) (hb : b < f) : Cl H1 b cs := by
  obtain ⟨h1, e, lz, h2⟩ := hc
  exact ⟨Nat.lt_of_lt_of_le h1 h.1, e, lz, by rw [h.2 b hb]; exact h2⟩
theorem KeepB.rd {f : Nat} {H H1 : Hp} {b : Nat} {cs : List Value} (h : KeepB f H H1) (hc : Rd H b cs) (hb : b < f) : Rd H1 b cs := by
  obtain ⟨h1, h2⟩ := hc
  exact ⟨Nat.lt_of_lt_of_le h1 h.1, by unfold cellsOf at h2 ⊢; rw [h.2 b hb]; exact h2⟩
theorem new_get {H H1 : Hp} {o : Ob} (h : H.new o = H1) : H1.t.get H.next = some o := by
  subst h
  show (H.t.set H.next _).get H.next = _
  rw [Tr.get_set, if_pos rfl]
theorem KeepB.sl {f : Nat} {H H1 : Hp} {a : Option Addr} {n c : Nat} {cs : List Value} (h : KeepB f H H1) (hc : Sl H a n c cs) (hb : ∀ b, a = some ⟨b, 0, none⟩ → b < f) : Sl H1 a n c cs :=
  hc.imp id fun ⟨b, e, r, q⟩ => ⟨b, e, h.rd r (hb b e), q⟩
/-- What append has made out of a new block without elements: nothing, or a block that is full. -/
def AccB (b0 lo f : Nat) (e : TypeId) (H : Hp) (v : Value) (n : Nat) (cs : List Value) : Prop :=
  (n = 0 ∧ cs = [] ∧ v = .slice (some ⟨b0, 0, none⟩) 0 0 ∧ b0 < H.next ∧ ∃ e0, H.t.get b0 = some (.cells [] e0 false)) ∨ ∃ b, v = .slice (some ⟨b, 0, none⟩) n n ∧ 0 < n ∧ f ≤ b ∧ lo ≤ b ∧ b < H.next ∧ H.t.get b = some (.cells cs e true)
theorem AccB.keep {b0 lo f : Nat} {e : TypeId} {H H1 : Hp} {v : Value} {n : Nat} {cs : List Value} (h : AccB b0 lo f e H v n cs) (k : Keep H H1 []) : AccB b0 lo f e H1 v n cs :=
  h.imp (fun ⟨h1, h2, h3, h4, e0, h5⟩ => ⟨h1, h2, h3, Nat.lt_of_lt_of_le h4 k.1, e0, by rw [k.2 b0 h4 (by simp)]; exact h5⟩) fun ⟨b, e1, h0, hf, hl, hn, hg⟩ => ⟨b, e1, h0, hf, hl, Nat.lt_of_lt_of_le hn k.1, by rw [k.2 b hn (by simp)]; exact hg⟩
section
variable {P : Program} {lo : Nat}
end
end Go.Ax

/-! Steps of drawn regions: comparisons. -/
namespace Go.Ax
open Go Go.RowKit
section
variable {P : Program} {kn : FuncId → Option Bool} {lo n : Nat} {masks : List Nat} {r : List RO} {ks : List Kd} {S : Rg} {H : Hp} {K : Rg → Hp → Prop} {d : Option Nat} {x y : Operand} {a b : Int}
theorem wD_b_lss (hx : evS S x = some (.int .i64 a)) (hy : evS S y = some (.int .i64 b)) (h : ∀ t, (decide (a < b)) = t → wDraw P kn lo n masks r (.pure :: ks) (putS S d (.bool t)) H K) : wDraw P kn lo n masks (⟨d, none, .cmpb .lss x y⟩ :: r) ks S H K := by
  simp only [wDraw, wRO, wRI, hx, hy]; exact h
theorem wD_b_gtr (hx : evS S x = some (.int .i64 a)) (hy : evS S y = some (.int .i64 b)) (h : ∀ t, (decide (a > b)) = t → wDraw P kn lo n masks r (.pure :: ks) (putS S d (.bool t)) H K) : wDraw P kn lo n masks (⟨d, none, .cmpb .gtr x y⟩ :: r) ks S H K := by
  simp only [wDraw, wRO, wRI, hx, hy]; exact h
theorem wD_c_neq (hx : evS S x = some (.int .i64 a)) (hy : evS S y = some (.int .i64 b)) (h : wDraw P kn lo n masks r (.pure :: ks) (putS S d (.bool (a != b))) H K) : wDraw P kn lo n masks (⟨d, none, .cmp .neq x y⟩ :: r) ks S H K := by
  simp only [wDraw, wRO, wRI, hx, hy]; exact h
end
end Go.Ax

/-! Steps of plain regions, one theorem each (written by program, out of those of drawn regions). -/
namespace Go.Ax
open Go Go.RowKit
section
variable {P : Program} {kn : FuncId → Option Bool} {lo n : Nat} {r : List RO} {S : Rg} {H : Hp} {K : Rg → Hp → Prop} {d : Option Nat} {x y : Operand} {rd : Bool} {a b : Int}
theorem wN_seq {ops : List RO} {c : RC} {K : Exit → Rg → Hp → Prop} (h : wOps P kn lo n ops S H fun S' H' => wC P kn lo n rd c S' H' K) : wC P kn lo n rd (.seq (.reg ops) c) S H K := h
theorem wN_reg {ops : List RO} {K : Exit → Rg → Hp → Prop} (h : wOps P kn lo n ops S H fun S' H' => K .normal S' H') : wC P kn lo n rd (.reg ops) S H K := h
theorem wN_skip {K : Exit → Rg → Hp → Prop} (h : K .normal S H) : wC P kn lo n rd .skip S H K := h
theorem wN_blk {id : Nat} {ops : List RO} {K : Exit → Rg → Hp → Prop} (h : wOps P kn lo n ops S H fun S' H' => K .normal S' H') : wC P kn lo n rd (.block id (.reg ops)) S H K := h
theorem wN_bseq {id : Nat} {ops : List RO} {c : RC} {K : Exit → Rg → Hp → Prop} (h : wOps P kn lo n ops S H fun S' H' => wC P kn lo n rd c S' H' K) : wC P kn lo n rd (.seq (.block id (.reg ops)) c) S H K := h
theorem wOps_nil (h : K S H) : wOps P kn lo n [] S H K := h
theorem wB_dreg {id : Nat} {masks : List Nat} {ops : List RO} {K : Exit → Rg → Hp → Prop} (h : wDraw P kn lo n masks ops [] S H fun S' H' => K .normal S' H') : wC P kn lo n rd (.block id (.dreg ops masks)) S H K := .inl h
theorem wB_seq {id : Nat} {masks : List Nat} {ops : List RO} {c : RC} {K : Exit → Rg → Hp → Prop} (h : wDraw P kn lo n masks ops [] S H fun S' H' => wC P kn lo n rd c S' H' K) : wC P kn lo n rd (.seq (.block id (.dreg ops masks)) c) S H K := .inl h
theorem wN_exit {id : Nat} {K : Exit → Rg → Hp → Prop} (h : K (.exit id) S H) : wC P kn lo n rd (.exit id) S H K := h
theorem wN_scp {b : RC} {K : Exit → Rg → Hp → Prop} (h : wC P kn lo n rd b S H K) : wC P kn lo n rd (.scp b) S H K := h
theorem wN_sscp {b c : RC} {K : Exit → Rg → Hp → Prop} (h : wC P kn lo n rd b S H fun e S' H' => match e with | .normal => wC P kn lo n rd c S' H' K | e => K e S' H') : wC P kn lo n rd (.seq (.scp b) c) S H K := h
theorem wN_end (h : K S H) : wOps P kn lo n [] S H K := h
theorem wN_box {e : TypeId} {v : Value} (hx : evS S x = some v) (h : ∀ H1, Keep H H1 [] → H1.next = H.next + 1 → Cl H1 H.next v.cells.toList → wOps P kn lo n r (putS S d (.pointer (some ⟨H.next, 0, none⟩))) H1 K) : wOps P kn lo n (⟨d, none, .box e x⟩ :: r) S H K := by
  simp only [wOps, wRO, wRI, hx]
  intro H1 hH1
  obtain ⟨k1, n1, c1⟩ := new_facts hH1
  exact h H1 k1 n1 c1
theorem wN_idxa {b o len size k : Nat} {kd : IntKind} {j : Int} (hx : evS S x = some (.pointer (some ⟨b, o, none⟩))) (hy : evS S y = some (.int kd j)) (hj : j = (k : Int)) (hk : k < len) (h : wOps P kn lo n r (putS S d (.pointer (some ⟨b, o + k * size, none⟩))) H K) : wOps P kn lo n (⟨d, none, .idxa x y len size⟩ :: r) S H K := by
  simp only [wOps, wRO, wRI, hx, hy]; exact ⟨k, hj, hk, h⟩
theorem wN_mov {v : Value} (hx : evS S x = some v) (h : wOps P kn lo n r (putS S d v) H K) : wOps P kn lo n (⟨d, none, .mov x⟩ :: r) S H K := by
  show match evS S x with | some v => wOps P kn lo n r (putS S d v) H K | none => False
  rw [hx]; exact h
theorem wN_nilc {a : Addr} (hx : evS S x = some (.pointer (some a))) (h : wOps P kn lo n r (putS S d (.pointer (some a))) H K) : wOps P kn lo n (⟨d, none, .nilc x⟩ :: r) S H K := by
  simp only [wOps, wRO, wRI, hx]; exact h
theorem wN_addo {b o off : Nat} (hx : evS S x = some (.pointer (some ⟨b, o, none⟩))) (h : wOps P kn lo n r (putS S d (.pointer (some ⟨b, o + off, none⟩))) H K) : wOps P kn lo n (⟨d, none, .addo x off⟩ :: r) S H K := by
  simp only [wOps, wRO, wRI, hx]; exact h
theorem wN_ld {b o m : Nat} {cs : List Value} {v : Value} (hx : evS S x = some (.pointer (some ⟨b, o, none⟩))) (hc : Rd H b cs) (hv : cs[o]? = some v) (h : wOps P kn lo n r (putS S d v) H K) : wOps P kn lo n (⟨d, none, .ld x m⟩ :: r) S H K := by
  simp only [wOps, wRO, wRI, hx]; exact ⟨cs, v, hc.of, hv, h⟩
theorem wN_pur {o : Oper} {v : Value} (hd : defd S o.op.operands.toList = true) (hv : pureOp P (frS n S) o = some v) (h : wOps P kn lo n r (putS S d v) H K) : wOps P kn lo n (⟨d, none, .pur o⟩ :: r) S H K := ⟨hd, v, hv, h⟩
theorem wN_sta {b o m : Nat} {cs : List Value} {v : Value} (hx : evS S x = some (.pointer (some ⟨b, o, none⟩))) (hy : evS S y = some v) (hc : Cl H b cs) (hl : lo ≤ b) (hm : v.cells.toList.length = m) (h1 : v.cells.toList.all one = true) (ho : o + m ≤ cs.length)
    (h : ∀ H1, Keep H H1 [b] → H1.next = H.next → Cl H1 b (putRow cs o v.cells.toList) → wOps P kn lo n r (putS S d undef) H1 K) : wOps P kn lo n (⟨d, none, .sta x y m⟩ :: r) S H K := by
  simp only [wOps, wRO, wRI, hx, hy]
  obtain ⟨_, e, l, g⟩ := id hc
  exact ⟨cs, e, l, g, hl, hm, h1, ho, fun H1 hH1 => by obtain ⟨a, b, c⟩ := up_facts hc hH1; exact h H1 a b c⟩
theorem wN_lda {b o m : Nat} {cs q : List Value} (hx : evS S x = some (.pointer (some ⟨b, o, none⟩))) (hc : Rd H b cs) (hv : row m cs o = some q) (h : wOps P kn lo n r (putS S d (.agg q.toArray)) H K) : wOps P kn lo n (⟨d, none, .lda x m⟩ :: r) S H K := by
  simp only [wOps, wRO, wRI, hx]; exact ⟨cs, q, hc.of, hv, h⟩
theorem wN_len {a : Option Addr} {m c : Nat} (hx : evS S x = some (.slice a m c)) (h : wOps P kn lo n r (putS S d (.int .i64 (m : Int))) H K) : wOps P kn lo n (⟨d, none, .len x⟩ :: r) S H K := by
  simp only [wOps, wRO, wRI, hx]; exact h
theorem wN_add {a b : Int} (hx : evS S x = some (.int .i64 a)) (hy : evS S y = some (.int .i64 b)) (h2 : InR (a + b)) (h : wOps P kn lo n r (putS S d (.int .i64 (a + b))) H K) : wOps P kn lo n (⟨d, none, .ari .add x y⟩ :: r) S H K := by
  simp only [wOps, wRO, wRI, hx, hy]; exact ⟨h2, h⟩
theorem wN_idx {b o len cap size k : Nat} {kd : IntKind} {j : Int} (hx : evS S x = some (.slice (some ⟨b, o, none⟩) len cap)) (hy : evS S y = some (.int kd j)) (hj : j = (k : Int)) (hk : k < len) (h : wOps P kn lo n r (putS S d (.pointer (some ⟨b, o + k * size, none⟩))) H K) : wOps P kn lo n (⟨d, none, .idx x y size⟩ :: r) S H K := by
  simp only [wOps, wRO, wRI, hx, hy]; exact ⟨k, hj, hk, h⟩
theorem wN_callf {c : Call} {t : Target} {vs : List Value} {v : Value} {H' : Hp} (ht : targetS S c = some (t, vs)) (hc : CallsX P kn lo t vs H v H') (h : wOps P kn lo n r (putS S d v) H' K) : wOps P kn lo n (⟨d, none, .call c true⟩ :: r) S H K := by
  simp only [wOps, wRO, wRI, ht, Bool.not_true, Bool.false_and, cond_false, cond_true]; exact ⟨v, H', hc, h⟩
theorem wN_mul {a b : Int} (hx : evS S x = some (.int .i64 a)) (hy : evS S y = some (.int .i64 b)) (h2 : InR (a * b)) (h : wOps P kn lo n r (putS S d (.int .i64 (a * b))) H K) : wOps P kn lo n (⟨d, none, .ari .mul x y⟩ :: r) S H K := by
  simp only [wOps, wRO, wRI, hx, hy]; exact ⟨h2, h⟩
theorem wN_sub {a b : Int} (hx : evS S x = some (.int .i64 a)) (hy : evS S y = some (.int .i64 b)) (h2 : InR (a - b)) (h : wOps P kn lo n r (putS S d (.int .i64 (a - b))) H K) : wOps P kn lo n (⟨d, none, .ari .sub x y⟩ :: r) S H K := by
  simp only [wOps, wRO, wRI, hx, hy]; exact ⟨h2, h⟩
theorem wN_quo {a b : Int} (hx : evS S x = some (.int .i64 a)) (hy : evS S y = some (.int .i64 b)) (h0 : 0 ≤ a) (h1 : 0 < b) (h2 : InR a) (h : wOps P kn lo n r (putS S d (.int .i64 (a / b))) H K) : wOps P kn lo n (⟨d, none, .ari .quo x y⟩ :: r) S H K := by
  simp only [wOps, wRO, wRI, hx, hy]; exact ⟨h0, h1, h2, h⟩
theorem wN_g {g : Nat} {t : Bool} {ri : RI} (hg : lk S g = some (.bool t)) (h : wOps P kn lo n (⟨d, none, ri⟩ :: r) S H K) : wOps P kn lo n (⟨d, some (g, t), ri⟩ :: r) S H K := by
  cases t <;> (simp only [wOps, wRO, hg] at h ⊢; exact h)
theorem wN_mm {small : Bool} {a b : Int} (hx : evS S x = some (.int .i64 a)) (hy : evS S y = some (.int .i64 b)) (h : wOps P kn lo n r (putS S d (.int .i64 (bif small then min a b else max a b))) H K) : wOps P kn lo n (⟨d, none, .mm small x y⟩ :: r) S H K := by
  simp only [wOps, wRO, wRI, hx, hy]; exact h
theorem wN_st {b o : Nat} {cs : List Value} {v : Value} (hx : evS S x = some (.pointer (some ⟨b, o, none⟩))) (hy : evS S y = some v) (hc : Cl H b cs) (hl : lo ≤ b) (hv : v.cells.toList = [v]) (h1 : one v = true) (ho : o < cs.length)
    (h : ∀ H1, Keep H H1 [b] → H1.next = H.next → Cl H1 b (cs.set o v) → wOps P kn lo n r (putS S d undef) H1 K) : wOps P kn lo n (⟨d, none, .st x y⟩ :: r) S H K := by
  simp only [wOps, wRO, wRI, hx, hy]
  obtain ⟨_, e, l, g⟩ := id hc
  exact ⟨cs, e, l, g, hl, hv, h1, ho, fun H1 hH1 => by obtain ⟨a, b, c⟩ := up_facts hc hH1; exact h H1 a b c⟩
theorem wN_gs {g : Nat} {t : Bool} {ri : RI} (hg : lk S g = some (.bool (!t))) (h : wOps P kn lo n r (putS S d undef) H K) : wOps P kn lo n (⟨d, some (g, t), ri⟩ :: r) S H K := by
  cases t <;> (simp only [wOps, wRO, hg, Bool.not_true, Bool.not_false, cond_true, cond_false] at h ⊢; exact h)
theorem wN_alc {e : TypeId} {z : List Value} (h : ∀ H1, Keep H H1 [] → H1.next = H.next + 1 → Cl H1 H.next z → wOps P kn lo n r (putS S d (.pointer (some ⟨H.next, 0, none⟩))) H1 K) : wOps P kn lo n (⟨d, none, .alc e z⟩ :: r) S H K := by
  simp only [wOps, wRO, wRI]
  intro H1 hH1
  obtain ⟨k1, n1, c1⟩ := new_facts hH1
  exact h H1 k1 n1 c1
theorem wN_memh {o : Oper} {v : Value} {H' : Hp} {k : Kd} (hd : defd S o.op.operands.toList = true) (hp : pureOp P (frS n S) o = none) (hh : heapOp P lo (frS n S) H o = some (.val v H', k)) (hb : ∀ b, k = .read b → b < H.next)
    (h : wOps P kn lo n r (putS S d v) H' K) : wOps P kn lo n (⟨d, none, .mem o⟩ :: r) S H K := ⟨hd, .inr ⟨hp, v, H', k, hh, hb, h⟩⟩
theorem wN_c_lss (hx : evS S x = some (.int .i64 a)) (hy : evS S y = some (.int .i64 b)) (h : wOps P kn lo n r (putS S d (.bool (decide (a < b)))) H K) : wOps P kn lo n (⟨d, none, .cmp .lss x y⟩ :: r) S H K := by
  simp only [wOps, wRO, wRI, hx, hy]; exact h
theorem wN_b_lss (hx : evS S x = some (.int .i64 a)) (hy : evS S y = some (.int .i64 b)) (h : ∀ t, (decide (a < b)) = t → wOps P kn lo n r (putS S d (.bool t)) H K) : wOps P kn lo n (⟨d, none, .cmpb .lss x y⟩ :: r) S H K := by
  simp only [wOps, wRO, wRI, hx, hy]; exact h
theorem wN_c_leq (hx : evS S x = some (.int .i64 a)) (hy : evS S y = some (.int .i64 b)) (h : wOps P kn lo n r (putS S d (.bool (decide (a ≤ b)))) H K) : wOps P kn lo n (⟨d, none, .cmp .leq x y⟩ :: r) S H K := by
  simp only [wOps, wRO, wRI, hx, hy]; exact h
theorem wN_b_leq (hx : evS S x = some (.int .i64 a)) (hy : evS S y = some (.int .i64 b)) (h : ∀ t, (decide (a ≤ b)) = t → wOps P kn lo n r (putS S d (.bool t)) H K) : wOps P kn lo n (⟨d, none, .cmpb .leq x y⟩ :: r) S H K := by
  simp only [wOps, wRO, wRI, hx, hy]; exact h
theorem wN_c_gtr (hx : evS S x = some (.int .i64 a)) (hy : evS S y = some (.int .i64 b)) (h : wOps P kn lo n r (putS S d (.bool (decide (a > b)))) H K) : wOps P kn lo n (⟨d, none, .cmp .gtr x y⟩ :: r) S H K := by
  simp only [wOps, wRO, wRI, hx, hy]; exact h
theorem wN_b_gtr (hx : evS S x = some (.int .i64 a)) (hy : evS S y = some (.int .i64 b)) (h : ∀ t, (decide (a > b)) = t → wOps P kn lo n r (putS S d (.bool t)) H K) : wOps P kn lo n (⟨d, none, .cmpb .gtr x y⟩ :: r) S H K := by
  simp only [wOps, wRO, wRI, hx, hy]; exact h
theorem wN_c_eql (hx : evS S x = some (.int .i64 a)) (hy : evS S y = some (.int .i64 b)) (h : wOps P kn lo n r (putS S d (.bool (a == b))) H K) : wOps P kn lo n (⟨d, none, .cmp .eql x y⟩ :: r) S H K := by
  simp only [wOps, wRO, wRI, hx, hy]; exact h
theorem wN_b_eql (hx : evS S x = some (.int .i64 a)) (hy : evS S y = some (.int .i64 b)) (h : ∀ t, (a == b) = t → wOps P kn lo n r (putS S d (.bool t)) H K) : wOps P kn lo n (⟨d, none, .cmpb .eql x y⟩ :: r) S H K := by
  simp only [wOps, wRO, wRI, hx, hy]; exact h
theorem wN_c_neq (hx : evS S x = some (.int .i64 a)) (hy : evS S y = some (.int .i64 b)) (h : wOps P kn lo n r (putS S d (.bool (a != b))) H K) : wOps P kn lo n (⟨d, none, .cmp .neq x y⟩ :: r) S H K := by
  simp only [wOps, wRO, wRI, hx, hy]; exact h
theorem wN_callB {c : Call} {f : FuncId} {v : Value} {args : List Value} {t0 : Bool} (ht : targetS S c = some (.fn (.func f) #[], v :: args)) (h : ∃ H', FnX P kn lo f (v :: args) H (.bool t0) H' ∧ Keep H H' [])
    (hk : ∀ t H', t0 = t → Keep H H' [] → wOps P kn lo n r (putS S d (.bool t)) H' K) : wOps P kn lo n (⟨d, none, .call c true⟩ :: r) S H K := by
  obtain ⟨H', hf, k⟩ := h
  exact wN_callf ht (callX_args hf) (hk t0 H' rfl k)

end
end Go.Ax

/-! Steps of drawn regions where what is only read lies low (written by program, out of the others). -/
namespace Go.Ax
open Go Go.RowKit
section
variable {P : Program} {kn : FuncId → Option Bool} {lo n : Nat} {masks : List Nat} {r : List RO} {ks : List Kd} {S : Rg} {H : Hp} {K : Rg → Hp → Prop} {d : Option Nat} {x y : Operand} {rd : Bool} {a b : Int}
end
end Go.Ax

/-! Lists that append makes side by side; blocks that do not move. -/
namespace Go.Ax
open Go Go.RowKit

def bkv : Value → Option Nat
  | .slice (some ⟨b, _, _⟩) _ _ => some b
  | _ => none
/-- not in the same block -/
def Ap (v w : Value) : Prop := ∀ b c, bkv v = some b → bkv w = some c → b ≠ c
theorem Ap.symm {v w : Value} (h : Ap v w) : Ap w v := fun b c h1 h2 e => h c b h2 h1 e.symm
/-- several lists that append makes, apart from each other -/
def AcL (lo f : Nat) (e : TypeId) (H : Hp) (l : List (Value × Nat × List Value)) : Prop := (∀ x ∈ l, Acc lo f e H x.1 x.2.1 x.2.2) ∧ l.Pairwise fun x y => Ap x.1 y.1
theorem AcL.keep {lo f : Nat} {e : TypeId} {H H1 : Hp} {l : List (Value × Nat × List Value)} (h : AcL lo f e H l) (k : Keep H H1 []) : AcL lo f e H1 l := ⟨fun x hx => (h.1 x hx).keep k, h.2⟩
theorem AcL.keepW {lo f : Nat} {e : TypeId} {H H1 : Hp} {l : List (Value × Nat × List Value)} (h : AcL lo f e H l) {x : Nat} (k : Keep H H1 [x]) (hx : x < f) : AcL lo f e H1 l := ⟨fun y hy => (h.1 y hy).keepW k hx, h.2⟩
/-- A block that does not move. -/
def Sc (H : Hp) (b : Nat) (cs : List Value) : Prop := b < H.next ∧ ∃ e, H.t.get b = some (.cells cs e false)
theorem Sc.cl {H : Hp} {b : Nat} {cs : List Value} (h : Sc H b cs) : Cl H b cs := by
  obtain ⟨h1, e, h2⟩ := h; exact ⟨h1, e, false, h2⟩
theorem Sc.lt {H : Hp} {b : Nat} {cs : List Value} (h : Sc H b cs) : b < H.next := h.1
theorem Keep.sc {H H1 : Hp} {l : List Nat} (k : Keep H H1 l) {b : Nat} {cs : List Value} (h : Sc H b cs) (hl : b ∉ l) : Sc H1 b cs := by
  obtain ⟨h1, e, h2⟩ := h; exact ⟨Nat.lt_of_lt_of_le h1 k.1, e, by rw [k.2 b h1 hl]; exact h2⟩
theorem KeepB.sc {f : Nat} {H H1 : Hp} (k : KeepB f H H1) {b : Nat} {cs : List Value} (h : Sc H b cs) (hl : b < f) : Sc H1 b cs := by
  obtain ⟨h1, e, h2⟩ := h; exact ⟨Nat.lt_of_lt_of_le h1 k.1, e, by rw [k.2 b hl]; exact h2⟩
theorem heap_append_room {P : Program} {lo : Nat} {H : Hp} {t0 t1 e ep : TypeId} {size k cap cap2 b : Nat} {a : Option Addr} {cs news : List Value} (he : sliceElem P t0 = some (e, size)) (ht : P.underlying t1 = some (.slice ep))
    (hs : Sl H a 1 cap2 news) (hl : news.length = 1 * size) (hone : news.all one = true) (h : Sc H b cs) (hk : k < cap) (hk2 : k < 1000) (hlen : (k + 1) * size ≤ cs.length) (hlo : lo ≤ b) :
    ∃ H1, (∀ (n : Nat) (S : Rg) (d : Option Tmp) (x y : Operand) (ty : TypeId) (p : String), evS S x = some (.slice (some ⟨b, 0, none⟩) k cap) → evS S y = some (.slice a 1 cap2) → heapOp P lo (frS n S) H ⟨d, .call ⟨.builtin .append, #[x, y], #[t0, t1]⟩, ty, p, #[], none⟩ = some (.val (.slice (some ⟨b, 0, none⟩) (k + 1) cap) H1, .store b)) ∧
      Keep H H1 [b] ∧ H1.next = H.next ∧ Sc H1 b (putRow cs (0 + k * size) news) := by
  obtain ⟨h1, e0, h2⟩ := h
  have hsrc := src_of hs hl
  refine ⟨{ H with t := H.t.set b (.cells (putRow cs (0 + k * size) news) e0 false) }, ?_, keep_set (fun cs e => by cases e), rfl, h1, e0, ?_⟩
  · intro n S d x y ty p hx hy
    unfold heapOp
    simp only [evs, ev_frS, hx, hy, builtinV, List.getElem?_toArray, List.getElem?_cons_zero, List.getElem?_cons_succ, he, ht, hsrc, appendV, h2, Nat.ble_eq_true_of_le (show k + 1 ≤ 1048576 by omega), Nat.ble_eq_true_of_le (show k + 1 ≤ cap by omega), Nat.ble_eq_true_of_le hlo, Nat.ble_eq_true_of_le (show 0 + (k + 1) * size ≤ cs.length by omega), hone, show Nat.beq 1 0 = false from rfl, Bool.and_self, cond_true, cond_false]
  · show (H.t.set b _).get b = _
    rw [Tr.get_set, if_pos rfl]
/-- A block whose cells may be read, and may be cut. -/
def Fx (H : Hp) (b : Nat) (cs : List Value) : Prop := b < H.next ∧ (H.t.get b = some (.ro cs) ∨ (∃ e, H.t.get b = some (.cells cs e false)) ∨ H.t.get b = some (.cells cs 3 true))
theorem Fx.rd {H : Hp} {b : Nat} {cs : List Value} (h : Fx H b cs) : Rd H b cs := by
  obtain ⟨h1, h2 | ⟨e, h2⟩ | h2⟩ := h <;> exact ⟨h1, by unfold cellsOf; rw [h2]⟩
theorem Fx.lt {H : Hp} {b : Nat} {cs : List Value} (h : Fx H b cs) : b < H.next := h.1
theorem new_sc {H H1 : Hp} {cs : List Value} {e : TypeId} (h : H.new (.cells cs e false) = H1) : Sc H1 H.next cs := ⟨by rw [(new_facts h).2.1]; omega, e, new_get h⟩
theorem wN_alcS {P : Program} {kn : FuncId → Option Bool} {lo n : Nat} {r : List RO} {S : Rg} {H : Hp} {K : Rg → Hp → Prop} {d : Option Nat} {e : TypeId} {z : List Value} (h : ∀ H1, Keep H H1 [] → H1.next = H.next + 1 → Sc H1 H.next z → wOps P kn lo n r (putS S d (.pointer (some ⟨H.next, 0, none⟩))) H1 K) : wOps P kn lo n (⟨d, none, .alc e z⟩ :: r) S H K := by
  simp only [wOps, wRO, wRI]
  intro H1 hH1
  obtain ⟨k1, n1, _⟩ := new_facts hH1
  exact h H1 k1 n1 (new_sc hH1)
end Go.Ax

/-
  Plant: the mathematics of plants (no program here) (written by program).
-/
namespace Go.Ax
open Go Go.RowKit

/-- sums -/
def sm (f : Nat → Int) : Nat → Int
  | 0 => 0
  | n + 1 => sm f n + f n
theorem sm_congr {f g : Nat → Int} : ∀ {n : Nat}, (∀ i, i < n → f i = g i) → sm f n = sm g n
  | 0, _ => rfl
  | n + 1, h => by
    show sm f n + f n = sm g n + g n
    rw [sm_congr (n := n) (fun i hi => h i (by omega)), h n (by omega)]
theorem sm_add (f g : Nat → Int) : ∀ n : Nat, sm (fun i => f i + g i) n = sm f n + sm g n
  | 0 => rfl
  | n + 1 => by
    show sm (fun i => f i + g i) n + (f n + g n) = sm f n + f n + (sm g n + g n)
    rw [sm_add f g n]; omega
theorem sm_nn {f : Nat → Int} : ∀ {n : Nat}, (∀ i, i < n → 0 ≤ f i) → 0 ≤ sm f n
  | 0, _ => Int.le_refl _
  | n + 1, h => by
    have := sm_nn (n := n) (fun i hi => h i (by omega))
    have := h n (by omega)
    show 0 ≤ sm f n + f n
    omega
theorem sm_le {f g : Nat → Int} : ∀ {n : Nat}, (∀ i, i < n → f i ≤ g i) → sm f n ≤ sm g n
  | 0, _ => Int.le_refl _
  | n + 1, h => by
    have := sm_le (n := n) (fun i hi => h i (by omega))
    have := h n (by omega)
    show sm f n + f n ≤ sm g n + g n
    omega
theorem sm_term {f : Nat → Int} : ∀ {n t : Nat}, (∀ i, i < n → 0 ≤ f i) → t < n → f t ≤ sm f n
  | 0, t, _, h => absurd h (by omega)
  | n + 1, t, h, ht => by
    show f t ≤ sm f n + f n
    by_cases e : t = n
    · subst e
      have := sm_nn (n := t) (fun i hi => h i (by omega)); omega
    · have := sm_term (n := n) (t := t) (fun i hi => h i (by omega)) (by omega)
      have := h n (by omega); omega
theorem sm_zero {f : Nat → Int} {n : Nat} (h : ∀ i, i < n → f i = 0) : sm f n = 0 := by
  rw [sm_congr (g := fun _ => 0) h]
  induction n with
  | zero => rfl
  | succ n ih => show sm (fun _ => 0) n + 0 = 0; rw [ih (fun i hi => h i (by omega))]; rfl
/-- one that is more -/
theorem sm_upd {f g : Nat → Int} {t : Nat} {d : Int} (ht : g t = f t + d) (ho : ∀ i, i ≠ t → g i = f i) : ∀ {n : Nat}, t < n → sm g n = sm f n + d
  | 0, h => absurd h (by omega)
  | n + 1, h => by
    show sm g n + g n = sm f n + f n + d
    by_cases e : n = t
    · subst e
      rw [sm_congr (f := g) (g := f) (n := n) (fun i hi => ho i (by omega)), ht]; omega
    · rw [sm_upd ht ho (n := n) (by omega), ho n e]; omega

/-- four numbers -/
def q4 (a b c d : Int) : Nat → Int
  | 0 => a
  | 1 => b
  | 2 => c
  | _ => d
abbrev qc (q : Nat → Int) : List Value := [iv (q 0), iv (q 1), iv (q 2), iv (q 3)]
theorem four {P : Nat → Prop} (h0 : P 0) (h1 : P 1) (h2 : P 2) (h3 : P 3) : ∀ j, j < 4 → P j
  | 0, _ => h0
  | 1, _ => h1
  | 2, _ => h2
  | 3, _ => h3
  | n + 4, h => absurd h (by omega)
def addQ (p q : Nat → Int) : Nat → Int := fun j => p j + q j
def subQ (p q : Nat → Int) : Nat → Int := fun j => p j - q j
def shQ (p w : Nat → Int) : Nat → Int := fun j => p j * w j / 1000
def isw (n m : Int) : Bool := decide (0 ≤ n) && decide (n ≤ m)
def wiQ (p : Nat → Int) (m : Int) : Bool := isw (p 0) m && isw (p 1) m && isw (p 2) m && isw (p 3) m
theorem isw_t {n m : Int} (h : isw n m = true) : 0 ≤ n ∧ n ≤ m := by simpa [isw] using h
theorem isw_i {n m : Int} (h : 0 ≤ n ∧ n ≤ m) : isw n m = true := by simp [isw]; exact h
theorem wiQ_t {p : Nat → Int} {m : Int} (h : wiQ p m = true) : ∀ j, j < 4 → 0 ≤ p j ∧ p j ≤ m := by
  unfold wiQ at h
  simp only [Bool.and_eq_true] at h
  exact four (isw_t h.1.1.1) (isw_t h.1.1.2) (isw_t h.1.2) (isw_t h.2)
theorem wiQ_i {p : Nat → Int} {m : Int} (h : ∀ j, j < 4 → 0 ≤ p j ∧ p j ≤ m) : wiQ p m = true := by
  unfold wiQ
  rw [isw_i (h 0 (by omega)), isw_i (h 1 (by omega)), isw_i (h 2 (by omega)), isw_i (h 3 (by omega))]; rfl
/-- An outlet. -/
structure Ou where
  to : Int
  m : Int
  s : Int
  a : Int
  c : Int
abbrev Ou.f (o : Ou) : List Value := [iv o.to, iv o.m, iv o.s, iv o.a, iv o.c]
def Ou.z : Ou := ⟨0, 0, 0, 0, 0⟩
def Ou.w (o : Ou) : Nat → Int := q4 o.m o.s o.a o.c
def Ou.ok (o : Ou) (i n : Int) : Bool := ((decide (-16 ≤ o.to) && decide (o.to < 0)) || (decide (i < o.to) && decide (o.to < n))) && wiQ o.w 1000
def ouc (l : List Ou) : List Value := l.flatMap Ou.f
theorem Ou.ok_t {o : Ou} {i n : Int} (h : o.ok i n = true) : ((-16 ≤ o.to ∧ o.to < 0) ∨ (i < o.to ∧ o.to < n)) ∧ ∀ j, j < 4 → 0 ≤ o.w j ∧ o.w j ≤ 1000 := by
  unfold Ou.ok at h
  simp only [Bool.and_eq_true, Bool.or_eq_true, decide_eq_true_eq] at h
  exact ⟨h.1, wiQ_t h.2⟩
/-- what outlets give, of so many of them -/
def giv (l : List Ou) (j : Nat) (k : Nat) : Int := sm (fun i => (l.getD i Ou.z).w j) k
def givQ (l : List Ou) (k : Nat) : Nat → Int := fun j => giv l j k
/-- is this list of outlets that of a machine? -/
def mok (l : List Ou) (i n : Int) : Bool := decide (1 ≤ l.length) && decide (l.length ≤ 4) && l.all (fun o => o.ok i n) && wiQ (givQ l (l.length - 1)) 1000
/-- what is in bins (0 to 15), and what came into machines (from 16 on) -/
abbrev Cs := Nat → Nat → Int
def ix (to : Int) : Nat := if to < 0 then (-1 - to).toNat else 16 + to.toNat
def snd (C : Cs) (to : Int) (p : Nat → Int) : Cs := fun r => if r = ix to then addQ (C r) p else C r
def ws (C : Cs) (all : Nat → Int) (l : List Ou) : Nat → Cs × (Nat → Int)
  | 0 => (C, all)
  | k + 1 => (snd (ws C all l k).1 (l.getD k Ou.z).to (shQ all (l.getD k Ou.z).w), subQ (ws C all l k).2 (shQ all (l.getD k Ou.z).w))
def wk (C : Cs) (i : Nat) (l : List Ou) : Cs := snd (ws C (C (16 + i)) l (l.length - 1)).1 (l.getD (l.length - 1) Ou.z).to (ws C (C (16 + i)) l (l.length - 1)).2
def cz : Cs := fun _ _ => 0
def c0 (ms : List (List Ou)) (s : Nat → Int) : Cs := snd cz (if ms.length = 0 then -1 else 0) s
def rn (ms : List (List Ou)) (s : Nat → Int) : Nat → Cs
  | 0 => c0 ms s
  | k + 1 => wk (rn ms s k) k (ms.getD k [])
def rnA (ms : List (List Ou)) (s : Nat → Int) : Cs := rn ms s ms.length
def pok (ms : List (List Ou)) : Bool := decide (ms.length ≤ 12) && (List.range ms.length).all (fun i => mok (ms.getD i []) i ms.length)
/-- what is on its way still, of so many machines the first ones not -/
def lv (i : Nat) (C : Cs) (j : Nat) : Int := sm (fun r => if r < 16 ∨ 16 + i ≤ r then C r j else 0) 28
structure Pv (i : Nat) (C : Cs) (rest : Nat → Int) (s : Nat → Int) : Prop where
  nn : ∀ r j, j < 4 → 0 ≤ C r j
  rs : ∀ j, j < 4 → 0 ≤ rest j
  su : ∀ j, j < 4 → lv i C j + rest j = s j
theorem Pv.row {i : Nat} {C : Cs} {rest s : Nat → Int} (h : Pv i C rest s) {r : Nat} (hr : r < 16 ∨ 16 + i ≤ r) (h2 : r < 28) {j : Nat} (hj : j < 4) : 0 ≤ C r j ∧ C r j + rest j ≤ s j := by
  have a := sm_term (f := fun r => if r < 16 ∨ 16 + i ≤ r then C r j else 0) (n := 28) (t := r) (fun q _ => by
    show 0 ≤ if q < 16 ∨ 16 + i ≤ q then C q j else 0
    split
    · exact h.nn q j hj
    · exact Int.le_refl _) h2
  simp only [if_pos hr] at a
  have := h.su j hj
  unfold lv at this
  exact ⟨h.nn r j hj, by omega⟩
theorem lv_snd {i : Nat} {C : Cs} {to : Int} {p : Nat → Int} (hr : ix to < 16 ∨ 16 + i ≤ ix to) (h2 : ix to < 28) (j : Nat) : lv i (snd C to p) j = lv i C j + p j := by
  unfold lv
  refine sm_upd (t := ix to) ?_ ?_ h2
  · show (if ix to < 16 ∨ 16 + i ≤ ix to then snd C to p (ix to) j else 0) = (if ix to < 16 ∨ 16 + i ≤ ix to then C (ix to) j else 0) + p j
    rw [if_pos hr, if_pos hr]; unfold snd; rw [if_pos rfl]; rfl
  · intro r e
    show (if r < 16 ∨ 16 + i ≤ r then snd C to p r j else 0) = (if r < 16 ∨ 16 + i ≤ r then C r j else 0)
    unfold snd; rw [if_neg e]
theorem Pv.snd {i : Nat} {C : Cs} {rest s p : Nat → Int} {to : Int} (h : Pv i C rest s) (hr : ix to < 16 ∨ 16 + i ≤ ix to) (h2 : ix to < 28) (hp : ∀ j, j < 4 → 0 ≤ p j ∧ p j ≤ rest j) : Pv i (snd C to p) (subQ rest p) s where
  nn := fun r j hj => by
    have := h.nn r j hj; have := (hp j hj).1
    unfold Go.Ax.snd; split
    · show 0 ≤ C r j + p j; omega
    · exact h.nn r j hj
  rs := fun j hj => by have := (hp j hj).2; show 0 ≤ rest j - p j; omega
  su := fun j hj => by
    rw [lv_snd hr h2]
    have := h.su j hj
    show lv i C j + p j + (rest j - p j) = s j; omega
theorem ix_ok {to : Int} {i n : Nat} (h : (-16 ≤ to ∧ to < 0) ∨ ((i : Int) < to ∧ to < n)) (hn : n ≤ 12) : (ix to < 16 ∨ 16 + (i + 1) ≤ ix to) ∧ ix to < 28 ∧ (ix to < 16 ↔ to < 0) := by
  unfold ix
  split <;> omega
/-- a share -/
theorem share_in {a w : Int} (ha : 0 ≤ a) (hw : 0 ≤ w) (h : w ≤ 1000) : 0 ≤ a * w / 1000 ∧ 1000 * (a * w / 1000) ≤ a * w ∧ a * w ≤ 1000 * a := by
  have h1 : 0 ≤ a * w := Int.mul_nonneg ha hw
  have h2 : a * w ≤ a * 1000 := Int.mul_le_mul_of_nonneg_left h ha
  omega
structure MOk (l : List Ou) (i n : Nat) : Prop where
  h1 : 1 ≤ l.length
  h4 : l.length ≤ 4
  o : ∀ k, k < l.length → ((-16 ≤ (l.getD k Ou.z).to ∧ (l.getD k Ou.z).to < 0) ∨ ((i : Int) < (l.getD k Ou.z).to ∧ (l.getD k Ou.z).to < n)) ∧ ∀ j, j < 4 → 0 ≤ (l.getD k Ou.z).w j ∧ (l.getD k Ou.z).w j ≤ 1000
  g : ∀ j, j < 4 → giv l j (l.length - 1) ≤ 1000
theorem mok_t {l : List Ou} {i n : Nat} (h : mok l i n = true) : MOk l i n := by
  unfold mok at h
  simp only [Bool.and_eq_true, decide_eq_true_eq] at h
  refine ⟨h.1.1.1, h.1.1.2, fun k hk => ?_, fun j hj => (wiQ_t h.2 j hj).2⟩
  have := List.all_eq_true.1 h.1.2 (l.getD k Ou.z) (by rw [List.getD_eq_getElem?_getD, List.getElem?_eq_getElem hk]; exact List.getElem_mem hk)
  exact Ou.ok_t this
theorem giv_le {l : List Ou} {i n : Nat} (h : MOk l i n) {k : Nat} (hk : k ≤ l.length - 1) {j : Nat} (hj : j < 4) : 0 ≤ giv l j k ∧ giv l j k ≤ 1000 := by
  refine ⟨sm_nn fun q hq => ((h.o q (by omega)).2 j hj).1, ?_⟩
  have key : ∀ d, k + d ≤ l.length - 1 → giv l j k ≤ giv l j (k + d) := by
    intro d
    induction d with
    | zero => intro _; exact Int.le_refl _
    | succ d ih =>
      intro hd
      have a := ih (by omega)
      have b := ((h.o (k + d) (by omega)).2 j hj).1
      show giv l j k ≤ giv l j (k + d) + (l.getD (k + d) Ou.z).w j
      omega
  have a := key (l.length - 1 - k) (by omega)
  rw [show k + (l.length - 1 - k) = l.length - 1 by omega] at a
  have := h.g j hj; omega
/-- within a machine's work -/
theorem ws_inv {C : Cs} {i n : Nat} {l : List Ou} {s all : Nat → Int} (h : MOk l i n) (hn : n ≤ 12) (h0 : Pv (i + 1) C all s) : ∀ k, k ≤ l.length - 1 → Pv (i + 1) (ws C all l k).1 (ws C all l k).2 s ∧ ∀ j, j < 4 → 1000 * (all j - (ws C all l k).2 j) ≤ all j * giv l j k
  | 0, _ => ⟨h0, fun j _ => by show 1000 * (all j - all j) ≤ all j * 0; omega⟩
  | k + 1, hk => by
    obtain ⟨a, b⟩ := ws_inv h hn h0 k (by omega)
    obtain ⟨o1, o2⟩ := h.o k (by omega)
    obtain ⟨i1, i2, _⟩ := ix_ok o1 hn
    have hb : ∀ j, j < 4 → 1000 * (all j - ((ws C all l k).2 j - shQ all (l.getD k Ou.z).w j)) ≤ all j * giv l j (k + 1) := by
      intro j hj
      have := b j hj
      have := share_in (h0.rs j hj) (o2 j hj).1 (o2 j hj).2
      show _ ≤ all j * (giv l j k + (l.getD k Ou.z).w j)
      rw [Int.mul_add]
      unfold shQ
      omega
    refine ⟨a.snd i1 i2 fun j hj => ⟨(share_in (h0.rs j hj) (o2 j hj).1 (o2 j hj).2).1, ?_⟩, hb⟩
    have c := hb j hj
    have d := giv_le h (k := k + 1) hk hj
    have e : all j * giv l j (k + 1) ≤ all j * 1000 := Int.mul_le_mul_of_nonneg_left d.2 (h0.rs j hj)
    omega
theorem lv_drop {i : Nat} (hi : i < 12) (C : Cs) (j : Nat) : lv i C j = lv (i + 1) C j + C (16 + i) j := by
  unfold lv
  refine sm_upd (t := 16 + i) ?_ ?_ (by omega)
  · show (if 16 + i < 16 ∨ 16 + i ≤ 16 + i then C (16 + i) j else 0) = (if 16 + i < 16 ∨ 16 + (i + 1) ≤ 16 + i then C (16 + i) j else 0) + C (16 + i) j
    rw [if_pos (.inr (Nat.le_refl _)), if_neg (by omega)]; omega
  · intro r e
    show (if r < 16 ∨ 16 + i ≤ r then C r j else 0) = (if r < 16 ∨ 16 + (i + 1) ≤ r then C r j else 0)
    by_cases q : r < 16 ∨ 16 + (i + 1) ≤ r
    · rw [if_pos q, if_pos (by omega)]
    · rw [if_neg q, if_neg (by omega)]
theorem Pv.next {i : Nat} {C : Cs} {s : Nat → Int} (h : Pv i C (fun _ => 0) s) (hi : i < 12) : Pv (i + 1) C (C (16 + i)) s where
  nn := h.nn
  rs := fun j hj => h.nn _ j hj
  su := fun j hj => by have := h.su j hj; rw [lv_drop hi] at this; omega
theorem Pv.wk {i n : Nat} {C : Cs} {s : Nat → Int} {l : List Ou} (h : Pv i C (fun _ => 0) s) (hi : i < 12) (hl : MOk l i n) (hn : n ≤ 12) : Pv (i + 1) (wk C i l) (fun _ => 0) s := by
  obtain ⟨a, _⟩ := ws_inv hl hn (h.next hi) (l.length - 1) (Nat.le_refl _)
  have h1 := hl.h1
  obtain ⟨o1, o2⟩ := hl.o (l.length - 1) (by omega)
  obtain ⟨i1, i2, _⟩ := ix_ok o1 hn
  have b := a.snd i1 i2 fun j hj => ⟨a.rs j hj, Int.le_refl _⟩
  exact ⟨b.nn, fun _ _ => Int.le_refl _, fun j hj => by have := b.su j hj; have e : subQ (ws C (C (16 + i)) l (l.length - 1)).2 (ws C (C (16 + i)) l (l.length - 1)).2 j = 0 := (by show _ - _ = (0 : Int); omega); rw [e] at this; exact this⟩
theorem c0_inv {ms : List (List Ou)} {s : Nat → Int} (hs : ∀ j, j < 4 → 0 ≤ s j) : Pv 0 (c0 ms s) (fun _ => 0) s := by
  have z : Pv 0 cz s s := ⟨fun _ _ _ => Int.le_refl _, hs, fun j _ => by
    have : lv 0 cz j = 0 := sm_zero fun r _ => by show (if r < 16 ∨ 16 + 0 ≤ r then (0 : Int) else 0) = 0; split <;> rfl
    omega⟩
  have q : (ix (if ms.length = 0 then -1 else 0) < 16 ∨ 16 + 0 ≤ ix (if ms.length = 0 then -1 else 0)) ∧ ix (if ms.length = 0 then -1 else 0) < 28 := by
    unfold ix; split <;> (simp)
  have b := z.snd q.1 q.2 fun j hj => ⟨hs j hj, Int.le_refl _⟩
  exact ⟨b.nn, fun _ _ => Int.le_refl _, fun j hj => by have := b.su j hj; have e : subQ s s j = 0 := (by show _ - _ = (0 : Int); omega); rw [e] at this; exact this⟩
theorem pok_t {ms : List (List Ou)} (h : pok ms = true) : ms.length ≤ 12 ∧ ∀ i, i < ms.length → MOk (ms.getD i []) i ms.length := by
  unfold pok at h
  simp only [Bool.and_eq_true, decide_eq_true_eq] at h
  exact ⟨h.1, fun i hi => mok_t (List.all_eq_true.1 h.2 i (List.mem_range.2 hi))⟩
theorem rn_inv {ms : List (List Ou)} {s : Nat → Int} (h : pok ms = true) (hs : ∀ j, j < 4 → 0 ≤ s j) : ∀ k, k ≤ ms.length → Pv k (rn ms s k) (fun _ => 0) s
  | 0, _ => c0_inv hs
  | k + 1, hk => by
    obtain ⟨a, b⟩ := pok_t h
    exact (rn_inv h hs k (by omega)).wk (by omega) (b k (by omega)) a
end Go.Ax


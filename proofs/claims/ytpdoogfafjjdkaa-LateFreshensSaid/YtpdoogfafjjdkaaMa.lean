import Derived.Test.YtpdoogfafjjdkaaAxW9
set_option linter.all false
/-! Steps of drawn regions, one theorem each, and pieces (written by program). -/
namespace Go.Ax
open Go Go.RowKit
section
variable {P : Program} {kn : FuncId → Option Bool} {lo n : Nat} {masks : List Nat} {r : List RO} {ks : List Kd} {S : Rg} {H : Hp} {K : Rg → Hp → Prop} {d : Option Nat} {x y : Operand} {rd : Bool}
theorem wD_seq {ops : List RO} {c : RC} {K : Exit → Rg → Hp → Prop} (h : wDraw P kn lo n masks ops [] S H fun S' H' => wC P kn lo n rd c S' H' K) : wC P kn lo n rd (.seq (.dreg ops masks) c) S H K := h
theorem wD_mov {v : Value} (hx : evS S x = some v) (h : wDraw P kn lo n masks r (.pure :: ks) (putS S d v) H K) : wDraw P kn lo n masks (⟨d, none, .mov x⟩ :: r) ks S H K := by
  show match evS S x with | some v => wDraw P kn lo n masks r (.pure :: ks) (putS S d v) H K | none => False
  rw [hx]; exact h
theorem wD_nilc {a : Addr} (hx : evS S x = some (.pointer (some a))) (h : wDraw P kn lo n masks r (.pure :: ks) (putS S d (.pointer (some a))) H K) : wDraw P kn lo n masks (⟨d, none, .nilc x⟩ :: r) ks S H K := by
  simp only [wDraw, wRO, wRI, hx]; exact h
theorem wD_addo {b o off : Nat} (hx : evS S x = some (.pointer (some ⟨b, o, none⟩))) (h : wDraw P kn lo n masks r (.pure :: ks) (putS S d (.pointer (some ⟨b, o + off, none⟩))) H K) : wDraw P kn lo n masks (⟨d, none, .addo x off⟩ :: r) ks S H K := by
  simp only [wDraw, wRO, wRI, hx]; exact h
theorem wD_ld {b o m : Nat} {cs : List Value} {v : Value} (hx : evS S x = some (.pointer (some ⟨b, o, none⟩))) (hc : Rd H b cs) (hv : cs[o]? = some v) (h : wDraw P kn lo n masks r (.read b :: ks) (putS S d v) H K) : wDraw P kn lo n masks (⟨d, none, .ld x m⟩ :: r) ks S H K := by
  simp only [wDraw, wRO, wRI, hx]; exact ⟨cs, v, hc.of, hv, hc.lt, h⟩
theorem wD_pur {o : Oper} {v : Value} (hd : defd S o.op.operands.toList = true) (hv : pureOp P (frS n S) o = some v) (h : wDraw P kn lo n masks r (.pure :: ks) (putS S d v) H K) : wDraw P kn lo n masks (⟨d, none, .pur o⟩ :: r) ks S H K := ⟨hd, v, hv, h⟩
theorem wD_sta {b o m : Nat} {cs : List Value} {v : Value} (hx : evS S x = some (.pointer (some ⟨b, o, none⟩))) (hy : evS S y = some v) (hc : Cl H b cs) (hl : lo ≤ b) (hm : v.cells.toList.length = m) (h1 : v.cells.toList.all one = true) (ho : o + m ≤ cs.length)
    (h : ∀ H1, Keep H H1 [b] → H1.next = H.next → Cl H1 b (putRow cs o v.cells.toList) → wDraw P kn lo n masks r (.store b :: ks) (putS S d undef) H1 K) : wDraw P kn lo n masks (⟨d, none, .sta x y m⟩ :: r) ks S H K := by
  simp only [wDraw, wRO, wRI, hx, hy]
  obtain ⟨_, e, l, g⟩ := id hc
  exact ⟨cs, e, l, g, hl, hm, h1, ho, fun H1 hH1 => by obtain ⟨a, b, c⟩ := up_facts hc hH1; exact h H1 a b c⟩
theorem wD_end (hp : (bif ks.all calm then True else pairsP ks masks)) (h : K S H) : wDraw P kn lo n masks [] ks S H K := ⟨hp, h⟩
theorem wD_lda {b o m : Nat} {cs q : List Value} (hx : evS S x = some (.pointer (some ⟨b, o, none⟩))) (hc : Rd H b cs) (hv : row m cs o = some q) (h : wDraw P kn lo n masks r (.read b :: ks) (putS S d (.agg q.toArray)) H K) : wDraw P kn lo n masks (⟨d, none, .lda x m⟩ :: r) ks S H K := by
  simp only [wDraw, wRO, wRI, hx]; exact ⟨cs, q, hc.of, hv, hc.lt, h⟩
theorem wD_add {a b : Int} (hx : evS S x = some (.int .i64 a)) (hy : evS S y = some (.int .i64 b)) (h2 : InR (a + b)) (h : wDraw P kn lo n masks r (.pure :: ks) (putS S d (.int .i64 (a + b))) H K) : wDraw P kn lo n masks (⟨d, none, .ari .add x y⟩ :: r) ks S H K := by
  simp only [wDraw, wRO, wRI, hx, hy]; exact ⟨h2, h⟩
theorem wD_idx {b o len cap size k : Nat} {kd : IntKind} {j : Int} (hx : evS S x = some (.slice (some ⟨b, o, none⟩) len cap)) (hy : evS S y = some (.int kd j)) (hj : j = (k : Int)) (hk : k < len) (h : wDraw P kn lo n masks r (.pure :: ks) (putS S d (.pointer (some ⟨b, o + k * size, none⟩))) H K) : wDraw P kn lo n masks (⟨d, none, .idx x y size⟩ :: r) ks S H K := by
  simp only [wDraw, wRO, wRI, hx, hy]; exact ⟨k, hj, hk, h⟩
theorem wD_callh {c : Call} {t : Target} {vs : List Value} {v : Value} {H' : Hp} (ht : targetS S c = some (t, vs)) (hm : marked t = false) (hc : CallsX P kn H.next t vs H v H') (h : wDraw P kn lo n masks r (.heavy :: ks) (putS S d v) H' K) : wDraw P kn lo n masks (⟨d, none, .call c false⟩ :: r) ks S H K := by
  simp only [wDraw, wRO, wRI, ht, hm, Bool.and_false, cond_false]; exact ⟨v, H', hc, h⟩
theorem wD_callf {c : Call} {t : Target} {vs : List Value} {v : Value} {H' : Hp} (ht : targetS S c = some (t, vs)) (hc : CallsX P kn lo t vs H v H') (h : wDraw P kn lo n masks r (.full :: ks) (putS S d v) H' K) : wDraw P kn lo n masks (⟨d, none, .call c true⟩ :: r) ks S H K := by
  simp only [wDraw, wRO, wRI, ht, Bool.not_true, Bool.false_and, cond_false, cond_true]; exact ⟨v, H', hc, h⟩
theorem wD_sub {a b : Int} (hx : evS S x = some (.int .i64 a)) (hy : evS S y = some (.int .i64 b)) (h2 : InR (a - b)) (h : wDraw P kn lo n masks r (.pure :: ks) (putS S d (.int .i64 (a - b))) H K) : wDraw P kn lo n masks (⟨d, none, .ari .sub x y⟩ :: r) ks S H K := by
  simp only [wDraw, wRO, wRI, hx, hy]; exact ⟨h2, h⟩
theorem wD_g {g : Nat} {t : Bool} {ri : RI} (hg : lk S g = some (.bool t)) (h : wDraw P kn lo n masks (⟨d, none, ri⟩ :: r) ks S H K) : wDraw P kn lo n masks (⟨d, some (g, t), ri⟩ :: r) ks S H K := by
  cases t <;> (simp only [wDraw, wRO, hg] at h ⊢; exact h)
theorem wD_mm {small : Bool} {a b : Int} (hx : evS S x = some (.int .i64 a)) (hy : evS S y = some (.int .i64 b)) (h : wDraw P kn lo n masks r (.pure :: ks) (putS S d (.int .i64 (bif small then min a b else max a b))) H K) : wDraw P kn lo n masks (⟨d, none, .mm small x y⟩ :: r) ks S H K := by
  simp only [wDraw, wRO, wRI, hx, hy]; exact h
theorem wD_st {b o : Nat} {cs : List Value} {v : Value} (hx : evS S x = some (.pointer (some ⟨b, o, none⟩))) (hy : evS S y = some v) (hc : Cl H b cs) (hl : lo ≤ b) (hv : v.cells.toList = [v]) (h1 : one v = true) (ho : o < cs.length)
    (h : ∀ H1, Keep H H1 [b] → H1.next = H.next → Cl H1 b (cs.set o v) → wDraw P kn lo n masks r (.store b :: ks) (putS S d undef) H1 K) : wDraw P kn lo n masks (⟨d, none, .st x y⟩ :: r) ks S H K := by
  simp only [wDraw, wRO, wRI, hx, hy]
  obtain ⟨_, e, l, g⟩ := id hc
  exact ⟨cs, e, l, g, hl, hv, h1, ho, fun H1 hH1 => by obtain ⟨a, b, c⟩ := up_facts hc hH1; exact h H1 a b c⟩
theorem wD_dreg {ops : List RO} {K : Exit → Rg → Hp → Prop} (h : wDraw P kn lo n masks ops [] S H fun S' H' => K .normal S' H') : wC P kn lo n rd (.dreg ops masks) S H K := h
theorem wD_gs {g : Nat} {t : Bool} {ri : RI} (hg : lk S g = some (.bool (!t))) (h : wDraw P kn lo n masks r (.pure :: ks) (putS S d undef) H K) : wDraw P kn lo n masks (⟨d, some (g, t), ri⟩ :: r) ks S H K := by
  cases t <;> (simp only [wDraw, wRO, hg, Bool.not_true, Bool.not_false, cond_true, cond_false] at h ⊢; exact h)
theorem wD_alc {e : TypeId} {z : List Value} (h : ∀ H1, Keep H H1 [] → H1.next = H.next + 1 → Cl H1 H.next z → wDraw P kn lo n masks r (.heavy :: ks) (putS S d (.pointer (some ⟨H.next, 0, none⟩))) H1 K) : wDraw P kn lo n masks (⟨d, none, .alc e z⟩ :: r) ks S H K := by
  simp only [wDraw, wRO, wRI]
  intro H1 hH1
  obtain ⟨k1, n1, c1⟩ := new_facts hH1
  exact h H1 k1 n1 c1
end
end Go.Ax

namespace Go.Ax
open Go Go.RowKit

section
variable {P : Program} {kn : FuncId → Option Bool} {lo n : Nat}
theorem low_seq {c : Code} {a b : RC} (h : low P n c = some (.seq a b)) : ∃ x y, c = .seq x y ∧ low P n x = some a ∧ low P n y = some b := by
  cases c <;> simp only [low] at h <;> try (cases h; done)
  · rename_i id ops draw
    cases draw <;> simp only [cond_true, cond_false] at h
    · split at h <;> cases h
    · obtain ⟨_, h⟩ := bif_some h
      split at h <;> cases h
  · rename_i x y
    split at h <;> first | (cases h; done) | skip
    rename_i a' ha
    split at h <;> first | (cases h; done) | skip
    rename_i b' hb
    cases h
    exact ⟨x, y, rfl, ha, hb⟩
  · split at h <;> first | (cases h; done) | skip
    split at h <;> cases h
  · split at h <;> cases h
theorem low_block {c : Code} {id : Nat} {a : RC} (h : low P n c = some (.block id a)) : ∃ x, c = .block id x ∧ low P n x = some a := by
  cases c <;> simp only [low] at h <;> try (cases h; done)
  · rename_i id ops draw
    cases draw <;> simp only [cond_true, cond_false] at h
    · split at h <;> cases h
    · obtain ⟨_, h⟩ := bif_some h
      split at h <;> cases h
  · split at h <;> first | (cases h; done) | skip
    split at h <;> cases h
  · split at h <;> first | (cases h; done) | skip
    split at h <;> cases h
  · rename_i id' x
    split at h <;> first | (cases h; done) | skip
    rename_i a' ha
    cases h
    exact ⟨x, rfl, ha⟩
theorem low_other {c d : Code} (h : low P n c = some (.other d)) : c = d := by
  cases c <;> simp only [low] at h <;> try (cases h; done)
  · rename_i id ops draw
    cases draw <;> simp only [cond_true, cond_false] at h
    · split at h <;> cases h
    · obtain ⟨_, h⟩ := bif_some h
      split at h <;> cases h
  · split at h <;> first | (cases h; done) | skip
    split at h <;> cases h
  · split at h <;> first | (cases h; done) | skip
    split at h <;> cases h
  · split at h <;> cases h
  · cases h; rfl
  · cases h; rfl
theorem TriR.lowR {c : Code} {a b : RC} {S : Rg} {H : Hp} {K : Exit → Rg → Hp → List Deferred → Prop} (hL : low P n c = some (.seq a b)) (h : wC P kn lo n false a S H fun e S' H' => match e with | .normal => ∀ y, low P n y = some b → TriR P kn lo n y S' H' K | e => K e S' H' []) : TriR P kn lo n c S H K := by
  obtain ⟨x, y, rfl, hx, hy⟩ := low_seq hL
  refine TriR.seqR ((wC_sound false x hx h).mono fun e S' H' q => ?_)
  cases e with
  | normal => exact q y hy
  | _ => exact q
theorem TriR.lowL {c : Code} {a b : RC} {S : Rg} {H : Hp} {K : Exit → Rg → Hp → List Deferred → Prop} (hL : low P n c = some (.seq a b)) (h : ∀ x, low P n x = some a → TriR P kn lo n x S H fun e S' H' D => match e with | .normal => wC P kn lo n false b S' H' (fun e S2 H2 => K e S2 H2 D) | e => K e S' H' D) : TriR P kn lo n c S H K := by
  obtain ⟨x, y, rfl, hx, hy⟩ := low_seq hL
  refine TriR.seqL fun A h1 h2 h3 h4 => ?_
  obtain ⟨e, S', H', T', D, q, r⟩ := h x hx A h1 h2 h3 h4
  refine ⟨e, S', H', T', D, ?_, r⟩
  cases e with
  | normal => exact wC_sound false y hy q
  | _ => exact q
theorem TriR.lowB {c : Code} {id : Nat} {d : Code} {S : Rg} {H : Hp} {K : Exit → Rg → Hp → List Deferred → Prop} (hL : low P n c = some (.block id (.other d))) (h : TriR P kn lo n d S H fun e S' H' D => match e with | .exit j => (bif Nat.beq j id then K .normal S' H' D else K (.exit j) S' H' D) | e => K e S' H' D) : TriR P kn lo n c S H K := by
  obtain ⟨x, rfl, hx⟩ := low_block hL
  have := low_other hx
  subst this
  exact TriR.block h
theorem fnX_lowR {f : FuncId} {fn : Func} {R : RC} {n : Nat} {rs : List ResultVar} {args : List Value} {H : Hp} {Q : Value → Hp → Prop} (hf : P.funcs[f]? = some fn) (hb : fn.body = some (at_ fn [])) (hn : fn.ntmps = n) (hz : fn.results.toList = rs) (hL : low P fn.ntmps (at_ fn []) = some R) (hl : args.length ≤ n)
    (h : ∀ y, low P n y = some R → TriR P kn lo n y (argS args 0) H fun e S' H' D => (match e with | .normal => True | .ret => True | _ => False) ∧
      ((D = [] ∧ ∃ vs, resS P S' H' rs = some vs ∧ Q (retV vs) H') ∨
        ∃ r, D = [{ target := .collected r, args := #[] }] ∧ lo ≤ r ∧ H'.t.get r = some (.dfr (some [])) ∧ ∀ H2, H2.next = H'.next → (∀ b, b ≠ r → H2.t.get b = H'.t.get b) → ∃ vs, resS P S' H2 rs = some vs ∧ Q (retV vs) H2)) :
    ∃ v H', FnX P kn lo f args H v H' ∧ Q v H' := by
  subst hn hz
  exact fnX_of_triR hf hb hl (h _ hL)
theorem load_one {t : TypeId} (ht : isAggB P t = some false) {H : Hp} {b : Nat} {v : Value} (h : Rd H b [v]) : loadV P H t ⟨b, 0, none⟩ = some v := by
  unfold loadV
  simp only [h.of, ht]
  rfl
end
end Go.Ax

/-! Lemmas of no seat (gathered by program). -/
namespace Go.Ax
open Go Go.RowKit

abbrev pt (b : Nat) : Value := .pointer (some ⟨b, 0, none⟩)
abbrev iv (x : Int) : Value := .int .i64 x
abbrev unit : Value := .tuple #[]
abbrev spv (a b : Int) : Value := .agg #[iv a, iv b]
theorem condT {A B : Prop} (h : A) : (true = true → A) ∧ (true = false → B) := ⟨fun _ => h, fun q => Bool.noConfusion q⟩
theorem condF {A B : Prop} (h : B) : (false = true → A) ∧ (false = false → B) := ⟨fun q => Bool.noConfusion q, fun _ => h⟩
theorem get_lt {α : Type} {l : List α} {i : Nat} {x : α} (h : l[i]? = some x) : i < l.length := by
  rcases Nat.lt_or_ge i l.length with q | q
  · exact q
  · rw [List.getElem?_eq_none q] at h; cases h
theorem get_some {α : Type} {l : List α} {i : Nat} (h : i < l.length) : ∃ x, l[i]? = some x := ⟨l[i], List.getElem?_eq_getElem h⟩
theorem ints_at {us : List Int} {i : Nat} {x : Int} (h : us[i]? = some x) : (ints us)[0 + i * 1]? = some (iv x) := by
  rw [Nat.zero_add, Nat.mul_one]; simp [ints, h]
theorem all_step {α : Type} {f : α → Bool} {l : List α} {i : Nat} {x : α} (h : l[i]? = some x) : (l.take (i + 1)).all f = ((l.take i).all f && f x) := by
  have hi := get_lt h
  rw [List.getElem?_eq_getElem hi] at h
  cases h
  rw [List.take_succ_eq_append_getElem hi, List.all_append]
  simp
theorem take_fail {α : Type} {f : α → Bool} {l : List α} {i n : Nat} {x : α} (h : l[i]? = some x) (hi : i < n) (hx : f x = false) : (l.take n).all f = false := by
  rw [List.all_eq_false]
  exact ⟨x, List.mem_of_getElem? (i := i) (by rw [List.getElem?_take, if_pos hi]; exact h), by rw [hx]; decide⟩
theorem all_fail {α : Type} {f : α → Bool} {l : List α} {i : Nat} {x : α} (h : l[i]? = some x) (hx : f x = false) : l.all f = false := by
  rw [List.all_eq_false]; exact ⟨x, List.mem_of_getElem? h, by simp [hx]⟩
section
variable {P : Program} {kn : FuncId → Option Bool} {lo : Nat} {H : Hp}
theorem putRow_all : ∀ (z vs pre : List Value), z.length = vs.length → putRow (pre ++ z) pre.length vs = pre ++ vs
  | [], [], pre, _ => by simp [putRow]
  | [], _ :: _, _, h => by simp at h
  | _ :: _, [], _, h => by simp at h
  | y :: z, v :: vs, pre, h => by
    rw [putRow, List.set_append_right _ _ (Nat.le_refl _), Nat.sub_self, List.set_cons_zero]
    have := putRow_all z vs (pre ++ [v]) (by simpa using h)
    simp only [List.append_assoc, List.singleton_append, List.length_append, List.length_singleton] at this
    exact this
theorem heap_build1 {n : Nat} {S : Rg} {H : Hp} {d : Option Tmp} {t e ty : TypeId} {p : String} {size : Nat} {z v : Value} {x : Operand} (he : sliceElem P t = some (e, size)) (hz : zeroOf P e = some z) (hzs : z.cells.toList.length = size) (hx : evS S x = some v) (hv : v.cells.toList.length = size) (hs : size ≤ 16777216) :
    heapOp P lo (frS n S) H ⟨d, .buildSlice t 1 #[(0, x)], ty, p, #[], none⟩ = some (.val (.slice (some ⟨H.next, 0, none⟩) 1 1) (H.new (.cells v.cells.toList e false)), .heavy) := by
  have hp := putRow_all z.cells.toList v.cells.toList [] (by rw [hzs, hv])
  simp only [List.nil_append, List.length_nil] at hp
  have h2 : Nat.ble (0 + size) z.cells.toList.length = true := Nat.ble_eq_true_of_le (by rw [hzs]; omega)
  unfold heapOp
  simp only [partsOf, ev_frS, hx, he, hz, Nat.one_mul, Nat.ble_eq_true_of_le hs, cond_true, zeros, List.append_nil, fillL, Nat.zero_mul, hv, Nat.beq_refl, h2, Bool.and_self, hp]
end
theorem Cl.sl {H : Hp} {b n cap : Nat} {cs : List Value} (h : Cl H b cs) (hn : n ≤ cap) : Sl H (some ⟨b, 0, none⟩) n cap cs := .inr ⟨b, rfl, h.rd, hn⟩
theorem row_get {n : Nat} {cs l : List Value} {i j : Nat} {v : Value} (h : row n cs i = some l) (hj : l[j]? = some v) : cs[i + j]? = some v := by
  obtain ⟨e, hl⟩ := row_some h
  have hjl := get_lt hj
  rw [e, List.getElem?_take, if_pos (by omega), List.getElem?_drop] at hj
  exact hj
/-- What append has made so far, one by one: nothing, or a block that is full. -/
def Acc (lo f : Nat) (e : TypeId) (H : Hp) (v : Value) (n : Nat) (cs : List Value) : Prop :=
  (n = 0 ∧ cs = [] ∧ v = .slice none 0 0) ∨ ∃ b, v = .slice (some ⟨b, 0, none⟩) n n ∧ 0 < n ∧ f ≤ b ∧ lo ≤ b ∧ b < H.next ∧ H.t.get b = some (.cells cs e true)
theorem Acc.sl {lo f : Nat} {e : TypeId} {H : Hp} {v : Value} {n : Nat} {cs : List Value} (h : Acc lo f e H v n cs) : ∃ a cap, v = .slice a n cap ∧ Sl H a n cap cs ∧ ∀ b, a = some ⟨b, 0, none⟩ → f ≤ b := by
  rcases h with ⟨rfl, rfl, rfl⟩ | ⟨b, rfl, h0, hf, hl, hn, hg⟩
  · exact ⟨none, 0, rfl, .inl ⟨.inl rfl, rfl, rfl, rfl⟩, fun b e => by cases e⟩
  · refine ⟨_, _, rfl, .inr ⟨b, rfl, ⟨hn, ?_⟩, Nat.le_refl _⟩, fun b e => by cases e; exact hf⟩
    unfold cellsOf; rw [hg]
theorem Acc.keep {lo f : Nat} {e : TypeId} {H H1 : Hp} {v : Value} {n : Nat} {cs : List Value} (h : Acc lo f e H v n cs) (k : Keep H H1 []) : Acc lo f e H1 v n cs :=
  h.imp id fun ⟨b, e1, h0, hf, hl, hn, hg⟩ => ⟨b, e1, h0, hf, hl, Nat.lt_of_lt_of_le hn k.1, by rw [k.2 b hn (by simp)]; exact hg⟩
section
variable {P : Program} {lo : Nat}
theorem heap_append_one {H : Hp} {t0 t1 e ep : TypeId} {size k cap2 f : Nat} {a : Option Addr} {v : Value} {cs news : List Value} (he : sliceElem P t0 = some (e, size)) (ht : P.underlying t1 = some (.slice ep))
    (hs : Sl H a 1 cap2 news) (hl : news.length = 1 * size) (hz : 0 < size) (hone : news.all one = true) (hcl : cs.length = k * size) (hk : k < 1000) (ha : Acc lo f e H v k cs) (hlo : lo ≤ H.next) (hf : f ≤ H.next) :
    ∃ H1 kd, (∀ (n : Nat) (S : Rg) (d : Option Tmp) (x y : Operand) (ty : TypeId) (p : String), evS S x = some v → evS S y = some (.slice a 1 cap2) → heapOp P lo (frS n S) H ⟨d, .call ⟨.builtin .append, #[x, y], #[t0, t1]⟩, ty, p, #[], none⟩ = some (.val (.slice (some ⟨H.next, 0, none⟩) (k + 1) (k + 1)) H1, kd)) ∧ (kd = .heavy ∨ ∃ b, kd = .store b ∧ f ≤ b) ∧
      Acc lo f e H1 (.slice (some ⟨H.next, 0, none⟩) (k + 1) (k + 1)) (k + 1) (cs ++ news) ∧ (∀ F : Hp, F.next = f → Keep F H [] → Keep F H1 []) := by
  rcases ha with ⟨rfl, rfl, rfl⟩ | ⟨b, rfl, h0, hb, hlb, hn, hg⟩
  · refine ⟨H.new (.cells news e true), .heavy, ?_, .inl rfl, ?_, ?_⟩
    · intro n S d x y ty p hx hy
      unfold heapOp
      simp only [evs, ev_frS, hx, hy, builtinV, List.getElem?_toArray, List.getElem?_cons_zero, List.getElem?_cons_succ, he, ht, src_of hs hl, appendV]
      rfl
    · refine .inr ⟨H.next, rfl, by omega, hf, hlo, Nat.lt_succ_self _, ?_⟩
      show (H.t.set H.next _).get H.next = _
      rw [Tr.get_set, if_pos rfl]; rfl
    · intro F hF kF
      exact kF.trans (new_facts rfl).1
  · have h1 : Nat.ble (0 + (k + 1) * size) cs.length = false := by
      cases h : Nat.ble (0 + (k + 1) * size) cs.length with
      | false => rfl
      | true => have := Nat.le_of_ble_eq_true h; rw [hcl, Nat.succ_mul] at this; omega
    have h2 : Nat.beq (0 + k * size) cs.length = true := by rw [hcl, Nat.zero_add]; exact Nat.beq_refl _
    have h3 : Nat.ble (k + 1) 1048576 = true := Nat.ble_eq_true_of_le (by omega)
    have h4 : Nat.beq e e = true := Nat.beq_refl e
    refine ⟨({ H with t := H.t.set b .dead } : Hp).new (.cells (cs ++ news) e true), .store b, ?_, .inr ⟨b, rfl, hb⟩, ?_, ?_⟩
    · intro n S d x y ty p hx hy
      unfold heapOp
      simp only [evs, ev_frS, hx, hy, builtinV, List.getElem?_toArray, List.getElem?_cons_zero, List.getElem?_cons_succ, he, ht, src_of hs hl, appendV, hg, h1, h2, h3, h4, hone, Nat.ble_eq_true_of_le hlb, Bool.and_self, cond_true, cond_false, List.drop_zero, show Nat.beq 1 0 = false from rfl]
    · refine .inr ⟨H.next, rfl, by omega, hf, hlo, Nat.lt_succ_self _, ?_⟩
      show ((H.t.set b .dead).set H.next _).get H.next = _
      rw [Tr.get_set, if_pos rfl]
    · intro F hF kF
      refine ⟨Nat.le_trans kF.1 (Nat.le_succ _), fun c hc _ => ?_⟩
      have := kF.1
      show ((H.t.set b .dead).set H.next _).get c = _
      rw [Tr.get_set, if_neg (by omega), Tr.get_set, if_neg (by omega)]
      exact kF.2 c hc (by simp)
end
theorem reg_ok {kd : Kd} {f : Nat} (h : kd = .heavy ∨ ∃ b, kd = .store b ∧ f ≤ b) (n : Nat) : ∀ b, kd = .read b → b < n := by
  rcases h with rfl | ⟨b, rfl, _⟩ <;> intro c e <;> cases e
theorem Acc.keepW {lo f : Nat} {e : TypeId} {H H1 : Hp} {v : Value} {n x : Nat} {cs : List Value} (h : Acc lo f e H v n cs) (k : Keep H H1 [x]) (hx : x < f) : Acc lo f e H1 v n cs :=
  h.imp id fun ⟨b, e1, h0, hf, hl, hn, hg⟩ => ⟨b, e1, h0, hf, hl, Nat.lt_of_lt_of_le hn k.1, by rw [k.2 b hn (by simp; omega)]; exact hg⟩
theorem load_agg {P : Program} {t : TypeId} {n : Nat} (ht : isAggB P t = some true) (hi : ∃ i, P.info? t = some i ∧ i.size = n) {H : Hp} {b : Nat} {cs : List Value} (h : Rd H b cs) (hl : cs.length = n) : loadV P H t ⟨b, 0, none⟩ = some (.agg cs.toArray) := by
  obtain ⟨i, h1, h2⟩ := hi
  have hr : row i.size cs 0 = some cs := by
    unfold row
    rw [h2, ← hl]
    simp [beq_eq]
  unfold loadV
  simp only [h.of, ht, h1, hr]
theorem Sl.old {H : Hp} {a : Option Addr} {n c : Nat} {cs : List Value} (h : Sl H a n c cs) (b : Nat) (e : a = some ⟨b, 0, none⟩) : b < H.next := by
  rcases h with ⟨h | h, _⟩ | ⟨b', e', h, _⟩
  · rw [h] at e; cases e
  · rw [h] at e; cases e
  · rw [e'] at e; cases e; exact h.lt
/-- what lies below f stays -/
def KeepB (f : Nat) (H H1 : Hp) : Prop := H.next ≤ H1.next ∧ ∀ b, b < f → H1.t.get b = H.t.get b
theorem KeepB.keep {f : Nat} {F H H1 : Hp} {l : List Nat} (h : KeepB f H H1) (k : Keep F H l) (hf : F.next ≤ f) : Keep F H1 l :=
  ⟨Nat.le_trans k.1 h.1, fun b hb hl => (h.2 b (Nat.lt_of_lt_of_le hb hf)).trans (k.2 b hb hl)⟩
theorem KeepB.cl {f : Nat} {H H1 : Hp} {b : Nat} {cs : List Value} (h : KeepB f H H1) (hc : Cl H b cs) (hb : b < f) : Cl H1 b cs := by
  obtain ⟨h1, e, lz, h2⟩ := hc
  exact ⟨Nat.lt_of_lt_of_le h1 h.1, e, lz, by rw [h.2 b hb]; exact h2⟩
theorem KeepB.rd {f : Nat} {H H1 : Hp} {b : Nat} {cs : List Value} (h : KeepB f H H1) (hc : Rd H b cs) (hb : b < f) : Rd H1 b cs := by
  obtain ⟨h1, h2⟩ := hc
  exact ⟨Nat.lt_of_lt_of_le h1 h.1, by unfold cellsOf at h2 ⊢; rw [h.2 b hb]; exact h2⟩
theorem heap_append_below {P : Program} {lo : Nat} {H : Hp} {t0 t1 e ep : TypeId} {size k cap2 f : Nat} {a : Option Addr} {v : Value} {cs news : List Value} (he : sliceElem P t0 = some (e, size)) (ht : P.underlying t1 = some (.slice ep))
    (hs : Sl H a 1 cap2 news) (hl : news.length = 1 * size) (hz : 0 < size) (hone : news.all one = true) (hcl : cs.length = k * size) (hk : k < 1000) (ha : Acc lo f e H v k cs) (hlo : lo ≤ H.next) (hf : f ≤ H.next) :
    ∃ H1 kd, (∀ (n : Nat) (S : Rg) (d : Option Tmp) (x y : Operand) (ty : TypeId) (p : String), evS S x = some v → evS S y = some (.slice a 1 cap2) → heapOp P lo (frS n S) H ⟨d, .call ⟨.builtin .append, #[x, y], #[t0, t1]⟩, ty, p, #[], none⟩ = some (.val (.slice (some ⟨H.next, 0, none⟩) (k + 1) (k + 1)) H1, kd)) ∧ (kd = .heavy ∨ ∃ b, kd = .store b ∧ f ≤ b) ∧
      Acc lo f e H1 (.slice (some ⟨H.next, 0, none⟩) (k + 1) (k + 1)) (k + 1) (cs ++ news) ∧ KeepB f H H1 := by
  obtain ⟨H1, kd, h1, h2, h3, h4⟩ := heap_append_one he ht hs hl hz hone hcl hk ha hlo hf
  refine ⟨H1, kd, h1, h2, h3, ?_⟩
  have h5 := h4 { H with next := f } rfl ⟨hf, fun b _ _ => rfl⟩
  refine ⟨?_, fun b hb => h5.2 b hb (by simp)⟩
  rcases h3 with ⟨h0, _⟩ | ⟨b, e, _, _, _, hn, _⟩
  · omega
  · cases e; omega
theorem new_get {H H1 : Hp} {o : Ob} (h : H.new o = H1) : H1.t.get H.next = some o := by
  subst h
  show (H.t.set H.next _).get H.next = _
  rw [Tr.get_set, if_pos rfl]
theorem KeepB.sl {f : Nat} {H H1 : Hp} {a : Option Addr} {n c : Nat} {cs : List Value} (h : KeepB f H H1) (hc : Sl H a n c cs) (hb : ∀ b, a = some ⟨b, 0, none⟩ → b < f) : Sl H1 a n c cs :=
  hc.imp id fun ⟨b, e, r, q⟩ => ⟨b, e, h.rd r (hb b e), q⟩
/-- What append has made out of a new block without elements: nothing, or a block that is full. -/
def AccB (b0 lo f : Nat) (e : TypeId) (H : Hp) (v : Value) (n : Nat) (cs : List Value) : Prop :=
  (n = 0 ∧ cs = [] ∧ v = .slice (some ⟨b0, 0, none⟩) 0 0 ∧ b0 < H.next ∧ ∃ e0, H.t.get b0 = some (.cells [] e0 false)) ∨ ∃ b, v = .slice (some ⟨b, 0, none⟩) n n ∧ 0 < n ∧ f ≤ b ∧ lo ≤ b ∧ b < H.next ∧ H.t.get b = some (.cells cs e true)
theorem AccB.keep {b0 lo f : Nat} {e : TypeId} {H H1 : Hp} {v : Value} {n : Nat} {cs : List Value} (h : AccB b0 lo f e H v n cs) (k : Keep H H1 []) : AccB b0 lo f e H1 v n cs :=
  h.imp (fun ⟨h1, h2, h3, h4, e0, h5⟩ => ⟨h1, h2, h3, Nat.lt_of_lt_of_le h4 k.1, e0, by rw [k.2 b0 h4 (by simp)]; exact h5⟩) fun ⟨b, e1, h0, hf, hl, hn, hg⟩ => ⟨b, e1, h0, hf, hl, Nat.lt_of_lt_of_le hn k.1, by rw [k.2 b hn (by simp)]; exact hg⟩
section
variable {P : Program} {lo : Nat}
theorem heap_append_first {H : Hp} {t0 t1 e ep e0 : TypeId} {size m cap b0 f : Nat} {a : Option Addr} {cs : List Value} (he : sliceElem P t0 = some (e, size)) (ht : P.underlying t1 = some (.slice ep)) (hs : Sl H a m cap cs) (hl : cs.length = m * size) (hm : m ≤ 1000) (hz : 0 < size)
    (h0 : H.t.get b0 = some (.cells [] e0 false)) (hb : b0 < H.next) (hlo : lo ≤ H.next) (hf : f ≤ H.next) (hfb : f ≤ b0) :
    ∃ v H1 kd, (∀ (n : Nat) (S : Rg) (d : Option Tmp) (x y : Operand) (ty : TypeId) (p : String), evS S x = some (.slice (some ⟨b0, 0, none⟩) 0 0) → evS S y = some (.slice a m cap) → heapOp P lo (frS n S) H ⟨d, .call ⟨.builtin .append, #[x, y], #[t0, t1]⟩, ty, p, #[], none⟩ = some (.val v H1, kd)) ∧ (kd = .pure ∨ kd = .heavy) ∧
      AccB b0 lo f e H1 v m cs ∧ Keep H H1 [] := by
  rcases Nat.eq_zero_or_pos m with rfl | hp
  · have hc : cs = [] := by cases cs with | nil => rfl | cons _ _ => simp at hl
    exact ⟨_, H, .pure, fun n S d x y ty p hx hy => heap_append_none he ht hx hy hs (by rw [hl]; simp), .inl rfl, .inl ⟨rfl, hc, rfl, hb, e0, h0⟩, Keep.refl _ _⟩
  · exact ⟨_, _, .heavy, fun n S d x y ty p hx hy => heap_append_empty he ht h0 hx hy hs hl (by omega) hp, .inr rfl, .inr ⟨H.next, rfl, hp, hf, hlo, (new_facts rfl).2.2.1, new_get rfl⟩, (new_facts rfl).1⟩
theorem heap_append_next {H : Hp} {t0 t1 e ep : TypeId} {size k cap2 f b0 : Nat} {a : Option Addr} {v : Value} {cs news : List Value} (he : sliceElem P t0 = some (e, size)) (ht : P.underlying t1 = some (.slice ep))
    (hs : Sl H a 1 cap2 news) (hl : news.length = 1 * size) (hz : 0 < size) (hone : news.all one = true) (hcl : cs.length = k * size) (hk : k < 1000) (ha : AccB b0 lo f e H v k cs) (hlo : lo ≤ H.next) (hf : f ≤ H.next) :
    ∃ H1 kd, (∀ (n : Nat) (S : Rg) (d : Option Tmp) (x y : Operand) (ty : TypeId) (p : String), evS S x = some v → evS S y = some (.slice a 1 cap2) → heapOp P lo (frS n S) H ⟨d, .call ⟨.builtin .append, #[x, y], #[t0, t1]⟩, ty, p, #[], none⟩ = some (.val (.slice (some ⟨H.next, 0, none⟩) (k + 1) (k + 1)) H1, kd)) ∧ (kd = .heavy ∨ ∃ b, kd = .store b ∧ f ≤ b) ∧
      Acc lo f e H1 (.slice (some ⟨H.next, 0, none⟩) (k + 1) (k + 1)) (k + 1) (cs ++ news) ∧ KeepB f H H1 := by
  rcases ha with ⟨rfl, rfl, rfl, hb, e0, h0⟩ | ha
  · refine ⟨_, .heavy, fun n S d x y ty p hx hy => heap_append_empty he ht h0 hx hy hs hl (by decide) (by decide), .inl rfl, .inr ⟨H.next, rfl, by omega, hf, hlo, (new_facts rfl).2.2.1, new_get rfl⟩, ?_⟩
    exact ⟨(new_facts rfl).1.1, fun b hb => (new_facts rfl).1.2 b (by omega) (by simp)⟩
  · exact heap_append_below he ht hs hl hz hone hcl hk (.inr ha) hlo hf
end
def spc (ss : List (Int × Int)) : List Value := ss.flatMap fun s => [Value.int .i64 s.1, Value.int .i64 s.2]
theorem spc_row {ss : List (Int × Int)} {i : Nat} {s : Int × Int} (h : ss[i]? = some s) : row 2 (spc ss) (0 + i * 2) = some [Value.int .i64 s.1, Value.int .i64 s.2] := row_flat (f := fun s : Int × Int => [Value.int .i64 s.1, Value.int .i64 s.2]) (size := 2) (fun _ _ => rfl) h
theorem spc_len (ss : List (Int × Int)) : (spc ss).length = ss.length * 2 := by
  unfold spc
  rw [flat_len (size := 2) (fun _ _ => rfl)]
theorem span_get {ss : List (Int × Int)} {k : Nat} {l h : Int} (hx : ss[k]? = some (l, h)) : (spc ss)[0 + k * 2 + 0]? = some (Value.int .i64 l) ∧ (spc ss)[0 + k * 2 + 1]? = some (Value.int .i64 h) :=
  ⟨row_get (j := 0) (spc_row hx) rfl, row_get (j := 1) (spc_row hx) rfl⟩

end Go.Ax

/-! Steps of drawn regions: comparisons. -/
namespace Go.Ax
open Go Go.RowKit
section
variable {P : Program} {kn : FuncId → Option Bool} {lo n : Nat} {masks : List Nat} {r : List RO} {ks : List Kd} {S : Rg} {H : Hp} {K : Rg → Hp → Prop} {d : Option Nat} {x y : Operand} {a b : Int}
theorem wD_c_lss (hx : evS S x = some (.int .i64 a)) (hy : evS S y = some (.int .i64 b)) (h : wDraw P kn lo n masks r (.pure :: ks) (putS S d (.bool (decide (a < b)))) H K) : wDraw P kn lo n masks (⟨d, none, .cmp .lss x y⟩ :: r) ks S H K := by
  simp only [wDraw, wRO, wRI, hx, hy]; exact h
theorem wD_b_leq (hx : evS S x = some (.int .i64 a)) (hy : evS S y = some (.int .i64 b)) (h : ∀ t, (decide (a ≤ b)) = t → wDraw P kn lo n masks r (.pure :: ks) (putS S d (.bool t)) H K) : wDraw P kn lo n masks (⟨d, none, .cmpb .leq x y⟩ :: r) ks S H K := by
  simp only [wDraw, wRO, wRI, hx, hy]; exact h
theorem wD_b_gtr (hx : evS S x = some (.int .i64 a)) (hy : evS S y = some (.int .i64 b)) (h : ∀ t, (decide (a > b)) = t → wDraw P kn lo n masks r (.pure :: ks) (putS S d (.bool t)) H K) : wDraw P kn lo n masks (⟨d, none, .cmpb .gtr x y⟩ :: r) ks S H K := by
  simp only [wDraw, wRO, wRI, hx, hy]; exact h
theorem wD_c_neq (hx : evS S x = some (.int .i64 a)) (hy : evS S y = some (.int .i64 b)) (h : wDraw P kn lo n masks r (.pure :: ks) (putS S d (.bool (a != b))) H K) : wDraw P kn lo n masks (⟨d, none, .cmp .neq x y⟩ :: r) ks S H K := by
  simp only [wDraw, wRO, wRI, hx, hy]; exact h
theorem wD_gu {g : Nat} {t : Bool} {vs : Array Value} {ri : RI} (hg : lk S g = some (.tuple vs)) (h : wDraw P kn lo n masks r (.pure :: ks) (putS S d undef) H K) : wDraw P kn lo n masks (⟨d, some (g, t), ri⟩ :: r) ks S H K := by
  simp only [wDraw, wRO, hg]; exact h
end
end Go.Ax

/-
  Late: a forecast, a flood, its days: the numbers.
-/
namespace Go.Ax
open Go Go.RowKit

def inB (n a b : Int) : Bool := decide (a ≤ n) && decide (n ≤ b)
def spanB (a b l m : Int) : Bool := decide (l ≤ a) && decide (a ≤ b) && decide (b ≤ m)
/-- a number of a span by a remainder -/
def inn (l h m : Int) : Int := l + m % (h - l + 1)
theorem inn_in {l h m : Int} (hle : l ≤ h) : l ≤ inn l h m ∧ inn l h m ≤ h := by
  unfold inn
  have h1 := Int.emod_nonneg m (show h - l + 1 ≠ 0 by omega)
  have h2 := Int.emod_lt_of_pos m (show 0 < h - l + 1 by omega)
  omega
def remAt (us : List Nat) (i : Nat) : Int := (us.getD (i % us.length) 0 : Nat)
theorem mul_rng {a b p q : Int} (ha : 0 ≤ a ∧ a ≤ p) (hb : 0 ≤ b ∧ b ≤ q) : 0 ≤ a * b ∧ a * b ≤ p * q :=
  ⟨Int.mul_nonneg ha.1 hb.1, Int.le_trans (Int.mul_le_mul_of_nonneg_right ha.2 hb.1) (Int.mul_le_mul_of_nonneg_left hb.2 (by omega))⟩

/-- A forecast. -/
structure Lt where
  wa : Option Addr
  wn : Nat
  wcap : Nat
  ws : List (Int × Int)
  aa : Option Addr
  an : Nat
  acap : Nat
  as : List (Int × Int)
  r1 : Int
  r2 : Int
  f1 : Int
  f2 : Int
  g1 : Int
  g2 : Int
  full : Int
  base : Int
  kill : Int
  need : Int
  bear : Int
abbrev Lt.v (g : Lt) : List Value := [.slice g.wa g.wn g.wcap, .slice g.aa g.an g.acap, iv g.r1, iv g.r2, iv g.f1, iv g.f2, iv g.g1, iv g.g2, iv g.full, iv g.base, iv g.kill, iv g.need, iv g.bear]
def Lt.ok (g : Lt) : Bool := decide (g.wn = g.an) && decide (g.wn ≤ 40) && (g.ws.all fun s => spanB s.1 s.2 0 5000) && (g.as.all fun s => spanB s.1 s.2 0 20000) && spanB g.r1 g.r2 0 1000 && inB g.full 0 20000 && spanB g.f1 g.f2 0 g.full && spanB g.g1 g.g2 0 g.full && inB g.base 0 5000 && inB g.kill 0 1048576 && inB g.need 0 20000 && inB g.bear 0 40
/-- What a valid forecast is. -/
structure Lt.Vd (g : Lt) : Prop where
  n : g.wn = g.an
  n40 : g.wn ≤ 40
  wl : g.ws.length = g.wn
  al : g.as.length = g.an
  w : ∀ s ∈ g.ws, 0 ≤ s.1 ∧ s.1 ≤ s.2 ∧ s.2 ≤ 5000
  a : ∀ s ∈ g.as, 0 ≤ s.1 ∧ s.1 ≤ s.2 ∧ s.2 ≤ 20000
  r : 0 ≤ g.r1 ∧ g.r1 ≤ g.r2 ∧ g.r2 ≤ 1000
  fu : 0 ≤ g.full ∧ g.full ≤ 20000
  f : 0 ≤ g.f1 ∧ g.f1 ≤ g.f2 ∧ g.f2 ≤ g.full
  gr : 0 ≤ g.g1 ∧ g.g1 ≤ g.g2 ∧ g.g2 ≤ g.full
  b : 0 ≤ g.base ∧ g.base ≤ 5000
  k : 0 ≤ g.kill ∧ g.kill ≤ 1048576
  ne : 0 ≤ g.need ∧ g.need ≤ 20000
  be : 0 ≤ g.bear ∧ g.bear ≤ 40
theorem Lt.vd {g : Lt} (h : g.ok = true) (hw : g.ws.length = g.wn) (ha : g.as.length = g.an) : g.Vd := by
  simp only [Lt.ok, Bool.and_eq_true, decide_eq_true_eq, List.all_eq_true, spanB, inB] at h
  obtain ⟨⟨⟨⟨⟨⟨⟨⟨⟨⟨⟨h1, h2⟩, h3⟩, h4⟩, h5⟩, h6⟩, h7⟩, h8⟩, h9⟩, h10⟩, h11⟩, h12⟩ := h
  exact ⟨h1, h2, hw, ha, fun s hs => by have := h3 s hs; omega, fun s hs => by have := h4 s hs; omega, by omega, h6, by omega, by omega, h9, h10, h11, h12⟩
def Lt.W (g : Lt) (i : Nat) : Int × Int := g.ws.getD i (0, 0)
def Lt.A (g : Lt) (i : Nat) : Int × Int := g.as.getD i (0, 0)
def Lt.loDay (g : Lt) (now : Int) (fr : Bool) (i : Nat) : Int := min (max 0 ((bif fr then g.g1 else now) + ((g.A i).1 - (g.r2 * (g.W i).2 + 99) / 100))) g.full
def Lt.hiDay (g : Lt) (now : Int) (fr : Bool) (i : Nat) : Int := min (max 0 ((bif fr then g.g2 else now) + ((g.A i).2 - g.r1 * (g.W i).1 / 100))) g.full
/-- how a flood stands behind k days -/
def Lt.lo (g : Lt) (s : Nat) (F : Nat → Bool) : Nat → Int
  | 0 => g.f1
  | k + 1 => g.loDay (g.lo s F k) (F (s + k)) (s + k)
def Lt.hi (g : Lt) (s : Nat) (F : Nat → Bool) : Nat → Int
  | 0 => g.f2
  | k + 1 => g.hiDay (g.hi s F k) (F (s + k)) (s + k)
def Lt.wl (g : Lt) (s : Nat) : Nat → Int
  | 0 => 0
  | k + 1 => g.wl s k + max 0 ((g.W (s + k)).1 - g.base)
def Lt.wh (g : Lt) (s : Nat) : Nat → Int
  | 0 => 0
  | k + 1 => g.wh s k + max 0 ((g.W (s + k)).2 - g.base)
def Lt.sl (g : Lt) (s : Nat) (F : Nat → Bool) : Nat → Int
  | 0 => 0
  | k + 1 => bif decide (g.lo s F (k + 1) < g.need) then g.sl s F k + 1 else g.sl s F k
def Lt.sm (g : Lt) (s : Nat) (F : Nat → Bool) : Nat → Int
  | 0 => 0
  | k + 1 => bif decide (g.hi s F (k + 1) < g.need) then g.sm s F k + 1 else g.sm s F k
/-- the state behind k days -/
abbrev Lt.st (g : Lt) (s : Nat) (F : Nat → Bool) (k : Nat) : List Value := [iv (k : Int), iv (g.wl s k), iv (g.wh s k), iv (g.lo s F k), iv (g.sl s F k), iv (g.hi s F k), iv (g.sm s F k)]
/-- the spans of the oxygen -/
def Lt.ox (g : Lt) (s : Nat) (F : Nat → Bool) (d : Nat) : List (Int × Int) := (List.range d).map fun k => (g.lo s F (k + 1), g.hi s F (k + 1))
section
variable {g : Lt} {s : Nat} {F : Nat → Bool}
theorem Lt.W_in (v : g.Vd) {i : Nat} (h : i < g.wn) : g.ws[i]? = some (g.W i) ∧ 0 ≤ (g.W i).1 ∧ (g.W i).1 ≤ (g.W i).2 ∧ (g.W i).2 ≤ 5000 := by
  have hl : i < g.ws.length := by rw [v.wl]; exact h
  have e : g.ws[i]? = some (g.W i) := by
    unfold Lt.W; rw [List.getD_eq_getElem?_getD, List.getElem?_eq_getElem hl]; rfl
  exact ⟨e, v.w _ (List.mem_of_getElem? e)⟩
theorem Lt.A_in (v : g.Vd) {i : Nat} (h : i < g.wn) : g.as[i]? = some (g.A i) ∧ 0 ≤ (g.A i).1 ∧ (g.A i).1 ≤ (g.A i).2 ∧ (g.A i).2 ≤ 20000 := by
  have hl : i < g.as.length := by rw [v.al, ← v.n]; exact h
  have e : g.as[i]? = some (g.A i) := by
    unfold Lt.A; rw [List.getD_eq_getElem?_getD, List.getElem?_eq_getElem hl]; rfl
  exact ⟨e, v.a _ (List.mem_of_getElem? e)⟩
theorem Lt.lo_in (v : g.Vd) : ∀ k, 0 ≤ g.lo s F k ∧ g.lo s F k ≤ g.full
  | 0 => by have := v.f; unfold Lt.lo; omega
  | k + 1 => by have := v.fu; unfold Lt.lo Lt.loDay; omega
theorem Lt.hi_in (v : g.Vd) : ∀ k, 0 ≤ g.hi s F k ∧ g.hi s F k ≤ g.full
  | 0 => by have := v.f; unfold Lt.hi; omega
  | k + 1 => by have := v.fu; unfold Lt.hi Lt.hiDay; omega
theorem Lt.wl_in (v : g.Vd) : ∀ k, s + k ≤ g.wn → 0 ≤ g.wl s k ∧ g.wl s k ≤ g.wh s k ∧ g.wh s k ≤ 5000 * k
  | 0, _ => by unfold Lt.wl Lt.wh; omega
  | k + 1, h => by
    have ih := Lt.wl_in v k (by omega)
    have hw := (Lt.W_in v (i := s + k) (by omega)).2
    have := v.b
    unfold Lt.wl Lt.wh; omega
theorem Lt.sl_in : ∀ k : Nat, 0 ≤ g.sl s F k ∧ g.sl s F k ≤ k
  | 0 => by unfold Lt.sl; omega
  | k + 1 => by
    have ih := Lt.sl_in k
    unfold Lt.sl
    cases decide (g.lo s F (k + 1) < g.need) <;> simp only [cond_true, cond_false] <;> omega
theorem Lt.sm_in : ∀ k : Nat, 0 ≤ g.sm s F k ∧ g.sm s F k ≤ k
  | 0 => by unfold Lt.sm; omega
  | k + 1 => by
    have ih := Lt.sm_in k
    unfold Lt.sm
    cases decide (g.hi s F (k + 1) < g.need) <;> simp only [cond_true, cond_false] <;> omega
theorem Lt.ox_len (d : Nat) : (g.ox s F d).length = d := by simp [Lt.ox]
theorem Lt.ox_get {d i : Nat} (h : i < d) : (g.ox s F d)[i]? = some (g.lo s F (i + 1), g.hi s F (i + 1)) := by simp [Lt.ox, h]
theorem Lt.ox_succ (d : Nat) : g.ox s F (d + 1) = g.ox s F d ++ [(g.lo s F (d + 1), g.hi s F (d + 1))] := by simp [Lt.ox, List.range_succ]
end

/-- What is true, by remainders. -/
def Lt.tw (g : Lt) (us : List Nat) (i : Nat) : Int := inn (g.W i).1 (g.W i).2 (remAt us i)
def Lt.tu (g : Lt) (us : List Nat) (i : Nat) : Int := inn (g.r1 * g.tw us i / 100) ((g.r2 * g.tw us i + 99) / 100) (remAt us (i + 3))
def Lt.tn (g : Lt) (us : List Nat) (s : Nat) (F : Nat → Bool) : Nat → Int
  | 0 => inn g.f1 g.f2 (remAt us 0)
  | k + 1 => max 0 (min g.full ((bif F (s + k) then inn g.g1 g.g2 (remAt us (s + k + 1)) else g.tn us s F k) + (inn (g.A (s + k)).1 (g.A (s + k)).2 (remAt us (s + k + 2)) - g.tu us (s + k))))
def Lt.ts (g : Lt) (us : List Nat) (s : Nat) : Nat → Int
  | 0 => 0
  | k + 1 => g.ts us s k + max 0 (g.tw us (s + k) - g.base)
def Lt.tb (g : Lt) (us : List Nat) (s : Nat) (F : Nat → Bool) : Nat → Int
  | 0 => 0
  | k + 1 => bif decide (g.tn us s F (k + 1) < g.need) then g.tb us s F k + 1 else g.tb us s F k
section
variable {g : Lt} {us : List Nat} {s : Nat} {F : Nat → Bool}
theorem Lt.tw_in (v : g.Vd) {i : Nat} (h : i < g.wn) : (g.W i).1 ≤ g.tw us i ∧ g.tw us i ≤ (g.W i).2 := inn_in (Lt.W_in v h).2.2.1
theorem Lt.tu_ends (v : g.Vd) {i : Nat} (h : i < g.wn) : g.r1 * (g.W i).1 / 100 ≤ g.r1 * g.tw us i / 100 ∧ g.r1 * g.tw us i / 100 ≤ (g.r2 * g.tw us i + 99) / 100 ∧ (g.r2 * g.tw us i + 99) / 100 ≤ (g.r2 * (g.W i).2 + 99) / 100 := by
  have hw := Lt.tw_in (us := us) v h
  have hW := (Lt.W_in v h).2
  have r := v.r
  have e1 : g.r1 * (g.W i).1 ≤ g.r1 * g.tw us i := Int.mul_le_mul_of_nonneg_left hw.1 r.1
  have e2 : g.r1 * g.tw us i ≤ g.r2 * g.tw us i := Int.mul_le_mul_of_nonneg_right r.2.1 (by omega)
  have e3 : g.r2 * g.tw us i ≤ g.r2 * (g.W i).2 := Int.mul_le_mul_of_nonneg_left hw.2 (by omega)
  generalize g.r1 * (g.W i).1 = p1 at *
  generalize g.r1 * g.tw us i = p2 at *
  generalize g.r2 * g.tw us i = p3 at *
  generalize g.r2 * (g.W i).2 = p4 at *
  omega
theorem Lt.tu_in (v : g.Vd) {i : Nat} (h : i < g.wn) : g.r1 * (g.W i).1 / 100 ≤ g.tu us i ∧ g.tu us i ≤ (g.r2 * (g.W i).2 + 99) / 100 := by
  have h1 := Lt.tu_ends (us := us) v h
  have := inn_in (m := remAt us (i + 3)) h1.2.1
  unfold Lt.tu
  omega
theorem Lt.tn_in (v : g.Vd) : ∀ k, s + k ≤ g.wn → g.lo s F k ≤ g.tn us s F k ∧ g.tn us s F k ≤ g.hi s F k
  | 0, _ => inn_in v.f.2.1
  | k + 1, h => by
    have ih := Lt.tn_in v k (by omega)
    have hu := Lt.tu_in (us := us) v (i := s + k) (by omega)
    have ha := inn_in (m := remAt us (s + k + 2)) (Lt.A_in v (i := s + k) (by omega)).2.2.1
    have hg := inn_in (m := remAt us (s + k + 1)) v.gr.2.1
    have fu := v.fu
    have e1 : g.lo s F (k + 1) = g.loDay (g.lo s F k) (F (s + k)) (s + k) := by rw [Lt.lo]
    have e2 : g.hi s F (k + 1) = g.hiDay (g.hi s F k) (F (s + k)) (s + k) := by rw [Lt.hi]
    rw [e1, e2]
    unfold Lt.tn Lt.loDay Lt.hiDay
    cases F (s + k) <;> simp only [cond_true, cond_false] <;> omega
theorem Lt.tb_in (v : g.Vd) : ∀ k, s + k ≤ g.wn → g.sm s F k ≤ g.tb us s F k ∧ g.tb us s F k ≤ g.sl s F k ∧ 0 ≤ g.tb us s F k ∧ g.tb us s F k ≤ k
  | 0, _ => by unfold Lt.sm Lt.tb Lt.sl; omega
  | k + 1, h => by
    have ih := Lt.tb_in v k (by omega)
    have hn := Lt.tn_in (us := us) (F := F) v (k + 1) h
    unfold Lt.sm Lt.tb Lt.sl
    by_cases h1 : g.hi s F (k + 1) < g.need
    · rw [decide_eq_true h1, decide_eq_true (show g.tn us s F (k + 1) < g.need by omega), decide_eq_true (show g.lo s F (k + 1) < g.need by omega)]
      simp only [cond_true]; omega
    · rw [decide_eq_false h1]
      by_cases h2 : g.tn us s F (k + 1) < g.need
      · rw [decide_eq_true h2, decide_eq_true (show g.lo s F (k + 1) < g.need by omega)]
        simp only [cond_true, cond_false]; omega
      · rw [decide_eq_false h2]
        cases decide (g.lo s F (k + 1) < g.need) <;> simp only [cond_true, cond_false] <;> omega
end
end Go.Ax


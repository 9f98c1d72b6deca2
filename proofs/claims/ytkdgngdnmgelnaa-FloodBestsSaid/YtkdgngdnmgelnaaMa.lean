import Derived.Test.YtkdgngdnmgelnaaAxW9
set_option linter.all false
/-! Steps of drawn regions, one theorem each, and pieces (written by program). -/
namespace Go.Ax
open Go Go.RowKit
section
variable {P : Program} {kn : FuncId → Option Bool} {lo n : Nat} {masks : List Nat} {r : List RO} {ks : List Kd} {S : Rg} {H : Hp} {K : Rg → Hp → Prop} {d : Option Nat} {x y : Operand} {rd : Bool}
theorem wD_seq {ops : List RO} {c : RC} {K : Exit → Rg → Hp → Prop} (h : wDraw P kn lo n masks ops [] S H fun S' H' => wC P kn lo n rd c S' H' K) : wC P kn lo n rd (.seq (.dreg ops masks) c) S H K := h
theorem wD_mov {v : Value} (hx : evS S x = some v) (h : wDraw P kn lo n masks r (.pure :: ks) (putS S d v) H K) : wDraw P kn lo n masks (⟨d, none, .mov x⟩ :: r) ks S H K := by
 show match evS S x with | some v => wDraw P kn lo n masks r (.pure :: ks) (putS S d v) H K | none => False
 rw [hx]; exact h
theorem wD_nilc {a : Addr} (hx : evS S x = some (.pointer (some a))) (h : wDraw P kn lo n masks r (.pure :: ks) (putS S d (.pointer (some a))) H K) : wDraw P kn lo n masks (⟨d, none, .nilc x⟩ :: r) ks S H K := by
 simp only [wDraw, wRO, wRI, hx]; exact h
theorem wD_addo {b o off : Nat} (hx : evS S x = some (.pointer (some ⟨b, o, none⟩))) (h : wDraw P kn lo n masks r (.pure :: ks) (putS S d (.pointer (some ⟨b, o + off, none⟩))) H K) : wDraw P kn lo n masks (⟨d, none, .addo x off⟩ :: r) ks S H K := by
 simp only [wDraw, wRO, wRI, hx]; exact h
theorem wD_ld {b o m : Nat} {cs : List Value} {v : Value} (hx : evS S x = some (.pointer (some ⟨b, o, none⟩))) (hc : Rd H b cs) (hv : cs[o]? = some v) (h : wDraw P kn lo n masks r (.read b :: ks) (putS S d v) H K) : wDraw P kn lo n masks (⟨d, none, .ld x m⟩ :: r) ks S H K := by
 simp only [wDraw, wRO, wRI, hx]; exact ⟨cs, v, hc.of, hv, hc.lt, h⟩
theorem wD_pur {o : Oper} {v : Value} (hd : defd S o.op.operands.toList = true) (hv : pureOp P (frS n S) o = some v) (h : wDraw P kn lo n masks r (.pure :: ks) (putS S d v) H K) : wDraw P kn lo n masks (⟨d, none, .pur o⟩ :: r) ks S H K := ⟨hd, v, hv, h⟩
theorem wD_sta {b o m : Nat} {cs : List Value} {v : Value} (hx : evS S x = some (.pointer (some ⟨b, o, none⟩))) (hy : evS S y = some v) (hc : Cl H b cs) (hl : lo ≤ b) (hm : v.cells.toList.length = m) (h1 : v.cells.toList.all one = true) (ho : o + m ≤ cs.length)
  (h : ∀ H1, Keep H H1 [b] → H1.next = H.next → Cl H1 b (putRow cs o v.cells.toList) → wDraw P kn lo n masks r (.store b :: ks) (putS S d undef) H1 K) : wDraw P kn lo n masks (⟨d, none, .sta x y m⟩ :: r) ks S H K := by
 simp only [wDraw, wRO, wRI, hx, hy]
 obtain ⟨_, e, l, g⟩ := id hc
 exact ⟨cs, e, l, g, hl, hm, h1, ho, fun H1 hH1 => by obtain ⟨a, b, c⟩ := up_facts hc hH1; exact h H1 a b c⟩
theorem wD_end (hp : (bif ks.all calm then True else pairsP ks masks)) (h : K S H) : wDraw P kn lo n masks [] ks S H K := ⟨hp, h⟩
theorem wD_lda {b o m : Nat} {cs q : List Value} (hx : evS S x = some (.pointer (some ⟨b, o, none⟩))) (hc : Rd H b cs) (hv : row m cs o = some q) (h : wDraw P kn lo n masks r (.read b :: ks) (putS S d (.agg q.toArray)) H K) : wDraw P kn lo n masks (⟨d, none, .lda x m⟩ :: r) ks S H K := by
 simp only [wDraw, wRO, wRI, hx]; exact ⟨cs, q, hc.of, hv, hc.lt, h⟩
theorem wD_add {a b : Int} (hx : evS S x = some (.int .i64 a)) (hy : evS S y = some (.int .i64 b)) (h2 : InR (a + b)) (h : wDraw P kn lo n masks r (.pure :: ks) (putS S d (.int .i64 (a + b))) H K) : wDraw P kn lo n masks (⟨d, none, .ari .add x y⟩ :: r) ks S H K := by
 simp only [wDraw, wRO, wRI, hx, hy]; exact ⟨h2, h⟩
theorem wD_idx {b o len cap size k : Nat} {kd : IntKind} {j : Int} (hx : evS S x = some (.slice (some ⟨b, o, none⟩) len cap)) (hy : evS S y = some (.int kd j)) (hj : j = (k : Int)) (hk : k < len) (h : wDraw P kn lo n masks r (.pure :: ks) (putS S d (.pointer (some ⟨b, o + k * size, none⟩))) H K) : wDraw P kn lo n masks (⟨d, none, .idx x y size⟩ :: r) ks S H K := by
 simp only [wDraw, wRO, wRI, hx, hy]; exact ⟨k, hj, hk, h⟩
theorem wD_callh {c : Call} {t : Target} {vs : List Value} {v : Value} {H' : Hp} (ht : targetS S c = some (t, vs)) (hm : marked t = false) (hc : CallsX P kn H.next t vs H v H') (h : wDraw P kn lo n masks r (.heavy :: ks) (putS S d v) H' K) : wDraw P kn lo n masks (⟨d, none, .call c false⟩ :: r) ks S H K := by
 simp only [wDraw, wRO, wRI, ht, hm, Bool.and_false, cond_false]; exact ⟨v, H', hc, h⟩
theorem wD_callf {c : Call} {t : Target} {vs : List Value} {v : Value} {H' : Hp} (ht : targetS S c = some (t, vs)) (hc : CallsX P kn lo t vs H v H') (h : wDraw P kn lo n masks r (.full :: ks) (putS S d v) H' K) : wDraw P kn lo n masks (⟨d, none, .call c true⟩ :: r) ks S H K := by
 simp only [wDraw, wRO, wRI, ht, Bool.not_true, Bool.false_and, cond_false, cond_true]; exact ⟨v, H', hc, h⟩
theorem wD_sub {a b : Int} (hx : evS S x = some (.int .i64 a)) (hy : evS S y = some (.int .i64 b)) (h2 : InR (a - b)) (h : wDraw P kn lo n masks r (.pure :: ks) (putS S d (.int .i64 (a - b))) H K) : wDraw P kn lo n masks (⟨d, none, .ari .sub x y⟩ :: r) ks S H K := by
 simp only [wDraw, wRO, wRI, hx, hy]; exact ⟨h2, h⟩
theorem wD_g {g : Nat} {t : Bool} {ri : RI} (hg : lk S g = some (.bool t)) (h : wDraw P kn lo n masks (⟨d, none, ri⟩ :: r) ks S H K) : wDraw P kn lo n masks (⟨d, some (g, t), ri⟩ :: r) ks S H K := by
 cases t <;> (simp only [wDraw, wRO, hg] at h ⊢; exact h)
theorem wD_mm {small : Bool} {a b : Int} (hx : evS S x = some (.int .i64 a)) (hy : evS S y = some (.int .i64 b)) (h : wDraw P kn lo n masks r (.pure :: ks) (putS S d (.int .i64 (bif small then min a b else max a b))) H K) : wDraw P kn lo n masks (⟨d, none, .mm small x y⟩ :: r) ks S H K := by
 simp only [wDraw, wRO, wRI, hx, hy]; exact h
theorem wD_st {b o : Nat} {cs : List Value} {v : Value} (hx : evS S x = some (.pointer (some ⟨b, o, none⟩))) (hy : evS S y = some v) (hc : Cl H b cs) (hl : lo ≤ b) (hv : v.cells.toList = [v]) (h1 : one v = true) (ho : o < cs.length)
  (h : ∀ H1, Keep H H1 [b] → H1.next = H.next → Cl H1 b (cs.set o v) → wDraw P kn lo n masks r (.store b :: ks) (putS S d undef) H1 K) : wDraw P kn lo n masks (⟨d, none, .st x y⟩ :: r) ks S H K := by
 simp only [wDraw, wRO, wRI, hx, hy]
 obtain ⟨_, e, l, g⟩ := id hc
 exact ⟨cs, e, l, g, hl, hv, h1, ho, fun H1 hH1 => by obtain ⟨a, b, c⟩ := up_facts hc hH1; exact h H1 a b c⟩
theorem wD_dreg {ops : List RO} {K : Exit → Rg → Hp → Prop} (h : wDraw P kn lo n masks ops [] S H fun S' H' => K .normal S' H') : wC P kn lo n rd (.dreg ops masks) S H K := h
theorem wD_gs {g : Nat} {t : Bool} {ri : RI} (hg : lk S g = some (.bool (!t))) (h : wDraw P kn lo n masks r (.pure :: ks) (putS S d undef) H K) : wDraw P kn lo n masks (⟨d, some (g, t), ri⟩ :: r) ks S H K := by
 cases t <;> (simp only [wDraw, wRO, hg, Bool.not_true, Bool.not_false, cond_true, cond_false] at h ⊢; exact h)
theorem wD_alc {e : TypeId} {z : List Value} (h : ∀ H1, Keep H H1 [] → H1.next = H.next + 1 → Cl H1 H.next z → wDraw P kn lo n masks r (.heavy :: ks) (putS S d (.pointer (some ⟨H.next, 0, none⟩))) H1 K) : wDraw P kn lo n masks (⟨d, none, .alc e z⟩ :: r) ks S H K := by
 simp only [wDraw, wRO, wRI]
 intro H1 hH1
 obtain ⟨k1, n1, c1⟩ := new_facts hH1
 exact h H1 k1 n1 c1
theorem wD_memh {o : Oper} {v : Value} {H' : Hp} {k : Kd} (hd : defd S o.op.operands.toList = true) (hp : pureOp P (frS n S) o = none) (hh : heapOp P lo (frS n S) H o = some (.val v H', k)) (hb : ∀ b, k = .read b → b < H.next)
  (h : wDraw P kn lo n masks r (k :: ks) (putS S d v) H' K) : wDraw P kn lo n masks (⟨d, none, .mem o⟩ :: r) ks S H K := ⟨hd, .inr ⟨hp, v, H', k, hh, hb, by cases k with | read b => exact ⟨hb b rfl, h⟩ | _ => exact h⟩⟩
end
end Go.Ax
namespace Go.Ax
open Go Go.RowKit
section
variable {P : Program} {kn : FuncId → Option Bool} {lo n : Nat}
theorem low_seq {c : Code} {a b : RC} (h : low P n c = some (.seq a b)) : ∃ x y, c = .seq x y ∧ low P n x = some a ∧ low P n y = some b := by
 cases c <;> simp only [low] at h <;> try (cases h; done)
 ·rename_i id ops draw
  cases draw <;> simp only [cond_true, cond_false] at h
  ·split at h <;> cases h
  ·obtain ⟨_, h⟩ := bif_some h
   split at h <;> cases h
 ·rename_i x y
  split at h <;> first | (cases h; done) | skip
  rename_i a' ha
  split at h <;> first | (cases h; done) | skip
  rename_i b' hb
  cases h
  exact ⟨x, y, rfl, ha, hb⟩
 ·split at h <;> first | (cases h; done) | skip
  split at h <;> cases h
 ·split at h <;> cases h
theorem low_block {c : Code} {id : Nat} {a : RC} (h : low P n c = some (.block id a)) : ∃ x, c = .block id x ∧ low P n x = some a := by
 cases c <;> simp only [low] at h <;> try (cases h; done)
 ·rename_i id ops draw
  cases draw <;> simp only [cond_true, cond_false] at h
  ·split at h <;> cases h
  ·obtain ⟨_, h⟩ := bif_some h
   split at h <;> cases h
 ·split at h <;> first | (cases h; done) | skip
  split at h <;> cases h
 ·split at h <;> first | (cases h; done) | skip
  split at h <;> cases h
 ·rename_i id' x
  split at h <;> first | (cases h; done) | skip
  rename_i a' ha
  cases h
  exact ⟨x, rfl, ha⟩
theorem low_other {c d : Code} (h : low P n c = some (.other d)) : c = d := by
 cases c <;> simp only [low] at h <;> try (cases h; done)
 ·rename_i id ops draw
  cases draw <;> simp only [cond_true, cond_false] at h
  ·split at h <;> cases h
  ·obtain ⟨_, h⟩ := bif_some h
   split at h <;> cases h
 ·split at h <;> first | (cases h; done) | skip
  split at h <;> cases h
 ·split at h <;> first | (cases h; done) | skip
  split at h <;> cases h
 ·split at h <;> cases h
 ·cases h; rfl
 ·cases h; rfl
theorem TriR.lowR {c : Code} {a b : RC} {S : Rg} {H : Hp} {K : Exit → Rg → Hp → List Deferred → Prop} (hL : low P n c = some (.seq a b)) (h : wC P kn lo n false a S H fun e S' H' => match e with | .normal => ∀ y, low P n y = some b → TriR P kn lo n y S' H' K | e => K e S' H' []) : TriR P kn lo n c S H K := by
 obtain ⟨x, y, rfl, hx, hy⟩ := low_seq hL
 refine TriR.seqR ((wC_sound false x hx h).mono fun e S' H' q => ?_)
 cases e with
 | normal => exact q y hy
 | _ => exact q
theorem TriR.lowL {c : Code} {a b : RC} {S : Rg} {H : Hp} {K : Exit → Rg → Hp → List Deferred → Prop} (hL : low P n c = some (.seq a b)) (h : ∀ x, low P n x = some a → TriR P kn lo n x S H fun e S' H' D => match e with | .normal => wC P kn lo n false b S' H' (fun e S2 H2 => K e S2 H2 D) | e => K e S' H' D) : TriR P kn lo n c S H K := by
 obtain ⟨x, y, rfl, hx, hy⟩ := low_seq hL
 refine TriR.seqL fun A h1 h2 h3 h4 => ?_
 obtain ⟨e, S', H', T', D, q, r⟩ := h x hx A h1 h2 h3 h4
 refine ⟨e, S', H', T', D, ?_, r⟩
 cases e with
 | normal => exact wC_sound false y hy q
 | _ => exact q
theorem TriR.lowB {c : Code} {id : Nat} {d : Code} {S : Rg} {H : Hp} {K : Exit → Rg → Hp → List Deferred → Prop} (hL : low P n c = some (.block id (.other d))) (h : TriR P kn lo n d S H fun e S' H' D => match e with | .exit j => (bif Nat.beq j id then K .normal S' H' D else K (.exit j) S' H' D) | e => K e S' H' D) : TriR P kn lo n c S H K := by
 obtain ⟨x, rfl, hx⟩ := low_block hL
 have := low_other hx
 subst this
 exact TriR.block h
theorem fnX_lowR {f : FuncId} {fn : Func} {R : RC} {n : Nat} {rs : List ResultVar} {args : List Value} {H : Hp} {Q : Value → Hp → Prop} (hf : P.funcs[f]? = some fn) (hb : fn.body = some (at_ fn [])) (hn : fn.ntmps = n) (hz : fn.results.toList = rs) (hL : low P fn.ntmps (at_ fn []) = some R) (hl : args.length ≤ n)
  (h : ∀ y, low P n y = some R → TriR P kn lo n y (argS args 0) H fun e S' H' D => (match e with | .normal => True | .ret => True | _ => False) ∧
   ((D = [] ∧ ∃ vs, resS P S' H' rs = some vs ∧ Q (retV vs) H') ∨
    ∃ r, D = [{ target := .collected r, args := #[] }] ∧ lo ≤ r ∧ H'.t.get r = some (.dfr (some [])) ∧ ∀ H2, H2.next = H'.next → (∀ b, b ≠ r → H2.t.get b = H'.t.get b) → ∃ vs, resS P S' H2 rs = some vs ∧ Q (retV vs) H2)) :
  ∃ v H', FnX P kn lo f args H v H' ∧ Q v H' := by
 subst hn hz
 exact fnX_of_triR hf hb hl (h _ hL)
theorem load_one {t : TypeId} (ht : isAggB P t = some false) {H : Hp} {b : Nat} {v : Value} (h : Rd H b [v]) : loadV P H t ⟨b, 0, none⟩ = some v := by
 unfold loadV
 simp only [h.of, ht]
 rfl
end
end Go.Ax
/-! Lemmas of no seat (gathered by program). -/
namespace Go.Ax
open Go Go.RowKit
abbrev pt (b : Nat) : Value := .pointer (some ⟨b, 0, none⟩)
abbrev iv (x : Int) : Value := .int .i64 x
abbrev slv (b n cap : Nat) : Value := .slice (some ⟨b, 0, none⟩) n cap
abbrev unit : Value := .tuple #[]
abbrev spv (a b : Int) : Value := .agg #[iv a, iv b]
theorem condT {A B : Prop} (h : A) : (true = true → A) ∧ (true = false → B) := ⟨fun _ => h, fun q => Bool.noConfusion q⟩
theorem condF {A B : Prop} (h : B) : (false = true → A) ∧ (false = false → B) := ⟨fun q => Bool.noConfusion q, fun _ => h⟩
theorem get_lt {α : Type} {l : List α} {i : Nat} {x : α} (h : l[i]? = some x) : i < l.length := by
 rcases Nat.lt_or_ge i l.length with q | q
 ·exact q
 ·rw [List.getElem?_eq_none q] at h; cases h
theorem get_some {α : Type} {l : List α} {i : Nat} (h : i < l.length) : ∃ x, l[i]? = some x := ⟨l[i], List.getElem?_eq_getElem h⟩
theorem ints_at {us : List Int} {i : Nat} {x : Int} (h : us[i]? = some x) : (ints us)[0 + i * 1]? = some (iv x) := by
 rw [Nat.zero_add, Nat.mul_one]; simp [ints, h]
theorem all_step {α : Type} {f : α → Bool} {l : List α} {i : Nat} {x : α} (h : l[i]? = some x) : (l.take (i + 1)).all f = ((l.take i).all f && f x) := by
 have hi := get_lt h
 rw [List.getElem?_eq_getElem hi] at h
 cases h
 rw [List.take_succ_eq_append_getElem hi, List.all_append]
 simp
theorem take_fail {α : Type} {f : α → Bool} {l : List α} {i n : Nat} {x : α} (h : l[i]? = some x) (hi : i < n) (hx : f x = false) : (l.take n).all f = false := by
 rw [List.all_eq_false]
 exact ⟨x, List.mem_of_getElem? (i := i) (by rw [List.getElem?_take, if_pos hi]; exact h), by rw [hx]; decide⟩
theorem all_fail {α : Type} {f : α → Bool} {l : List α} {i : Nat} {x : α} (h : l[i]? = some x) (hx : f x = false) : l.all f = false := by
 rw [List.all_eq_false]; exact ⟨x, List.mem_of_getElem? h, by simp [hx]⟩
theorem putRow_mid : ∀ (z vs pre post : List Value), z.length = vs.length → putRow (pre ++ (z ++ post)) pre.length vs = pre ++ (vs ++ post)
 | [], [], pre, post, _ => by simp [putRow]
 | [], _ :: _, _, _, h => by simp at h
 | _ :: _, [], _, _, h => by simp at h
 | a :: z, v :: vs, pre, post, h => by
  have ih := putRow_mid z vs (pre ++ [v]) post (by simpa using h)
  simp only [List.length_append, List.length_cons, List.length_nil, List.append_assoc, List.cons_append, List.nil_append] at ih
  rw [putRow]
  simp only [List.cons_append, List.set_append_right _ _ (Nat.le_refl _), Nat.sub_self, List.set_cons_zero]
  exact ih
theorem flat_put {α : Type} {f : α → List Value} {size : Nat} {l : List α} (hf : ∀ x, (f x).length = size) {i : Nat} (h : i < l.length) (y : α) : putRow (l.flatMap f) (0 + i * size) (f y) = (l.set i y).flatMap f := by
 have e : l = l.take i ++ l[i] :: l.drop (i + 1) := by
  rw [← List.drop_eq_getElem_cons h]; exact (List.take_append_drop i l).symm
 have e2 : l.set i y = l.take i ++ y :: l.drop (i + 1) := by
  rw [List.set_eq_take_append_cons_drop, if_pos h]
 have hl : ((l.take i).flatMap f).length = 0 + i * size := by
  rw [flat_len (fun x _ => hf x), List.length_take]
  rw [Nat.min_eq_left (by omega)]; omega
 rw [e2]
 conv => lhs; rw [e]
 rw [List.flatMap_append, List.flatMap_append, List.flatMap_cons, List.flatMap_cons, ← hl]
 exact putRow_mid _ _ _ _ (by rw [hf, hf])
theorem zeros_flat {α : Type} {f : α → List Value} {z : α} (n : Nat) : zeros (f z) n = (List.replicate n z).flatMap f := by
 induction n with
 | zero => rfl
 | succ n ih => simp only [zeros, ih, List.replicate_succ, List.flatMap_cons]
section
variable {P : Program} {kn : FuncId → Option Bool} {lo : Nat} {H : Hp}
theorem putRow_all : ∀ (z vs pre : List Value), z.length = vs.length → putRow (pre ++ z) pre.length vs = pre ++ vs
 | [], [], pre, _ => by simp [putRow]
 | [], _ :: _, _, h => by simp at h
 | _ :: _, [], _, h => by simp at h
 | y :: z, v :: vs, pre, h => by
  rw [putRow, List.set_append_right _ _ (Nat.le_refl _), Nat.sub_self, List.set_cons_zero]
  have := putRow_all z vs (pre ++ [v]) (by simpa using h)
  simp only [List.append_assoc, List.singleton_append, List.length_append, List.length_singleton] at this
  exact this
theorem heap_build1 {n : Nat} {S : Rg} {H : Hp} {d : Option Tmp} {t e ty : TypeId} {p : String} {size : Nat} {z v : Value} {x : Operand} (he : sliceElem P t = some (e, size)) (hz : zeroOf P e = some z) (hzs : z.cells.toList.length = size) (hx : evS S x = some v) (hv : v.cells.toList.length = size) (hs : size ≤ 16777216) :
  heapOp P lo (frS n S) H ⟨d, .buildSlice t 1 #[(0, x)], ty, p, #[], none⟩ = some (.val (.slice (some ⟨H.next, 0, none⟩) 1 1) (H.new (.cells v.cells.toList e false)), .heavy) := by
 have hp := putRow_all z.cells.toList v.cells.toList [] (by rw [hzs, hv])
 simp only [List.nil_append, List.length_nil] at hp
 have h2 : Nat.ble (0 + size) z.cells.toList.length = true := Nat.ble_eq_true_of_le (by rw [hzs]; omega)
 unfold heapOp
 simp only [partsOf, ev_frS, hx, he, hz, Nat.one_mul, Nat.ble_eq_true_of_le hs, cond_true, zeros, List.append_nil, fillL, Nat.zero_mul, hv, Nat.beq_refl, h2, Bool.and_self, hp]
end
theorem Cl.sl {H : Hp} {b n cap : Nat} {cs : List Value} (h : Cl H b cs) (hn : n ≤ cap) : Sl H (some ⟨b, 0, none⟩) n cap cs := .inr ⟨b, rfl, h.rd, hn⟩
theorem row_get {n : Nat} {cs l : List Value} {i j : Nat} {v : Value} (h : row n cs i = some l) (hj : l[j]? = some v) : cs[i + j]? = some v := by
 obtain ⟨e, hl⟩ := row_some h
 have hjl := get_lt hj
 rw [e, List.getElem?_take, if_pos (by omega), List.getElem?_drop] at hj
 exact hj
def Acc (lo f : Nat) (e : TypeId) (H : Hp) (v : Value) (n : Nat) (cs : List Value) : Prop :=
 (n = 0 ∧ cs = [] ∧ v = .slice none 0 0) ∨ ∃ b, v = .slice (some ⟨b, 0, none⟩) n n ∧ 0 < n ∧ f ≤ b ∧ lo ≤ b ∧ b < H.next ∧ H.t.get b = some (.cells cs e true)
theorem Acc.sl {lo f : Nat} {e : TypeId} {H : Hp} {v : Value} {n : Nat} {cs : List Value} (h : Acc lo f e H v n cs) : ∃ a cap, v = .slice a n cap ∧ Sl H a n cap cs ∧ ∀ b, a = some ⟨b, 0, none⟩ → f ≤ b := by
 rcases h with ⟨rfl, rfl, rfl⟩ | ⟨b, rfl, h0, hf, hl, hn, hg⟩
 ·exact ⟨none, 0, rfl, .inl ⟨.inl rfl, rfl, rfl, rfl⟩, fun b e => by cases e⟩
 ·refine ⟨_, _, rfl, .inr ⟨b, rfl, ⟨hn, ?_⟩, Nat.le_refl _⟩, fun b e => by cases e; exact hf⟩
  unfold cellsOf; rw [hg]
theorem Acc.keep {lo f : Nat} {e : TypeId} {H H1 : Hp} {v : Value} {n : Nat} {cs : List Value} (h : Acc lo f e H v n cs) (k : Keep H H1 []) : Acc lo f e H1 v n cs :=
 h.imp id fun ⟨b, e1, h0, hf, hl, hn, hg⟩ => ⟨b, e1, h0, hf, hl, Nat.lt_of_lt_of_le hn k.1, by rw [k.2 b hn (by simp)]; exact hg⟩
section
variable {P : Program} {lo : Nat}
theorem heap_append_one {H : Hp} {t0 t1 e ep : TypeId} {size k cap2 f : Nat} {a : Option Addr} {v : Value} {cs news : List Value} (he : sliceElem P t0 = some (e, size)) (ht : P.underlying t1 = some (.slice ep))
  (hs : Sl H a 1 cap2 news) (hl : news.length = 1 * size) (hz : 0 < size) (hone : news.all one = true) (hcl : cs.length = k * size) (hk : k < 1000) (ha : Acc lo f e H v k cs) (hlo : lo ≤ H.next) (hf : f ≤ H.next) :
  ∃ H1 kd, (∀ (n : Nat) (S : Rg) (d : Option Tmp) (x y : Operand) (ty : TypeId) (p : String), evS S x = some v → evS S y = some (.slice a 1 cap2) → heapOp P lo (frS n S) H ⟨d, .call ⟨.builtin .append, #[x, y], #[t0, t1]⟩, ty, p, #[], none⟩ = some (.val (.slice (some ⟨H.next, 0, none⟩) (k + 1) (k + 1)) H1, kd)) ∧ (kd = .heavy ∨ ∃ b, kd = .store b ∧ f ≤ b) ∧
   Acc lo f e H1 (.slice (some ⟨H.next, 0, none⟩) (k + 1) (k + 1)) (k + 1) (cs ++ news) ∧ (∀ F : Hp, F.next = f → Keep F H [] → Keep F H1 []) := by
 rcases ha with ⟨rfl, rfl, rfl⟩ | ⟨b, rfl, h0, hb, hlb, hn, hg⟩
 ·refine ⟨H.new (.cells news e true), .heavy, ?_, .inl rfl, ?_, ?_⟩
  ·intro n S d x y ty p hx hy
   unfold heapOp
   simp only [evs, ev_frS, hx, hy, builtinV, List.getElem?_toArray, List.getElem?_cons_zero, List.getElem?_cons_succ, he, ht, src_of hs hl, appendV]
   rfl
  ·refine .inr ⟨H.next, rfl, by omega, hf, hlo, Nat.lt_succ_self _, ?_⟩
   show (H.t.set H.next _).get H.next = _
   rw [Tr.get_set, if_pos rfl]; rfl
  ·intro F hF kF
   exact kF.trans (new_facts rfl).1
 ·have h1 : Nat.ble (0 + (k + 1) * size) cs.length = false := by
   cases h : Nat.ble (0 + (k + 1) * size) cs.length with
   | false => rfl
   | true => have := Nat.le_of_ble_eq_true h; rw [hcl, Nat.succ_mul] at this; omega
  have h2 : Nat.beq (0 + k * size) cs.length = true := by rw [hcl, Nat.zero_add]; exact Nat.beq_refl _
  have h3 : Nat.ble (k + 1) 1048576 = true := Nat.ble_eq_true_of_le (by omega)
  have h4 : Nat.beq e e = true := Nat.beq_refl e
  refine ⟨({ H with t := H.t.set b .dead } : Hp).new (.cells (cs ++ news) e true), .store b, ?_, .inr ⟨b, rfl, hb⟩, ?_, ?_⟩
  ·intro n S d x y ty p hx hy
   unfold heapOp
   simp only [evs, ev_frS, hx, hy, builtinV, List.getElem?_toArray, List.getElem?_cons_zero, List.getElem?_cons_succ, he, ht, src_of hs hl, appendV, hg, h1, h2, h3, h4, hone, Nat.ble_eq_true_of_le hlb, Bool.and_self, cond_true, cond_false, List.drop_zero, show Nat.beq 1 0 = false from rfl]
  ·refine .inr ⟨H.next, rfl, by omega, hf, hlo, Nat.lt_succ_self _, ?_⟩
   show ((H.t.set b .dead).set H.next _).get H.next = _
   rw [Tr.get_set, if_pos rfl]
  ·intro F hF kF
   refine ⟨Nat.le_trans kF.1 (Nat.le_succ _), fun c hc _ => ?_⟩
   have := kF.1
   show ((H.t.set b .dead).set H.next _).get c = _
   rw [Tr.get_set, if_neg (by omega), Tr.get_set, if_neg (by omega)]
   exact kF.2 c hc (by simp)
end
theorem reg_ok {kd : Kd} {f : Nat} (h : kd = .heavy ∨ ∃ b, kd = .store b ∧ f ≤ b) (n : Nat) : ∀ b, kd = .read b → b < n := by
 rcases h with rfl | ⟨b, rfl, _⟩ <;> intro c e <;> cases e
theorem Acc.keepW {lo f : Nat} {e : TypeId} {H H1 : Hp} {v : Value} {n x : Nat} {cs : List Value} (h : Acc lo f e H v n cs) (k : Keep H H1 [x]) (hx : x < f) : Acc lo f e H1 v n cs :=
 h.imp id fun ⟨b, e1, h0, hf, hl, hn, hg⟩ => ⟨b, e1, h0, hf, hl, Nat.lt_of_lt_of_le hn k.1, by rw [k.2 b hn (by simp; omega)]; exact hg⟩
theorem load_agg {P : Program} {t : TypeId} {n : Nat} (ht : isAggB P t = some true) (hi : ∃ i, P.info? t = some i ∧ i.size = n) {H : Hp} {b : Nat} {cs : List Value} (h : Rd H b cs) (hl : cs.length = n) : loadV P H t ⟨b, 0, none⟩ = some (.agg cs.toArray) := by
 obtain ⟨i, h1, h2⟩ := hi
 have hr : row i.size cs 0 = some cs := by
  unfold row
  rw [h2, ← hl]
  simp [beq_eq]
 unfold loadV
 simp only [h.of, ht, h1, hr]
theorem Sl.old {H : Hp} {a : Option Addr} {n c : Nat} {cs : List Value} (h : Sl H a n c cs) (b : Nat) (e : a = some ⟨b, 0, none⟩) : b < H.next := by
 rcases h with ⟨h | h, _⟩ | ⟨b', e', h, _⟩
 ·rw [h] at e; cases e
 ·rw [h] at e; cases e
 ·rw [e'] at e; cases e; exact h.lt
def KeepB (f : Nat) (H H1 : Hp) : Prop := H.next ≤ H1.next ∧ ∀ b, b < f → H1.t.get b = H.t.get b
theorem KeepB.keep {f : Nat} {F H H1 : Hp} {l : List Nat} (h : KeepB f H H1) (k : Keep F H l) (hf : F.next ≤ f) : Keep F H1 l :=
 ⟨Nat.le_trans k.1 h.1, fun b hb hl => (h.2 b (Nat.lt_of_lt_of_le hb hf)).trans (k.2 b hb hl)⟩
theorem KeepB.cl {f : Nat} {H H1 : Hp} {b : Nat} {cs : List Value} (h : KeepB f H H1) (hc : Cl H b cs) (hb : b < f) : Cl H1 b cs := by
 obtain ⟨h1, e, lz, h2⟩ := hc
 exact ⟨Nat.lt_of_lt_of_le h1 h.1, e, lz, by rw [h.2 b hb]; exact h2⟩
theorem KeepB.rd {f : Nat} {H H1 : Hp} {b : Nat} {cs : List Value} (h : KeepB f H H1) (hc : Rd H b cs) (hb : b < f) : Rd H1 b cs := by
 obtain ⟨h1, h2⟩ := hc
 exact ⟨Nat.lt_of_lt_of_le h1 h.1, by unfold cellsOf at h2 ⊢; rw [h.2 b hb]; exact h2⟩
theorem heap_append_below {P : Program} {lo : Nat} {H : Hp} {t0 t1 e ep : TypeId} {size k cap2 f : Nat} {a : Option Addr} {v : Value} {cs news : List Value} (he : sliceElem P t0 = some (e, size)) (ht : P.underlying t1 = some (.slice ep))
  (hs : Sl H a 1 cap2 news) (hl : news.length = 1 * size) (hz : 0 < size) (hone : news.all one = true) (hcl : cs.length = k * size) (hk : k < 1000) (ha : Acc lo f e H v k cs) (hlo : lo ≤ H.next) (hf : f ≤ H.next) :
  ∃ H1 kd, (∀ (n : Nat) (S : Rg) (d : Option Tmp) (x y : Operand) (ty : TypeId) (p : String), evS S x = some v → evS S y = some (.slice a 1 cap2) → heapOp P lo (frS n S) H ⟨d, .call ⟨.builtin .append, #[x, y], #[t0, t1]⟩, ty, p, #[], none⟩ = some (.val (.slice (some ⟨H.next, 0, none⟩) (k + 1) (k + 1)) H1, kd)) ∧ (kd = .heavy ∨ ∃ b, kd = .store b ∧ f ≤ b) ∧
   Acc lo f e H1 (.slice (some ⟨H.next, 0, none⟩) (k + 1) (k + 1)) (k + 1) (cs ++ news) ∧ KeepB f H H1 := by
 obtain ⟨H1, kd, h1, h2, h3, h4⟩ := heap_append_one he ht hs hl hz hone hcl hk ha hlo hf
 refine ⟨H1, kd, h1, h2, h3, ?_⟩
 have h5 := h4 { H with next := f } rfl ⟨hf, fun b _ _ => rfl⟩
 refine ⟨?_, fun b hb => h5.2 b hb (by simp)⟩
 rcases h3 with ⟨h0, _⟩ | ⟨b, e, _, _, _, hn, _⟩
 ·omega
 ·cases e; omega
theorem new_get {H H1 : Hp} {o : Ob} (h : H.new o = H1) : H1.t.get H.next = some o := by
 subst h
 show (H.t.set H.next _).get H.next = _
 rw [Tr.get_set, if_pos rfl]
theorem KeepB.sl {f : Nat} {H H1 : Hp} {a : Option Addr} {n c : Nat} {cs : List Value} (h : KeepB f H H1) (hc : Sl H a n c cs) (hb : ∀ b, a = some ⟨b, 0, none⟩ → b < f) : Sl H1 a n c cs :=
 hc.imp id fun ⟨b, e, r, q⟩ => ⟨b, e, h.rd r (hb b e), q⟩
def AccB (b0 lo f : Nat) (e : TypeId) (H : Hp) (v : Value) (n : Nat) (cs : List Value) : Prop :=
 (n = 0 ∧ cs = [] ∧ v = .slice (some ⟨b0, 0, none⟩) 0 0 ∧ b0 < H.next ∧ ∃ e0, H.t.get b0 = some (.cells [] e0 false)) ∨ ∃ b, v = .slice (some ⟨b, 0, none⟩) n n ∧ 0 < n ∧ f ≤ b ∧ lo ≤ b ∧ b < H.next ∧ H.t.get b = some (.cells cs e true)
theorem AccB.keep {b0 lo f : Nat} {e : TypeId} {H H1 : Hp} {v : Value} {n : Nat} {cs : List Value} (h : AccB b0 lo f e H v n cs) (k : Keep H H1 []) : AccB b0 lo f e H1 v n cs :=
 h.imp (fun ⟨h1, h2, h3, h4, e0, h5⟩ => ⟨h1, h2, h3, Nat.lt_of_lt_of_le h4 k.1, e0, by rw [k.2 b0 h4 (by simp)]; exact h5⟩) fun ⟨b, e1, h0, hf, hl, hn, hg⟩ => ⟨b, e1, h0, hf, hl, Nat.lt_of_lt_of_le hn k.1, by rw [k.2 b hn (by simp)]; exact hg⟩
section
variable {P : Program} {lo : Nat}
end
def spc (ss : List (Int × Int)) : List Value := ss.flatMap fun s => [Value.int .i64 s.1, Value.int .i64 s.2]
theorem spc_row {ss : List (Int × Int)} {i : Nat} {s : Int × Int} (h : ss[i]? = some s) : row 2 (spc ss) (0 + i * 2) = some [Value.int .i64 s.1, Value.int .i64 s.2] := row_flat (f := fun s : Int × Int => [Value.int .i64 s.1, Value.int .i64 s.2]) (size := 2) (fun _ _ => rfl) h
theorem spc_len (ss : List (Int × Int)) : (spc ss).length = ss.length * 2 := by
 unfold spc
 rw [flat_len (size := 2) (fun _ _ => rfl)]
end Go.Ax
/-! Steps of drawn regions: comparisons. -/
namespace Go.Ax
open Go Go.RowKit
section
variable {P : Program} {kn : FuncId → Option Bool} {lo n : Nat} {masks : List Nat} {r : List RO} {ks : List Kd} {S : Rg} {H : Hp} {K : Rg → Hp → Prop} {d : Option Nat} {x y : Operand} {a b : Int}
theorem wD_c_lss (hx : evS S x = some (.int .i64 a)) (hy : evS S y = some (.int .i64 b)) (h : wDraw P kn lo n masks r (.pure :: ks) (putS S d (.bool (decide (a < b)))) H K) : wDraw P kn lo n masks (⟨d, none, .cmp .lss x y⟩ :: r) ks S H K := by
 simp only [wDraw, wRO, wRI, hx, hy]; exact h
theorem wD_b_gtr (hx : evS S x = some (.int .i64 a)) (hy : evS S y = some (.int .i64 b)) (h : ∀ t, (decide (a > b)) = t → wDraw P kn lo n masks r (.pure :: ks) (putS S d (.bool t)) H K) : wDraw P kn lo n masks (⟨d, none, .cmpb .gtr x y⟩ :: r) ks S H K := by
 simp only [wDraw, wRO, wRI, hx, hy]; exact h
theorem wD_b_geq (hx : evS S x = some (.int .i64 a)) (hy : evS S y = some (.int .i64 b)) (h : ∀ t, (decide (a ≥ b)) = t → wDraw P kn lo n masks r (.pure :: ks) (putS S d (.bool t)) H K) : wDraw P kn lo n masks (⟨d, none, .cmpb .geq x y⟩ :: r) ks S H K := by
 simp only [wDraw, wRO, wRI, hx, hy]; exact h
theorem wD_c_neq (hx : evS S x = some (.int .i64 a)) (hy : evS S y = some (.int .i64 b)) (h : wDraw P kn lo n masks r (.pure :: ks) (putS S d (.bool (a != b))) H K) : wDraw P kn lo n masks (⟨d, none, .cmp .neq x y⟩ :: r) ks S H K := by
 simp only [wDraw, wRO, wRI, hx, hy]; exact h
end
end Go.Ax
/-
 Flood: a harvest, its works, what is known of an order: the numbers.
-/
namespace Go.Ax
open Go Go.RowKit
def inB (n a b : Int) : Bool := decide (a ≤ n) && decide (n ≤ b)
def spanB (a b l m : Int) : Bool := decide (l ≤ a) && decide (a ≤ b) && decide (b ≤ m)
theorem mul_rng {a b p q : Int} (ha : 0 ≤ a ∧ a ≤ p) (hb : 0 ≤ b ∧ b ≤ q) : 0 ≤ a * b ∧ a * b ≤ p * q :=
 ⟨Int.mul_nonneg ha.1 hb.1, Int.le_trans (Int.mul_le_mul_of_nonneg_right ha.2 hb.1) (Int.mul_le_mul_of_nonneg_left hb.2 (by omega))⟩
structure Bg where
 need : Int
 l1 : Int
 l2 : Int
 wa : Option Addr
 wn : Nat
 wcap : Nat
 ws : List (Int × Int)
def Bg.z : Bg := ⟨0, 0, 0, none, 0, 0, []⟩
abbrev Bg.f (b : Bg) : List Value := [iv b.need, iv b.l1, iv b.l2, .slice b.wa b.wn b.wcap]
def bgc (l : List Bg) : List Value := l.flatMap Bg.f
theorem bgc_row {l : List Bg} {i : Nat} {b : Bg} (h : l[i]? = some b) : row 4 (bgc l) (0 + i * 4) = some b.f := row_flat (f := Bg.f) (size := 4) (fun _ _ => rfl) h
theorem bgc_at {l : List Bg} {i j : Nat} {b : Bg} {v : Value} (h : l[i]? = some b) (hj : b.f[j]? = some v) : (bgc l)[0 + i * 4 + j]? = some v := row_get (bgc_row h) hj
def Bg.S (b : Bg) (i : Nat) : Int × Int := b.ws.getD i (0, 0)
structure Rw where
 ra : Option Addr
 n : Nat
 cap : Nat
 l : List Int
def Rw.z : Rw := ⟨none, 0, 0, []⟩
abbrev Rw.f (r : Rw) : List Value := [.slice r.ra r.n r.cap]
def rwc (l : List Rw) : List Value := l.flatMap Rw.f
theorem rwc_row {l : List Rw} {i : Nat} {r : Rw} (h : l[i]? = some r) : (rwc l)[0 + i * 1]? = some (.slice r.ra r.n r.cap) := row_get (i := 0 + i * 1) (j := 0) (row_flat (f := Rw.f) (size := 1) (fun _ _ => rfl) h) rfl
structure Fh where
 ba : Option Addr
 bn : Nat
 bcap : Nat
 bs : List Bg
 ra : Option Addr
 rn : Nat
 rcap : Nat
 rs : List Rw
 inlet : Int
 reserve : Int
 winds : Int
abbrev Fh.v (g : Fh) : List Value := [.slice g.ba g.bn g.bcap, .slice g.ra g.rn g.rcap, iv g.inlet, iv g.reserve, iv g.winds]
def spOk (m : Int) (s : Int × Int) : Bool := spanB s.1 s.2 0 m
def Bg.ok (b : Bg) : Bool := inB b.need 1 68719476736 && spanB b.l1 b.l2 0 1048576 && decide (b.wn = 4) && b.ws.all (spOk 16384)
def rtOk (x : Int) : Bool := inB x 0 1073741824
def Rw.ok (n : Nat) (r : Rw) : Bool := decide (r.n = n) && r.l.all rtOk
def Fh.ok (g : Fh) : Bool := inB g.bn 1 7 && g.bs.all Bg.ok && inB g.winds 1 15 && (decide (g.rn = g.bn) && g.rs.all (Rw.ok g.bn)) && inB g.inlet 1 1073741824 && inB g.reserve 0 1099511627776
def Fh.B (g : Fh) (i : Nat) : Bg := g.bs.getD i Bg.z
def Fh.R (g : Fh) (i : Nat) : Rw := g.rs.getD i Rw.z
def Fh.wm (g : Fh) : Nat := g.winds.toNat
def Fh.wk (g : Fh) (b : Bg) : Nat → Int × Int
 | 0 => (16384, 0)
 | k + 1 => bif g.wm.testBit k then (min (g.wk b k).1 (b.S k).1, max (g.wk b k).2 (b.S k).2) else g.wk b k
def Fh.W (g : Fh) (i : Nat) : Int × Int := g.wk (g.B i) 4
def Fh.rate (g : Fh) (i j : Nat) : Int := (g.R i).l.getD j 0
theorem getB {g : Fh} {i : Nat} (h : i < g.bs.length) : g.bs[i]? = some (g.B i) := by
 unfold Fh.B; rw [List.getD_eq_getElem?_getD, List.getElem?_eq_getElem h]; rfl
theorem getR {g : Fh} {i : Nat} (h : i < g.rs.length) : g.rs[i]? = some (g.R i) := by
 unfold Fh.R; rw [List.getD_eq_getElem?_getD, List.getElem?_eq_getElem h]; rfl
theorem getS {b : Bg} {i : Nat} (h : i < b.ws.length) : b.ws[i]? = some (b.S i) := by
 unfold Bg.S; rw [List.getD_eq_getElem?_getD, List.getElem?_eq_getElem h]; rfl
theorem getI {l : List Int} {i : Nat} (h : i < l.length) : l[i]? = some (l.getD i 0) := by
 rw [List.getD_eq_getElem?_getD, List.getElem?_eq_getElem h]; rfl
structure Fh.At (g : Fh) (f : Nat) (H : Hp) : Prop where
 le : f ≤ H.next
 b : Sl H g.ba g.bn g.bcap (bgc g.bs)
 r : Sl H g.ra g.rn g.rcap (rwc g.rs)
 bl : g.bs.length = g.bn
 rl : g.rs.length = g.rn
 bf : ∀ x, g.ba = some ⟨x, 0, none⟩ → x < f
 rf : ∀ x, g.ra = some ⟨x, 0, none⟩ → x < f
 bi : ∀ b ∈ g.bs, Sl H b.wa b.wn b.wcap (spc b.ws) ∧ b.ws.length = b.wn ∧ ∀ x, b.wa = some ⟨x, 0, none⟩ → x < f
 ri : ∀ r ∈ g.rs, Sl H r.ra r.n r.cap (ints r.l) ∧ r.l.length = r.n ∧ ∀ x, r.ra = some ⟨x, 0, none⟩ → x < f
theorem Fh.At.keep {g : Fh} {f : Nat} {H H1 : Hp} {W : List Nat} (h : g.At f H) (k : Keep H H1 W) (hw : ∀ x ∈ W, f ≤ x) : g.At f H1 where
 le := Nat.le_trans h.le k.1
 b := k.sl h.b fun x e q => by have := h.bf x e; have := hw x q; omega
 r := k.sl h.r fun x e q => by have := h.rf x e; have := hw x q; omega
 bl := h.bl
 rl := h.rl
 bf := h.bf
 rf := h.rf
 bi := fun b hb => by
  obtain ⟨h1, h2, h3⟩ := h.bi b hb
  exact ⟨k.sl h1 fun x e q => by have := h3 x e; have := hw x q; omega, h2, h3⟩
 ri := fun b hb => by
  obtain ⟨h1, h2, h3⟩ := h.ri b hb
  exact ⟨k.sl h1 fun x e q => by have := h3 x e; have := hw x q; omega, h2, h3⟩
theorem Fh.At.keepB {g : Fh} {f f1 : Nat} {H H1 : Hp} (h : g.At f H) (k : KeepB f1 H H1) (hf : f ≤ f1) : g.At f H1 where
 le := Nat.le_trans h.le k.1
 b := k.sl h.b fun x e => by have := h.bf x e; omega
 r := k.sl h.r fun x e => by have := h.rf x e; omega
 bl := h.bl
 rl := h.rl
 bf := h.bf
 rf := h.rf
 bi := fun b hb => by
  obtain ⟨h1, h2, h3⟩ := h.bi b hb
  exact ⟨k.sl h1 fun x e => by have := h3 x e; omega, h2, h3⟩
 ri := fun b hb => by
  obtain ⟨h1, h2, h3⟩ := h.ri b hb
  exact ⟨k.sl h1 fun x e => by have := h3 x e; omega, h2, h3⟩
theorem Fh.At.bog {g : Fh} {f : Nat} {H : Hp} (h : g.At f H) (hn : 0 < g.bn) : ∃ x, g.ba = some ⟨x, 0, none⟩ ∧ Rd H x (bgc g.bs) ∧ x < f := by
 rcases h.b with ⟨_, h0, _⟩ | ⟨x, e, r, _⟩
 ·omega
 ·exact ⟨x, e, r, h.bf x e⟩
theorem Fh.At.rts {g : Fh} {f : Nat} {H : Hp} (h : g.At f H) (hn : 0 < g.rn) : ∃ x, g.ra = some ⟨x, 0, none⟩ ∧ Rd H x (rwc g.rs) ∧ x < f := by
 rcases h.r with ⟨_, h0, _⟩ | ⟨x, e, r, _⟩
 ·omega
 ·exact ⟨x, e, r, h.rf x e⟩
theorem Fh.At.wrk {g : Fh} {f : Nat} {H : Hp} (h : g.At f H) {i : Nat} (hi : i < g.bn) : Sl H (g.B i).wa (g.B i).wn (g.B i).wcap (spc (g.B i).ws) ∧ (g.B i).ws.length = (g.B i).wn ∧ ∀ x, (g.B i).wa = some ⟨x, 0, none⟩ → x < f :=
 h.bi _ (List.mem_of_getElem? (getB (by rw [h.bl]; exact hi)))
theorem Fh.At.row {g : Fh} {f : Nat} {H : Hp} (h : g.At f H) {i : Nat} (hi : i < g.rn) : Sl H (g.R i).ra (g.R i).n (g.R i).cap (ints (g.R i).l) ∧ (g.R i).l.length = (g.R i).n ∧ ∀ x, (g.R i).ra = some ⟨x, 0, none⟩ → x < f :=
 h.ri _ (List.mem_of_getElem? (getR (by rw [h.rl]; exact hi)))
structure Fh.Vd (g : Fh) : Prop where
 n : 1 ≤ g.bn ∧ g.bn ≤ 7
 rn : g.rn = g.bn
 w : 1 ≤ g.winds ∧ g.winds ≤ 15
 inl : 1 ≤ g.inlet ∧ g.inlet ≤ 1073741824
 res : 0 ≤ g.reserve ∧ g.reserve ≤ 1099511627776
 b : ∀ i, i < g.bn → 1 ≤ (g.B i).need ∧ (g.B i).need ≤ 68719476736 ∧ 0 ≤ (g.B i).l1 ∧ (g.B i).l1 ≤ (g.B i).l2 ∧ (g.B i).l2 ≤ 1048576 ∧ (g.B i).wn = 4
 s : ∀ i, i < g.bn → ∀ s ∈ (g.B i).ws, 0 ≤ s.1 ∧ s.1 ≤ s.2 ∧ s.2 ≤ 16384
 r : ∀ i, i < g.bn → (g.R i).n = g.bn ∧ ∀ x ∈ (g.R i).l, 0 ≤ x ∧ x ≤ 1073741824
theorem Fh.vd {g : Fh} {f : Nat} {H : Hp} (h : g.ok = true) (a : g.At f H) : g.Vd := by
 simp only [Fh.ok, Bool.and_eq_true, decide_eq_true_eq, inB] at h
 obtain ⟨⟨⟨⟨⟨h1, h2⟩, h3⟩, h4, h5⟩, h6⟩, h7⟩ := h
 have hB : ∀ i, i < g.bn → (g.B i).ok = true := fun i hi => List.all_eq_true.1 h2 _ (List.mem_of_getElem? (getB (by rw [a.bl]; exact hi)))
 have hR : ∀ i, i < g.bn → (g.R i).ok g.bn = true := fun i hi => List.all_eq_true.1 h5 _ (List.mem_of_getElem? (getR (by rw [a.rl, h4]; exact hi)))
 refine ⟨by omega, h4, h3, h6, h7, fun i hi => ?_, fun i hi s hs => ?_, fun i hi => ?_⟩
 ·have := hB i hi
  simp only [Bg.ok, Bool.and_eq_true, decide_eq_true_eq, inB, spanB] at this
  omega
 ·have := hB i hi
  simp only [Bg.ok, Bool.and_eq_true, List.all_eq_true, spOk, spanB, decide_eq_true_eq] at this
  have := this.2 s hs
  omega
 ·have := hR i hi
  simp only [Rw.ok, Bool.and_eq_true, List.all_eq_true, rtOk, inB, decide_eq_true_eq] at this
  exact this
theorem Fh.wk_in {g : Fh} (v : g.Vd) {i : Nat} (hi : i < g.bn) (hl : (g.B i).ws.length = (g.B i).wn) : ∀ k, k ≤ 4 → 0 ≤ (g.wk (g.B i) k).1 ∧ (g.wk (g.B i) k).1 ≤ 16384 ∧ 0 ≤ (g.wk (g.B i) k).2 ∧ (g.wk (g.B i) k).2 ≤ 16384
 | 0, _ => by simp [Fh.wk]
 | k + 1, hk => by
  have ih := Fh.wk_in v hi hl k (by omega)
  have hs := v.s i hi ((g.B i).S k) (List.mem_of_getElem? (getS (by rw [hl, (v.b i hi).2.2.2.2.2]; omega)))
  unfold Fh.wk
  cases g.wm.testBit k <;> simp only [cond_true, cond_false] <;> omega
end Go.Ax

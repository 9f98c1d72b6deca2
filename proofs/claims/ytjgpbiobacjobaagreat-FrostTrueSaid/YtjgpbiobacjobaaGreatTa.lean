import Derived.Test.YtjgpbiobacjobaaGreatAxW8
import Derived.Test.YtjgpbiobacjobaaGreatRa
import Derived.Test.YtjgpbiobacjobaaGreatAxW5
import Derived.Test.YtjgpbiobacjobaaGreatAxW6
set_option linter.all false
/-! Steps of drawn regions, one theorem each, and pieces (written by program). -/
namespace Go.Ax
open Go Go.RowKit
section
variable {P : Program} {kn : FuncId → Option Bool} {lo n : Nat} {masks : List Nat} {r : List RO} {ks : List Kd} {S : Rg} {H : Hp} {K : Rg → Hp → Prop} {d : Option Nat} {x y : Operand} {rd : Bool}
theorem wD_seq {ops : List RO} {c : RC} {K : Exit → Rg → Hp → Prop} (h : wDraw P kn lo n masks ops [] S H fun S' H' => wC P kn lo n rd c S' H' K) : wC P kn lo n rd (.seq (.dreg ops masks) c) S H K := h
theorem wD_mov {v : Value} (hx : evS S x = some v) (h : wDraw P kn lo n masks r (.pure :: ks) (putS S d v) H K) : wDraw P kn lo n masks (⟨d, none, .mov x⟩ :: r) ks S H K := by
  show match evS S x with | some v => wDraw P kn lo n masks r (.pure :: ks) (putS S d v) H K | none => False
  rw [hx]; exact h
theorem wD_nilc {a : Addr} (hx : evS S x = some (.pointer (some a))) (h : wDraw P kn lo n masks r (.pure :: ks) (putS S d (.pointer (some a))) H K) : wDraw P kn lo n masks (⟨d, none, .nilc x⟩ :: r) ks S H K := by
  simp only [wDraw, wRO, wRI, hx]; exact h
theorem wD_addo {b o off : Nat} (hx : evS S x = some (.pointer (some ⟨b, o, none⟩))) (h : wDraw P kn lo n masks r (.pure :: ks) (putS S d (.pointer (some ⟨b, o + off, none⟩))) H K) : wDraw P kn lo n masks (⟨d, none, .addo x off⟩ :: r) ks S H K := by
  simp only [wDraw, wRO, wRI, hx]; exact h
theorem wD_ld {b o m : Nat} {cs : List Value} {v : Value} (hx : evS S x = some (.pointer (some ⟨b, o, none⟩))) (hc : Rd H b cs) (hv : cs[o]? = some v) (h : wDraw P kn lo n masks r (.read b :: ks) (putS S d v) H K) : wDraw P kn lo n masks (⟨d, none, .ld x m⟩ :: r) ks S H K := by
  simp only [wDraw, wRO, wRI, hx]; exact ⟨cs, v, hc.of, hv, hc.lt, h⟩
theorem wD_pur {o : Oper} {v : Value} (hd : defd S o.op.operands.toList = true) (hv : pureOp P (frS n S) o = some v) (h : wDraw P kn lo n masks r (.pure :: ks) (putS S d v) H K) : wDraw P kn lo n masks (⟨d, none, .pur o⟩ :: r) ks S H K := ⟨hd, v, hv, h⟩
theorem wD_sta {b o m : Nat} {cs : List Value} {v : Value} (hx : evS S x = some (.pointer (some ⟨b, o, none⟩))) (hy : evS S y = some v) (hc : Cl H b cs) (hl : lo ≤ b) (hm : v.cells.toList.length = m) (h1 : v.cells.toList.all one = true) (ho : o + m ≤ cs.length)
    (h : ∀ H1, Keep H H1 [b] → H1.next = H.next → Cl H1 b (putRow cs o v.cells.toList) → wDraw P kn lo n masks r (.store b :: ks) (putS S d undef) H1 K) : wDraw P kn lo n masks (⟨d, none, .sta x y m⟩ :: r) ks S H K := by
  simp only [wDraw, wRO, wRI, hx, hy]
  obtain ⟨_, e, l, g⟩ := id hc
  exact ⟨cs, e, l, g, hl, hm, h1, ho, fun H1 hH1 => by obtain ⟨a, b, c⟩ := up_facts hc hH1; exact h H1 a b c⟩
theorem wD_end (hp : (bif ks.all calm then True else pairsP ks masks)) (h : K S H) : wDraw P kn lo n masks [] ks S H K := ⟨hp, h⟩
theorem wD_lda {b o m : Nat} {cs q : List Value} (hx : evS S x = some (.pointer (some ⟨b, o, none⟩))) (hc : Rd H b cs) (hv : row m cs o = some q) (h : wDraw P kn lo n masks r (.read b :: ks) (putS S d (.agg q.toArray)) H K) : wDraw P kn lo n masks (⟨d, none, .lda x m⟩ :: r) ks S H K := by
  simp only [wDraw, wRO, wRI, hx]; exact ⟨cs, q, hc.of, hv, hc.lt, h⟩
theorem wD_len {a : Option Addr} {m c : Nat} (hx : evS S x = some (.slice a m c)) (h : wDraw P kn lo n masks r (.pure :: ks) (putS S d (.int .i64 (m : Int))) H K) : wDraw P kn lo n masks (⟨d, none, .len x⟩ :: r) ks S H K := by
  simp only [wDraw, wRO, wRI, hx]; exact h
theorem wD_rem {a b : Int} (hx : evS S x = some (.int .i64 a)) (hy : evS S y = some (.int .i64 b)) (h0 : 0 ≤ a) (h1 : 0 < b) (h2 : InR a) (h3 : InR b) (h : wDraw P kn lo n masks r (.pure :: ks) (putS S d (.int .i64 (a % b))) H K) : wDraw P kn lo n masks (⟨d, none, .ari .rem x y⟩ :: r) ks S H K := by
  simp only [wDraw, wRO, wRI, hx, hy]; exact ⟨h0, h1, h2, h3, h⟩
theorem wD_add {a b : Int} (hx : evS S x = some (.int .i64 a)) (hy : evS S y = some (.int .i64 b)) (h2 : InR (a + b)) (h : wDraw P kn lo n masks r (.pure :: ks) (putS S d (.int .i64 (a + b))) H K) : wDraw P kn lo n masks (⟨d, none, .ari .add x y⟩ :: r) ks S H K := by
  simp only [wDraw, wRO, wRI, hx, hy]; exact ⟨h2, h⟩
theorem wD_idx {b o len cap size k : Nat} {kd : IntKind} {j : Int} (hx : evS S x = some (.slice (some ⟨b, o, none⟩) len cap)) (hy : evS S y = some (.int kd j)) (hj : j = (k : Int)) (hk : k < len) (h : wDraw P kn lo n masks r (.pure :: ks) (putS S d (.pointer (some ⟨b, o + k * size, none⟩))) H K) : wDraw P kn lo n masks (⟨d, none, .idx x y size⟩ :: r) ks S H K := by
  simp only [wDraw, wRO, wRI, hx, hy]; exact ⟨k, hj, hk, h⟩
theorem wD_callh {c : Call} {t : Target} {vs : List Value} {v : Value} {H' : Hp} (ht : targetS S c = some (t, vs)) (hm : marked t = false) (hc : CallsX P kn H.next t vs H v H') (h : wDraw P kn lo n masks r (.heavy :: ks) (putS S d v) H' K) : wDraw P kn lo n masks (⟨d, none, .call c false⟩ :: r) ks S H K := by
  simp only [wDraw, wRO, wRI, ht, hm, Bool.and_false, cond_false]; exact ⟨v, H', hc, h⟩
theorem wD_callf {c : Call} {t : Target} {vs : List Value} {v : Value} {H' : Hp} (ht : targetS S c = some (t, vs)) (hc : CallsX P kn lo t vs H v H') (h : wDraw P kn lo n masks r (.full :: ks) (putS S d v) H' K) : wDraw P kn lo n masks (⟨d, none, .call c true⟩ :: r) ks S H K := by
  simp only [wDraw, wRO, wRI, ht, Bool.not_true, Bool.false_and, cond_false, cond_true]; exact ⟨v, H', hc, h⟩
theorem wD_mul {a b : Int} (hx : evS S x = some (.int .i64 a)) (hy : evS S y = some (.int .i64 b)) (h2 : InR (a * b)) (h : wDraw P kn lo n masks r (.pure :: ks) (putS S d (.int .i64 (a * b))) H K) : wDraw P kn lo n masks (⟨d, none, .ari .mul x y⟩ :: r) ks S H K := by
  simp only [wDraw, wRO, wRI, hx, hy]; exact ⟨h2, h⟩
theorem wD_sub {a b : Int} (hx : evS S x = some (.int .i64 a)) (hy : evS S y = some (.int .i64 b)) (h2 : InR (a - b)) (h : wDraw P kn lo n masks r (.pure :: ks) (putS S d (.int .i64 (a - b))) H K) : wDraw P kn lo n masks (⟨d, none, .ari .sub x y⟩ :: r) ks S H K := by
  simp only [wDraw, wRO, wRI, hx, hy]; exact ⟨h2, h⟩
theorem wD_quo {a b : Int} (hx : evS S x = some (.int .i64 a)) (hy : evS S y = some (.int .i64 b)) (h0 : 0 ≤ a) (h1 : 0 < b) (h2 : InR a) (h : wDraw P kn lo n masks r (.pure :: ks) (putS S d (.int .i64 (a / b))) H K) : wDraw P kn lo n masks (⟨d, none, .ari .quo x y⟩ :: r) ks S H K := by
  simp only [wDraw, wRO, wRI, hx, hy]; exact ⟨h0, h1, h2, h⟩
theorem tri_piece {c : Code} {R : RC} {S S0 : Rg} {H : Hp} {K : Exit → Rg → Hp → Prop} (hL : low P n c = some R) (hS : Subs S0 S) (h : wC P kn lo n rd R S0 H K) : Tri P kn lo n rd c S H K := Tri.forget (wC_sound rd _ hL h) hS.get
theorem wD_g {g : Nat} {t : Bool} {ri : RI} (hg : lk S g = some (.bool t)) (h : wDraw P kn lo n masks (⟨d, none, ri⟩ :: r) ks S H K) : wDraw P kn lo n masks (⟨d, some (g, t), ri⟩ :: r) ks S H K := by
  cases t <;> (simp only [wDraw, wRO, hg] at h ⊢; exact h)
theorem wD_lss {a b : Int} (t : Bool) (hx : evS S x = some (.int .i64 a)) (hy : evS S y = some (.int .i64 b)) (ht : decide (a < b) = t) (h : wDraw P kn lo n masks r (.pure :: ks) (putS S d (.bool t)) H K) : wDraw P kn lo n masks (⟨d, none, .cmpb .lss x y⟩ :: r) ks S H K := by
  simp only [wDraw, wRO, wRI, hx, hy]; intro u hu; rw [ht] at hu; subst hu; exact h
theorem wD_gtr {a b : Int} (t : Bool) (hx : evS S x = some (.int .i64 a)) (hy : evS S y = some (.int .i64 b)) (ht : decide (a > b) = t) (h : wDraw P kn lo n masks r (.pure :: ks) (putS S d (.bool t)) H K) : wDraw P kn lo n masks (⟨d, none, .cmpb .gtr x y⟩ :: r) ks S H K := by
  simp only [wDraw, wRO, wRI, hx, hy]; intro u hu; rw [ht] at hu; subst hu; exact h
theorem wD_mm {small : Bool} {a b : Int} (hx : evS S x = some (.int .i64 a)) (hy : evS S y = some (.int .i64 b)) (h : wDraw P kn lo n masks r (.pure :: ks) (putS S d (.int .i64 (bif small then min a b else max a b))) H K) : wDraw P kn lo n masks (⟨d, none, .mm small x y⟩ :: r) ks S H K := by
  simp only [wDraw, wRO, wRI, hx, hy]; exact h
theorem wD_st {b o : Nat} {cs : List Value} {v : Value} (hx : evS S x = some (.pointer (some ⟨b, o, none⟩))) (hy : evS S y = some v) (hc : Cl H b cs) (hl : lo ≤ b) (hv : v.cells.toList = [v]) (h1 : one v = true) (ho : o < cs.length)
    (h : ∀ H1, Keep H H1 [b] → H1.next = H.next → Cl H1 b (cs.set o v) → wDraw P kn lo n masks r (.store b :: ks) (putS S d undef) H1 K) : wDraw P kn lo n masks (⟨d, none, .st x y⟩ :: r) ks S H K := by
  simp only [wDraw, wRO, wRI, hx, hy]
  obtain ⟨_, e, l, g⟩ := id hc
  exact ⟨cs, e, l, g, hl, hv, h1, ho, fun H1 hH1 => by obtain ⟨a, b, c⟩ := up_facts hc hH1; exact h H1 a b c⟩
theorem wD_dreg {ops : List RO} {K : Exit → Rg → Hp → Prop} (h : wDraw P kn lo n masks ops [] S H fun S' H' => K .normal S' H') : wC P kn lo n rd (.dreg ops masks) S H K := h
theorem wD_gs {g : Nat} {t : Bool} {ri : RI} (hg : lk S g = some (.bool (!t))) (h : wDraw P kn lo n masks r (.pure :: ks) (putS S d undef) H K) : wDraw P kn lo n masks (⟨d, some (g, t), ri⟩ :: r) ks S H K := by
  cases t <;> (simp only [wDraw, wRO, hg, Bool.not_true, Bool.not_false, cond_true, cond_false] at h ⊢; exact h)
theorem wD_eql {x y : _} {a : Int} (hx : evS S x = some (.int .i64 a)) (hy : evS S y = some (.int .i64 a)) (h : wDraw P kn lo n masks r (.pure :: ks) (putS S d (.bool true)) H K) : wDraw P kn lo n masks (⟨d, none, .cmpb .eql x y⟩ :: r) ks S H K := by
  simp only [wDraw, wRO, wRI, hx, hy]; intro u hu; have : u = true := by rw [← hu]; simp
  subst this; exact h
theorem wD_alc {e : TypeId} {z : List Value} (h : ∀ H1, Keep H H1 [] → H1.next = H.next + 1 → Cl H1 H.next z → wDraw P kn lo n masks r (.heavy :: ks) (putS S d (.pointer (some ⟨H.next, 0, none⟩))) H1 K) : wDraw P kn lo n masks (⟨d, none, .alc e z⟩ :: r) ks S H K := by
  simp only [wDraw, wRO, wRI]
  intro H1 hH1
  obtain ⟨k1, n1, c1⟩ := new_facts hH1
  exact h H1 k1 n1 c1
theorem fnX_lv {f : FuncId} {fn : Func} {R : RC} {n : Nat} {rs : List ResultVar} {args : List Value} {H : Hp} {Q : Value → Hp → Prop} (hf : P.funcs[f]? = some fn) (hb : fn.body = some (at_ fn [])) (hn : fn.ntmps = n) (hz : fn.results.toList = rs) (hL : LV P n (at_ fn []) R) (hl : args.length ≤ n)
    (h : wC P kn lo n false R (argS args 0) H fun e S' H' => (match e with | .normal => True | .ret => True | _ => False) ∧ ∃ vs, resS P S' H' rs = some vs ∧ Q (retV vs) H') :
    ∃ v H', FnX P kn lo f args H v H' ∧ Q v H' := by
  subst hn hz
  exact fnX_of_tri hf hb hl (wC_lv hL h)
theorem wD_memh {o : Oper} {v : Value} {H' : Hp} {k : Kd} (hd : defd S o.op.operands.toList = true) (hp : pureOp P (frS n S) o = none) (hh : heapOp P lo (frS n S) H o = some (.val v H', k)) (hb : ∀ b, k = .read b → b < H.next)
    (h : wDraw P kn lo n masks r (k :: ks) (putS S d v) H' K) : wDraw P kn lo n masks (⟨d, none, .mem o⟩ :: r) ks S H K := ⟨hd, .inr ⟨hp, v, H', k, hh, hb, by cases k with | read b => exact ⟨hb b rfl, h⟩ | _ => exact h⟩⟩
theorem tri_lv {c : Code} {R : RC} {S S0 : Rg} {H : Hp} {K : Exit → Rg → Hp → Prop} (hL : LV P n c R) (hS : Subs S0 S) (h : wC P kn lo n rd R S0 H K) : Tri P kn lo n rd c S H K := Tri.forget (wC_lv hL h) hS.get
end
end Go.Ax
namespace Go.Ax
open Go Go.RowKit

section
variable {P : Program} {kn : FuncId → Option Bool} {lo n : Nat}
theorem low_seq {c : Code} {a b : RC} (h : low P n c = some (.seq a b)) : ∃ x y, c = .seq x y ∧ low P n x = some a ∧ low P n y = some b := by
  cases c <;> simp only [low] at h <;> try (cases h; done)
  · rename_i id ops draw
    cases draw <;> simp only [cond_true, cond_false] at h
    · split at h <;> cases h
    · obtain ⟨_, h⟩ := bif_some h
      split at h <;> cases h
  · rename_i x y
    split at h <;> first | (cases h; done) | skip
    rename_i a' ha
    split at h <;> first | (cases h; done) | skip
    rename_i b' hb
    cases h
    exact ⟨x, y, rfl, ha, hb⟩
  · split at h <;> first | (cases h; done) | skip
    split at h <;> cases h
  · split at h <;> cases h
theorem low_block {c : Code} {id : Nat} {a : RC} (h : low P n c = some (.block id a)) : ∃ x, c = .block id x ∧ low P n x = some a := by
  cases c <;> simp only [low] at h <;> try (cases h; done)
  · rename_i id ops draw
    cases draw <;> simp only [cond_true, cond_false] at h
    · split at h <;> cases h
    · obtain ⟨_, h⟩ := bif_some h
      split at h <;> cases h
  · split at h <;> first | (cases h; done) | skip
    split at h <;> cases h
  · split at h <;> first | (cases h; done) | skip
    split at h <;> cases h
  · rename_i id' x
    split at h <;> first | (cases h; done) | skip
    rename_i a' ha
    cases h
    exact ⟨x, rfl, ha⟩
theorem low_other {c d : Code} (h : low P n c = some (.other d)) : c = d := by
  cases c <;> simp only [low] at h <;> try (cases h; done)
  · rename_i id ops draw
    cases draw <;> simp only [cond_true, cond_false] at h
    · split at h <;> cases h
    · obtain ⟨_, h⟩ := bif_some h
      split at h <;> cases h
  · split at h <;> first | (cases h; done) | skip
    split at h <;> cases h
  · split at h <;> first | (cases h; done) | skip
    split at h <;> cases h
  · split at h <;> cases h
  · cases h; rfl
  · cases h; rfl
theorem TriR.lowR {c : Code} {a b : RC} {S : Rg} {H : Hp} {K : Exit → Rg → Hp → List Deferred → Prop} (hL : low P n c = some (.seq a b)) (h : wC P kn lo n false a S H fun e S' H' => match e with | .normal => ∀ y, low P n y = some b → TriR P kn lo n y S' H' K | e => K e S' H' []) : TriR P kn lo n c S H K := by
  obtain ⟨x, y, rfl, hx, hy⟩ := low_seq hL
  refine TriR.seqR ((wC_sound false x hx h).mono fun e S' H' q => ?_)
  cases e with
  | normal => exact q y hy
  | _ => exact q
theorem TriR.lowL {c : Code} {a b : RC} {S : Rg} {H : Hp} {K : Exit → Rg → Hp → List Deferred → Prop} (hL : low P n c = some (.seq a b)) (h : ∀ x, low P n x = some a → TriR P kn lo n x S H fun e S' H' D => match e with | .normal => wC P kn lo n false b S' H' (fun e S2 H2 => K e S2 H2 D) | e => K e S' H' D) : TriR P kn lo n c S H K := by
  obtain ⟨x, y, rfl, hx, hy⟩ := low_seq hL
  refine TriR.seqL fun A h1 h2 h3 h4 => ?_
  obtain ⟨e, S', H', T', D, q, r⟩ := h x hx A h1 h2 h3 h4
  refine ⟨e, S', H', T', D, ?_, r⟩
  cases e with
  | normal => exact wC_sound false y hy q
  | _ => exact q
theorem TriR.lowB {c : Code} {id : Nat} {d : Code} {S : Rg} {H : Hp} {K : Exit → Rg → Hp → List Deferred → Prop} (hL : low P n c = some (.block id (.other d))) (h : TriR P kn lo n d S H fun e S' H' D => match e with | .exit j => (bif Nat.beq j id then K .normal S' H' D else K (.exit j) S' H' D) | e => K e S' H' D) : TriR P kn lo n c S H K := by
  obtain ⟨x, rfl, hx⟩ := low_block hL
  have := low_other hx
  subst this
  exact TriR.block h
theorem fnX_lowR {f : FuncId} {fn : Func} {R : RC} {n : Nat} {rs : List ResultVar} {args : List Value} {H : Hp} {Q : Value → Hp → Prop} (hf : P.funcs[f]? = some fn) (hb : fn.body = some (at_ fn [])) (hn : fn.ntmps = n) (hz : fn.results.toList = rs) (hL : low P fn.ntmps (at_ fn []) = some R) (hl : args.length ≤ n)
    (h : ∀ y, low P n y = some R → TriR P kn lo n y (argS args 0) H fun e S' H' D => (match e with | .normal => True | .ret => True | _ => False) ∧
      ((D = [] ∧ ∃ vs, resS P S' H' rs = some vs ∧ Q (retV vs) H') ∨
        ∃ r, D = [{ target := .collected r, args := #[] }] ∧ lo ≤ r ∧ H'.t.get r = some (.dfr (some [])) ∧ ∀ H2, H2.next = H'.next → (∀ b, b ≠ r → H2.t.get b = H'.t.get b) → ∃ vs, resS P S' H2 rs = some vs ∧ Q (retV vs) H2)) :
    ∃ v H', FnX P kn lo f args H v H' ∧ Q v H' := by
  subst hn hz
  exact fnX_of_triR hf hb hl (h _ hL)
theorem load_one {t : TypeId} (ht : isAggB P t = some false) {H : Hp} {b : Nat} {v : Value} (h : Rd H b [v]) : loadV P H t ⟨b, 0, none⟩ = some v := by
  unfold loadV
  simp only [h.of, ht]
  rfl
theorem res3 {S : Rg} {H : Hp} {a b c : Nat} {t1 t2 t3 : TypeId} {v1 v2 v3 : Value} {x y z : Nat} (ha : lk S a = some (.pointer (some ⟨x, 0, none⟩))) (hb : lk S b = some (.pointer (some ⟨y, 0, none⟩))) (hc : lk S c = some (.pointer (some ⟨z, 0, none⟩))) (h1 : isAggB P t1 = some false) (h2 : isAggB P t2 = some false) (h3 : isAggB P t3 = some false) (r1 : Rd H x [v1]) (r2 : Rd H y [v2]) (r3 : Rd H z [v3]) :
    resS P S H [.cell a t1, .cell b t2, .cell c t3] = some [v1, v2, v3] := by
  simp only [resS, ha, hb, hc, load_one h1 r1, load_one h2 r2, load_one h3 r3]
end
end Go.Ax
/-
  The frost layer: contracts, for all inputs, of isWithin, isAmount, allWithin (with ContainsFunc and IndexFunc).
-/
namespace Go.Ax
open Go Go.RowKit Go.Proofs

abbrev pt (b : Nat) : Value := .pointer (some ⟨b, 0, none⟩)
abbrev iv (x : Int) : Value := .int .i64 x
theorem condT {A B : Prop} (h : A) : (true = true → A) ∧ (true = false → B) := ⟨fun _ => h, fun q => Bool.noConfusion q⟩
theorem condF {A B : Prop} (h : B) : (false = true → A) ∧ (false = false → B) := ⟨fun q => Bool.noConfusion q, fun _ => h⟩
theorem get_lt {α : Type} {l : List α} {i : Nat} {x : α} (h : l[i]? = some x) : i < l.length := by
  rcases Nat.lt_or_ge i l.length with q | q
  · exact q
  · rw [List.getElem?_eq_none q] at h; cases h
theorem get_some {α : Type} {l : List α} {i : Nat} (h : i < l.length) : ∃ x, l[i]? = some x := ⟨l[i], List.getElem?_eq_getElem h⟩
theorem ints_at {us : List Int} {i : Nat} {x : Int} (h : us[i]? = some x) : (ints us)[0 + i * 1]? = some (iv x) := by
  rw [Nat.zero_add, Nat.mul_one]; simp [ints, h]
theorem all_step {α : Type} {f : α → Bool} {l : List α} {i : Nat} {x : α} (h : l[i]? = some x) : (l.take (i + 1)).all f = ((l.take i).all f && f x) := by
  have hi := get_lt h
  rw [List.getElem?_eq_getElem hi] at h
  cases h
  rw [List.take_succ_eq_append_getElem hi, List.all_append]
  simp
theorem take_fail {α : Type} {f : α → Bool} {l : List α} {i n : Nat} {x : α} (h : l[i]? = some x) (hi : i < n) (hx : f x = false) : (l.take n).all f = false := by
  rw [List.all_eq_false]
  exact ⟨x, List.mem_of_getElem? (i := i) (by rw [List.getElem?_take, if_pos hi]; exact h), by rw [hx]; decide⟩

def inB (n a b : Int) : Bool := decide (a ≤ n) && decide (n ≤ b)
section
variable {kn : FuncId → Option Bool} {lo : Nat} {H : Hp}
theorem within_ok {n a b : Int} : ∃ H', FnX Tryz.prog kn lo 42 [iv n, iv a, iv b] H (.bool (inB n a b)) H' ∧ Keep H H' [] := by
  have key := fnX_low (kn := kn) (lo := lo) (H := H) (args := [iv n, iv a, iv b]) (Q := fun v H' => v = .bool (inB n a b) ∧ Keep H H' []) Tryz.func42 B42 N42 Z42 L42 (by simp) ?_
  · obtain ⟨v, H', h, rfl, q⟩ := key; exact ⟨H', h, q⟩
  repeat' first
    | (intro t ht; cases t)
    | exact And.intro trivial (Exists.intro _ (And.intro rfl ⟨by simp_all [retV, inB] <;> (intros; omega), Keep.refl _ _⟩))
    | refine And.intro rfl (Exists.intro _ (And.intro rfl ?_))
theorem amount_ok {n : Int} : ∃ H', FnX Tryz.prog kn lo 43 [iv n] H (.bool (inB n 0 1099511627776)) H' ∧ Keep H H' [] := by
  have key := fnX_low (kn := kn) (lo := lo) (H := H) (args := [iv n]) (Q := fun v H' => v = .bool (inB n 0 1099511627776) ∧ Keep H H' []) Tryz.func43 B43 N43 Z43 L43 (by simp) ?_
  · obtain ⟨v, H', h, rfl, q⟩ := key; exact ⟨H', h, q⟩
  refine callB within_ok ?_
  intro t H1 ht k1
  exact And.intro trivial (Exists.intro _ (And.intro rfl ⟨by rw [ht]; rfl, k1⟩))
/-- allWithin's closure -/
theorem out_ok {n a b : Int} {ba bb : Nat} (ha : Rd H ba [iv a]) (hb : Rd H bb [iv b]) : ∃ H', FnX Tryz.prog kn lo 88 [iv n, pt ba, pt bb] H (.bool (!inB n a b)) H' ∧ Keep H H' [] := by
  have key := fnX_low (kn := kn) (lo := lo) (H := H) (args := [iv n, pt ba, pt bb]) (Q := fun v H' => v = .bool (!inB n a b) ∧ Keep H H' []) Tryz.func88 B88 N88 Z88 L88 (by simp) ?_
  · obtain ⟨v, H', h, rfl, q⟩ := key; exact ⟨H', h, q⟩
  refine Exists.intro _ (Exists.intro _ (And.intro ha.of (And.intro rfl ?_)))
  refine Exists.intro _ (Exists.intro _ (And.intro hb.of (And.intro rfl ?_)))
  refine callB within_ok ?_
  intro t H1 ht k1
  refine And.intro rfl (Exists.intro (.bool (!t)) (And.intro rfl ?_))
  exact And.intro trivial (Exists.intro _ (And.intro rfl ⟨by rw [ht]; rfl, k1⟩))
theorem index_ok {a b : Int} {ba bb : Nat} {sa : Option Addr} {n cap : Nat} {us : List Int} (ha : Rd H ba [iv a]) (hb : Rd H bb [iv b]) (hs : Sl H sa n cap (ints us)) (hn : n ≤ us.length) (hn2 : n ≤ 1000000) :
    ∃ j H', FnX Tryz.prog kn lo 109 [.slice sa n cap, .func (.func 88) #[] #[pt ba, pt bb]] H (iv j) H' ∧ decide (j ≥ 0) = !((us.take n).all fun x => inB x a b) ∧ Keep H H' [] := by
  have key := fnX_low (kn := kn) (lo := lo) (H := H) (args := [.slice sa n cap, .func (.func 88) #[] #[pt ba, pt bb]]) (Q := fun v H' => ∃ j, v = iv j ∧ decide (j ≥ 0) = !((us.take n).all fun x => inB x a b) ∧ Keep H H' []) Tryz.func109 B109 N109 Z109 L109 (by simp) ?_
  · obtain ⟨v, H', h, j, rfl, q⟩ := key; exact ⟨j, H', h, q⟩
  refine loop_low (fn := Tryz.f109) E109_1 N109 L109x1 (fun i : Nat => [(0, .slice sa n cap), (1, .func (.func 88) #[] #[pt ba, pt bb]), (6, .slice sa n cap), (7, iv n), (8, iv i)])
    (fun k i H' => i + k = n ∧ Keep H H' [] ∧ ((us.take i).all fun x => inB x a b) = true) n 0 ⟨by omega, Keep.refl _ _, rfl⟩ ⟨rfl, rfl, rfl, rfl, rfl, trivial⟩ ?_
  rintro k i H1 ⟨hik, hk, hall⟩
  refine And.intro (fun hlt => ?_) (fun hge => ?_)
  · have hi : i < n := by simpa using hlt
    have hs1 := hk.sl0 hs
    rcases hs1 with ⟨_, h0, _⟩ | ⟨sb, rfl, hc, _⟩
    · omega
    obtain ⟨x, hx⟩ := get_some (l := us) (i := i) (by omega)
    refine Exists.intro i (And.intro rfl (And.intro hi ?_))
    refine Exists.intro _ (Exists.intro _ (And.intro hc.of (And.intro (ints_at hx) ?_)))
    obtain ⟨H2, h2, k2⟩ := out_ok (kn := kn) (lo := lo) (n := x) (hk.rd ha (by simp)) (hk.rd hb (by simp))
    refine Exists.intro _ (Exists.intro _ (And.intro (callX_func rfl (by simpa using h2)) ?_))
    have hst := all_step (f := fun x => inB x a b) hx
    cases hin : inB x a b
    · refine condT ?_
      exact And.intro trivial (Exists.intro _ (And.intro rfl ⟨_, rfl, by rw [take_fail hx hi hin]; simp, hk.trans k2⟩))
    · refine condF ?_
      refine And.intro ⟨by omega, by omega⟩ ?_
      exact ⟨k - 1, i + 1, by omega, ⟨by omega, hk.trans k2, by rw [hst, hall, hin]; rfl⟩, rfl, rfl, rfl, rfl, rfl, trivial⟩
  · have hi : ¬ i < n := by simpa using hge
    have e : i = n := by omega
    subst e
    exact And.intro trivial (Exists.intro _ (And.intro rfl ⟨-1, rfl, by rw [hall]; rfl, hk⟩))
theorem all_ok {a b : Int} {sa : Option Addr} {n cap : Nat} {us : List Int} (hs : Sl H sa n cap (ints us)) (hn : n ≤ us.length) (hn2 : n ≤ 1000000) :
    ∃ H', FnX Tryz.prog kn lo 61 [.slice sa n cap, iv a, iv b] H (.bool ((us.take n).all fun x => inB x a b)) H' ∧ Keep H H' [] := by
  have key := fnX_low (kn := kn) (lo := lo) (H := H) (args := [.slice sa n cap, iv a, iv b]) (Q := fun v H' => v = .bool ((us.take n).all fun x => inB x a b) ∧ Keep H H' []) Tryz.func61 B61 N61 Z61 L61 (by simp) ?_
  · obtain ⟨v, H', h, rfl, q⟩ := key; exact ⟨H', h, q⟩
  intro H1 hH1
  obtain ⟨k1, n1, c1⟩ := new_facts hH1
  intro H2 hH2
  obtain ⟨k2, n2, c2⟩ := new_facts hH2
  have c1 := k2.cl c1 (by simp)
  have k12 := k1.trans k2
  refine And.intro rfl (Exists.intro (.func (.func 88) #[] #[pt H.next, pt H1.next]) (And.intro rfl ?_))
  refine callB (b := !((us.take n).all fun x => inB x a b)) ?_ ?_
  · have key := fnX_low (kn := kn) (lo := lo) (H := H2) (args := [.slice sa n cap, .func (.func 88) #[] #[pt H.next, pt H1.next]]) (Q := fun v H' => v = .bool (!((us.take n).all fun x => inB x a b)) ∧ Keep H2 H' []) Tryz.func87 B87 N87 Z87 L87 (by simp) ?_
    · obtain ⟨v, H', h, rfl, q⟩ := key; exact ⟨H', h, q⟩
    obtain ⟨j, H3, h3, hj, k3⟩ := index_ok (kn := kn) (lo := lo) c1.rd c2.rd (k12.sl0 hs) hn hn2
    refine Exists.intro _ (Exists.intro _ (And.intro (callX_args h3) ?_))
    exact And.intro trivial (Exists.intro _ (And.intro rfl ⟨by rw [← hj]; rfl, k3⟩))
  intro t H3 ht k3
  refine And.intro rfl (Exists.intro (.bool (!t)) (And.intro rfl ?_))
  exact And.intro trivial (Exists.intro _ (And.intro rfl ⟨by rw [← ht]; simp [retV], k12.trans k3⟩))
end
end Go.Ax
/-
  Frost, for Temps: contracts, for all inputs, of lesser, greater, distances, isIndex, slots and its iterator.
-/
namespace Go.Ax
open Go Go.RowKit Go.Proofs

abbrev unit : Value := .tuple #[]
section
variable {kn : FuncId → Option Bool} {lo : Nat} {H : Hp}
theorem greater_ok {a b : Int} : FnX Tryz.prog kn lo 90 [iv a, iv b] H (iv (max a b)) H := by
  have key := fnX_low (kn := kn) (lo := lo) (H := H) (args := [iv a, iv b]) (Q := fun v H' => v = iv (max a b) ∧ H' = H) Tryz.func90 B90 N90 Z90 L90 (by simp) ?_
  · obtain ⟨v, H', h, rfl, rfl⟩ := key; exact h
  exact And.intro trivial (Exists.intro _ (And.intro rfl ⟨rfl, rfl⟩))
theorem lesser_ok {a b : Int} : FnX Tryz.prog kn lo 93 [iv a, iv b] H (iv (min a b)) H := by
  have key := fnX_low (kn := kn) (lo := lo) (H := H) (args := [iv a, iv b]) (Q := fun v H' => v = iv (min a b) ∧ H' = H) Tryz.func93 B93 N93 Z93 L93 (by simp) ?_
  · obtain ⟨v, H', h, rfl, rfl⟩ := key; exact h
  exact And.intro trivial (Exists.intro _ (And.intro rfl ⟨rfl, rfl⟩))
theorem dist_ok {r s : Int} (h1 : InR (r - s)) (h2 : InR (s - r)) : FnX Tryz.prog kn lo 92 [iv r, iv s] H (.tuple #[iv (max 0 (r - s)), iv (max 0 (s - r))]) H := by
  have key := fnX_low (kn := kn) (lo := lo) (H := H) (args := [iv r, iv s]) (Q := fun v H' => v = .tuple #[iv (max 0 (r - s)), iv (max 0 (s - r))] ∧ H' = H) Tryz.func92 B92 N92 Z92 L92 (by simp) ?_
  · obtain ⟨v, H', h, rfl, rfl⟩ := key; exact h
  refine And.intro h1 ?_
  refine And.intro h2 ?_
  exact And.intro trivial (Exists.intro _ (And.intro rfl ⟨rfl, rfl⟩))
theorem isindex_ok {i n : Int} (hn : InR (n - 1)) : ∃ H', FnX Tryz.prog kn lo 62 [iv i, iv n] H (.bool (inB i 0 (n - 1))) H' ∧ Keep H H' [] := by
  have key := fnX_low (kn := kn) (lo := lo) (H := H) (args := [iv i, iv n]) (Q := fun v H' => v = .bool (inB i 0 (n - 1)) ∧ Keep H H' []) Tryz.func62 B62 N62 Z62 L62 (by simp) ?_
  · obtain ⟨v, H', h, rfl, q⟩ := key; exact ⟨H', h, q⟩
  refine And.intro hn ?_
  refine callB within_ok ?_
  intro t H1 ht k1
  exact And.intro trivial (Exists.intro _ (And.intro rfl ⟨by rw [ht]; rfl, k1⟩))
theorem slots_ok {a b : Int} : ∃ b1 b2 H', FnX Tryz.prog kn lo 44 [iv a, iv b] H (.func (.func 67) #[] #[pt b1, pt b2]) H' ∧ Keep H H' [] ∧ H.next ≤ b1 ∧ H.next ≤ b2 ∧ Cl H' b1 [iv a] ∧ Cl H' b2 [iv b] := by
  have key := fnX_low (kn := kn) (lo := lo) (H := H) (args := [iv a, iv b]) (Q := fun v H' => ∃ b1 b2, v = .func (.func 67) #[] #[pt b1, pt b2] ∧ Keep H H' [] ∧ H.next ≤ b1 ∧ H.next ≤ b2 ∧ Cl H' b1 [iv a] ∧ Cl H' b2 [iv b]) Tryz.func44 B44 N44 Z44 L44 (by simp) ?_
  · obtain ⟨v, H', h, b1, b2, rfl, q⟩ := key; exact ⟨b1, b2, H', h, q⟩
  intro H1 hH1; obtain ⟨k1, n1, c1⟩ := new_facts hH1; clear hH1
  intro H2 hH2; obtain ⟨k2, n2, c2⟩ := new_facts hH2; clear hH2
  have m1 := k1.1
  refine And.intro rfl (Exists.intro _ (And.intro rfl ?_))
  exact And.intro trivial (Exists.intro _ (And.intro rfl ⟨H.next, H1.next, rfl, k1.trans k2, Nat.le_refl _, m1, k2.cl c1 (by simp), c2⟩))
/-- The slots, one by one: J holds ahead of the i-th one. -/
theorem iter_ok {l b1 b2 n : Nat} (J : Nat → Hp → Prop) (hn : n ≤ 1000) (hJ0 : J 0 H) (hJe : ∀ i H, J i H → Rd H b1 [iv 0] ∧ Rd H b2 [iv ((n : Int) - 1)])
    (step : ∀ i H, i < n → J i H → ∃ H', CallsX Tryz.prog kn lo (.fn (.yield l) #[]) [iv i] H (.bool true) H' ∧ J (i + 1) H') :
    ∃ H', FnX Tryz.prog kn lo 67 [.func (.yield l) #[] #[], pt b1, pt b2] H unit H' ∧ J n H' := by
  have key := fnX_low (kn := kn) (lo := lo) (H := H) (args := [.func (.yield l) #[] #[], pt b1, pt b2]) (Q := fun v H' => v = unit ∧ J n H') Tryz.func67 B67 N67 Z67 L67 (by simp) ?_
  · obtain ⟨v, H', h, rfl, q⟩ := key; exact ⟨H', h, q⟩
  refine Exists.intro _ (Exists.intro _ (And.intro (hJe 0 H hJ0).1.of (And.intro rfl ?_)))
  refine loop_low (fn := Tryz.f67) E67_1 N67 L67x1 (fun i : Nat => [(0, .func (.yield l) #[] #[]), (2, pt b2), (4, iv i)])
    (fun k i H' => i + k = n ∧ J i H') n 0 ⟨by omega, hJ0⟩ ⟨rfl, rfl, rfl, trivial⟩ ?_
  rintro k i H1 ⟨hik, hJ⟩
  refine Exists.intro _ (Exists.intro _ (And.intro (hJe i H1 hJ).2.of (And.intro rfl ?_)))
  refine And.intro (fun hle => ?_) (fun hgt => ?_)
  · have hi : i < n := by
      have : (i : Int) ≤ (n : Int) - 1 := by simpa using hle
      omega
    obtain ⟨H2, h2, j2⟩ := step i H1 hi hJ
    refine Exists.intro _ (Exists.intro _ (And.intro h2 ?_))
    refine And.intro rfl (Exists.intro (.bool false) (And.intro rfl ?_))
    refine condF ?_
    refine And.intro ⟨by omega, by omega⟩ ?_
    exact ⟨k - 1, i + 1, by omega, ⟨by omega, j2⟩, rfl, rfl, rfl, trivial⟩
  · have hi : ¬ (i : Int) ≤ (n : Int) - 1 := by simpa using hgt
    have hin : i = n := by omega
    subst hin
    exact And.intro trivial (Exists.intro _ (And.intro rfl ⟨rfl, hJ⟩))
end
end Go.Ax
/-
  Frost, for Temps: contracts, for all inputs, of what a reading allows (written by program).
-/
namespace Go.Ax
open Go Go.RowKit Go.Proofs

theorem row_get {n : Nat} {cs l : List Value} {i j : Nat} {v : Value} (h : row n cs i = some l) (hj : l[j]? = some v) : cs[i + j]? = some v := by
  obtain ⟨e, hl⟩ := row_some h
  have hjl := get_lt hj
  rw [e, List.getElem?_take, if_pos (by omega), List.getElem?_drop] at hj
  exact hj
def spc (ss : List (Int × Int)) : List Value := ss.flatMap fun s => [iv s.1, iv s.2]
theorem span_get {ss : List (Int × Int)} {k : Nat} {l h : Int} (hx : ss[k]? = some (l, h)) : (spc ss)[0 + k * 2 + 0]? = some (iv l) ∧ (spc ss)[0 + k * 2 + 1]? = some (iv h) :=
  ⟨row_get (row_flat (f := fun s : Int × Int => [iv s.1, iv s.2]) (size := 2) (fun _ _ => rfl) hx) (j := 0) rfl, row_get (row_flat (f := fun s : Int × Int => [iv s.1, iv s.2]) (size := 2) (fun _ _ => rfl) hx) (j := 1) rfl⟩
theorem max_bound {a b : Int} (ha : 0 ≤ a ∧ a ≤ 1000) (hb : 0 ≤ b ∧ b ≤ 1000) : 0 ≤ max 0 (a - b) ∧ max 0 (a - b) ≤ 1000 := by omega
theorem mul_bound {a b : Int} (ha : 0 ≤ a ∧ a ≤ 1000) (hb : 0 ≤ b ∧ b ≤ 10000) : 0 ≤ a * b ∧ a * b ≤ 10000000 := by
  have h1 := Int.mul_nonneg ha.1 hb.1
  have h2 := Int.mul_le_mul_of_nonneg_right ha.2 hb.1
  omega
noncomputable def R91t15 : RC := (.dreg [⟨(some 15), none, (.addo (.tmp 3) 2)⟩, ⟨(some 16), none, (.ld (.tmp 15) 1)⟩, ⟨(some 17), none, (.addo (.tmp 2) 3)⟩, ⟨(some 18), none, (.ld (.tmp 17) 1)⟩, ⟨(some 19), none, (.addo (.tmp 3) 0)⟩, ⟨(some 20), none, (.ld (.tmp 19) 1)⟩, ⟨(some 21), none, (.idx (.tmp 18) (.tmp 20) 2)⟩, ⟨(some 22), none, (.addo (.tmp 21) 1)⟩, ⟨(some 23), none, (.ld (.tmp 22) 1)⟩, ⟨(some 24), none, (.ari .sub (.tmp 16) (.tmp 23))⟩, ⟨(some 25), none, (.mov (.tmp 6))⟩, ⟨(some 26), none, (.addo (.tmp 2) 2)⟩, ⟨(some 27), none, (.ld (.tmp 26) 1)⟩, ⟨(some 28), none, (.ari .mul (.tmp 25) (.tmp 27))⟩, ⟨(some 29), none, (.ari .sub (.tmp 24) (.tmp 28))⟩, ⟨(some 30), none, (.mov (.tmp 7))⟩, ⟨(some 31), none, (.addo (.tmp 2) 1)⟩, ⟨(some 32), none, (.ld (.tmp 31) 1)⟩, ⟨(some 33), none, (.ari .mul (.tmp 30) (.tmp 32))⟩, ⟨(some 34), none, (.ari .sub (.tmp 29) (.tmp 33))⟩, ⟨(some 5), none, (.mov (.tmp 34))⟩] [1048575, 524287, 229376, 65536, 0, 0, 16383, 7168, 2048, 0, 0, 511, 252, 124, 60, 16, 0, 4, 0, 1, 0])
theorem L91t15 : low Tryz.prog 35 (at_ Tryz.f91 [1, 1, 0]) = some R91t15 := by kernel_rfl
noncomputable def R91v : RC := (.seq (.reg [⟨(some 3), none, (.box 57 (.tmp 0))⟩, ⟨(some 5), none, (.mov (.const (.int .i64 0)))⟩])
  (.seq (.reg [⟨(some 9), none, (.addo (.tmp 3) 1)⟩, ⟨(some 10), none, (.ld (.tmp 9) 1)⟩, ⟨(some 11), none, (.mov (.tmp 1))⟩, ⟨(some 12), none, (.call ⟨(.value (.func 92)), (List.toArray [(.tmp 10), (.tmp 11)]), (List.toArray [3, 3])⟩ true)⟩, ⟨(some 8), none, (.mov (.tmp 12))⟩, ⟨(some 13), none, (.pur ⟨(some 13), (.extract (.tmp 8) 0), 3, "", (List.toArray []), none⟩)⟩, ⟨(some 14), none, (.pur ⟨(some 14), (.extract (.tmp 8) 1), 3, "", (List.toArray []), none⟩)⟩, ⟨(some 6), none, (.mov (.tmp 13))⟩, ⟨(some 7), none, (.mov (.tmp 14))⟩])
  (.seq (.other (at_ Tryz.f91 [1, 1, 0]))
  .ret)))
theorem V91 : LV Tryz.prog 35 (at_ Tryz.f91 []) R91v := by
  have e : at_ Tryz.f91 [] = (.seq (at_ Tryz.f91 [0]) (.seq (at_ Tryz.f91 [1, 0]) (.seq (at_ Tryz.f91 [1, 1, 0]) (at_ Tryz.f91 [1, 1, 1])))) := by kernel_rfl
  rw [e]
  exact (.seq (.low (by kernel_rfl)) (.seq (.low (by kernel_rfl)) (.seq (.other _) (.low (by kernel_rfl)))))
noncomputable def R94t15 : RC := (.dreg [⟨(some 15), none, (.addo (.tmp 3) 2)⟩, ⟨(some 16), none, (.ld (.tmp 15) 1)⟩, ⟨(some 17), none, (.addo (.tmp 2) 3)⟩, ⟨(some 18), none, (.ld (.tmp 17) 1)⟩, ⟨(some 19), none, (.addo (.tmp 3) 0)⟩, ⟨(some 20), none, (.ld (.tmp 19) 1)⟩, ⟨(some 21), none, (.idx (.tmp 18) (.tmp 20) 2)⟩, ⟨(some 22), none, (.addo (.tmp 21) 0)⟩, ⟨(some 23), none, (.ld (.tmp 22) 1)⟩, ⟨(some 24), none, (.ari .sub (.tmp 16) (.tmp 23))⟩, ⟨(some 25), none, (.mov (.tmp 6))⟩, ⟨(some 26), none, (.addo (.tmp 2) 1)⟩, ⟨(some 27), none, (.ld (.tmp 26) 1)⟩, ⟨(some 28), none, (.ari .mul (.tmp 25) (.tmp 27))⟩, ⟨(some 29), none, (.ari .add (.tmp 24) (.tmp 28))⟩, ⟨(some 30), none, (.mov (.tmp 7))⟩, ⟨(some 31), none, (.addo (.tmp 2) 2)⟩, ⟨(some 32), none, (.ld (.tmp 31) 1)⟩, ⟨(some 33), none, (.ari .mul (.tmp 30) (.tmp 32))⟩, ⟨(some 34), none, (.ari .add (.tmp 29) (.tmp 33))⟩, ⟨(some 5), none, (.mov (.tmp 34))⟩] [1048575, 524287, 229376, 65536, 0, 0, 16383, 7168, 2048, 0, 0, 511, 252, 124, 60, 16, 0, 4, 0, 1, 0])
theorem L94t15 : low Tryz.prog 35 (at_ Tryz.f94 [1, 1, 0]) = some R94t15 := by kernel_rfl
noncomputable def R94v : RC := (.seq (.reg [⟨(some 3), none, (.box 57 (.tmp 0))⟩, ⟨(some 5), none, (.mov (.const (.int .i64 0)))⟩])
  (.seq (.reg [⟨(some 9), none, (.addo (.tmp 3) 1)⟩, ⟨(some 10), none, (.ld (.tmp 9) 1)⟩, ⟨(some 11), none, (.mov (.tmp 1))⟩, ⟨(some 12), none, (.call ⟨(.value (.func 92)), (List.toArray [(.tmp 10), (.tmp 11)]), (List.toArray [3, 3])⟩ true)⟩, ⟨(some 8), none, (.mov (.tmp 12))⟩, ⟨(some 13), none, (.pur ⟨(some 13), (.extract (.tmp 8) 0), 3, "", (List.toArray []), none⟩)⟩, ⟨(some 14), none, (.pur ⟨(some 14), (.extract (.tmp 8) 1), 3, "", (List.toArray []), none⟩)⟩, ⟨(some 6), none, (.mov (.tmp 13))⟩, ⟨(some 7), none, (.mov (.tmp 14))⟩])
  (.seq (.other (at_ Tryz.f94 [1, 1, 0]))
  .ret)))
theorem V94 : LV Tryz.prog 35 (at_ Tryz.f94 []) R94v := by
  have e : at_ Tryz.f94 [] = (.seq (at_ Tryz.f94 [0]) (.seq (at_ Tryz.f94 [1, 0]) (.seq (at_ Tryz.f94 [1, 1, 0]) (at_ Tryz.f94 [1, 1, 1])))) := by kernel_rfl
  rw [e]
  exact (.seq (.low (by kernel_rfl)) (.seq (.low (by kernel_rfl)) (.seq (.other _) (.low (by kernel_rfl)))))

section
variable {kn : FuncId → Option Bool} {lo : Nat} {H : Hp}
theorem allowLo_ok {bn sn scap k : Nat} {sa : Option Addr} {ss : List (Int × Int)} {slots fall rise s sl v t l h : Int} {rv : Value} (hb : Rd H bn [iv slots, iv fall, iv rise, .slice sa sn scap, rv]) (hs : Sl H sa sn scap (spc ss)) (hsn : ss.length = sn) (hk : s = (k : Int)) (hx : ss[k]? = some (l, h))
    (b1 : -10000 ≤ v ∧ v ≤ 10000) (b2 : -10000 ≤ l ∧ l ≤ 10000) (b3 : -10000 ≤ h ∧ h ≤ 10000) (b4 : 0 ≤ sl ∧ sl ≤ 1000) (b5 : 0 ≤ t ∧ t ≤ 1000) (b6 : 0 ≤ fall ∧ fall ≤ 10000) (b7 : 0 ≤ rise ∧ rise ≤ 10000) :
    ∃ H', FnX Tryz.prog kn lo 91 [.agg #[iv s, iv sl, iv v], iv t, pt bn] H (iv (v - h - max 0 (sl - t) * rise - max 0 (t - sl) * fall)) H' ∧ Keep H H' [] := by
  have key := fnX_lv (kn := kn) (lo := lo) (H := H) (args := [.agg #[iv s, iv sl, iv v], iv t, pt bn]) (Q := fun w H' => w = iv (v - h - max 0 (sl - t) * rise - max 0 (t - sl) * fall) ∧ Keep H H' []) Tryz.func91 B91 N91 Z91 V91 (by simp) ?_
  · obtain ⟨w, H', f, rfl, q⟩ := key; exact ⟨H', f, q⟩
  intro H1 hH1; obtain ⟨k1, n1, c1⟩ := new_facts hH1; clear hH1
  have c1 : Cl H1 H.next [iv s, iv sl, iv v] := c1
  have hb1 := k1.rd hb (by simp)
  have hs1 := k1.sl0 hs
  have hkl := get_lt hx
  rcases hs1 with ⟨_, h0, _⟩ | ⟨sb, rfl, hsc, _⟩
  · omega
  have ra := max_bound (a := sl) (b := t) b4 b5
  have rb := max_bound (a := t) (b := sl) b5 b4
  have ma := mul_bound ra b7
  have mb := mul_bound rb b6
  refine Exists.intro _ (Exists.intro _ (And.intro c1.of (And.intro (show _ = some (iv sl) from rfl) ?_)))
  refine Exists.intro _ (Exists.intro _ (And.intro (callX_args (dist_ok (r := sl) (s := t) ⟨by omega, by omega⟩ ⟨by omega, by omega⟩)) ?_))
  refine And.intro rfl (Exists.intro (iv (max 0 (sl - t))) (And.intro rfl ?_))
  refine And.intro rfl (Exists.intro (iv (max 0 (t - sl))) (And.intro rfl ?_))
  generalize max 0 (sl - t) = p at *
  generalize max 0 (t - sl) = q at *
  refine tri_piece (S0 := [(2, pt bn), (3, pt H.next), (6, iv p), (7, iv q)]) L91t15 ⟨rfl, rfl, rfl, rfl, trivial⟩ ?_
  refine wD_dreg ?_
  refine wD_addo (b := H.next) (o := 0) rfl ?_
  refine wD_ld (b := H.next) (o := 0 + 2) (v := iv v) rfl c1.rd rfl ?_
  refine wD_addo (b := bn) (o := 0) rfl ?_
  refine wD_ld (b := bn) (o := 0 + 3) (v := .slice (some ⟨sb, 0, none⟩) sn scap) rfl hb1 rfl ?_
  refine wD_addo (b := H.next) (o := 0) rfl ?_
  refine wD_ld (b := H.next) (o := 0 + 0) (v := iv s) rfl c1.rd rfl ?_
  refine wD_idx (b := sb) (o := 0) (k := k) (j := s) rfl rfl hk (by omega) ?_
  refine wD_addo (b := sb) (o := 0 + k * 2) rfl ?_
  refine wD_ld (b := sb) (o := 0 + k * 2 + 1) (v := iv h) rfl hsc (span_get hx).2 ?_
  refine wD_sub (a := v) (b := h) rfl rfl ⟨by omega, by omega⟩ ?_
  refine wD_mov (v := iv p) rfl ?_
  refine wD_addo (b := bn) (o := 0) rfl ?_
  refine wD_ld (b := bn) (o := 0 + 2) (v := iv rise) rfl hb1 rfl ?_
  refine wD_mul (a := p) (b := rise) rfl rfl ⟨by omega, by omega⟩ ?_
  refine wD_sub (a := v - h) (b := p * rise) rfl rfl ⟨by omega, by omega⟩ ?_
  refine wD_mov (v := iv q) rfl ?_
  refine wD_addo (b := bn) (o := 0) rfl ?_
  refine wD_ld (b := bn) (o := 0 + 1) (v := iv fall) rfl hb1 rfl ?_
  refine wD_mul (a := q) (b := fall) rfl rfl ⟨by omega, by omega⟩ ?_
  refine wD_sub (a := v - h - p * rise) (b := q * fall) rfl rfl ⟨by omega, by omega⟩ ?_
  refine wD_mov (v := iv (v - h - p * rise - q * fall)) rfl ?_
  refine wD_end (by repeat' first | exact True.intro | exact (fun h => h) | refine And.intro ?_ ?_) ?_
  exact And.intro trivial (Exists.intro _ (And.intro rfl ⟨rfl, k1⟩))
theorem allowHi_ok {bn sn scap k : Nat} {sa : Option Addr} {ss : List (Int × Int)} {slots fall rise s sl v t l h : Int} {rv : Value} (hb : Rd H bn [iv slots, iv fall, iv rise, .slice sa sn scap, rv]) (hs : Sl H sa sn scap (spc ss)) (hsn : ss.length = sn) (hk : s = (k : Int)) (hx : ss[k]? = some (l, h))
    (b1 : -10000 ≤ v ∧ v ≤ 10000) (b2 : -10000 ≤ l ∧ l ≤ 10000) (b3 : -10000 ≤ h ∧ h ≤ 10000) (b4 : 0 ≤ sl ∧ sl ≤ 1000) (b5 : 0 ≤ t ∧ t ≤ 1000) (b6 : 0 ≤ fall ∧ fall ≤ 10000) (b7 : 0 ≤ rise ∧ rise ≤ 10000) :
    ∃ H', FnX Tryz.prog kn lo 94 [.agg #[iv s, iv sl, iv v], iv t, pt bn] H (iv (v - l + max 0 (sl - t) * fall + max 0 (t - sl) * rise)) H' ∧ Keep H H' [] := by
  have key := fnX_lv (kn := kn) (lo := lo) (H := H) (args := [.agg #[iv s, iv sl, iv v], iv t, pt bn]) (Q := fun w H' => w = iv (v - l + max 0 (sl - t) * fall + max 0 (t - sl) * rise) ∧ Keep H H' []) Tryz.func94 B94 N94 Z94 V94 (by simp) ?_
  · obtain ⟨w, H', f, rfl, q⟩ := key; exact ⟨H', f, q⟩
  intro H1 hH1; obtain ⟨k1, n1, c1⟩ := new_facts hH1; clear hH1
  have c1 : Cl H1 H.next [iv s, iv sl, iv v] := c1
  have hb1 := k1.rd hb (by simp)
  have hs1 := k1.sl0 hs
  have hkl := get_lt hx
  rcases hs1 with ⟨_, h0, _⟩ | ⟨sb, rfl, hsc, _⟩
  · omega
  have ra := max_bound (a := sl) (b := t) b4 b5
  have rb := max_bound (a := t) (b := sl) b5 b4
  have ma := mul_bound ra b6
  have mb := mul_bound rb b7
  refine Exists.intro _ (Exists.intro _ (And.intro c1.of (And.intro (show _ = some (iv sl) from rfl) ?_)))
  refine Exists.intro _ (Exists.intro _ (And.intro (callX_args (dist_ok (r := sl) (s := t) ⟨by omega, by omega⟩ ⟨by omega, by omega⟩)) ?_))
  refine And.intro rfl (Exists.intro (iv (max 0 (sl - t))) (And.intro rfl ?_))
  refine And.intro rfl (Exists.intro (iv (max 0 (t - sl))) (And.intro rfl ?_))
  generalize max 0 (sl - t) = p at *
  generalize max 0 (t - sl) = q at *
  refine tri_piece (S0 := [(2, pt bn), (3, pt H.next), (6, iv p), (7, iv q)]) L94t15 ⟨rfl, rfl, rfl, rfl, trivial⟩ ?_
  refine wD_dreg ?_
  refine wD_addo (b := H.next) (o := 0) rfl ?_
  refine wD_ld (b := H.next) (o := 0 + 2) (v := iv v) rfl c1.rd rfl ?_
  refine wD_addo (b := bn) (o := 0) rfl ?_
  refine wD_ld (b := bn) (o := 0 + 3) (v := .slice (some ⟨sb, 0, none⟩) sn scap) rfl hb1 rfl ?_
  refine wD_addo (b := H.next) (o := 0) rfl ?_
  refine wD_ld (b := H.next) (o := 0 + 0) (v := iv s) rfl c1.rd rfl ?_
  refine wD_idx (b := sb) (o := 0) (k := k) (j := s) rfl rfl hk (by omega) ?_
  refine wD_addo (b := sb) (o := 0 + k * 2) rfl ?_
  refine wD_ld (b := sb) (o := 0 + k * 2 + 0) (v := iv l) rfl hsc (span_get hx).1 ?_
  refine wD_sub (a := v) (b := l) rfl rfl ⟨by omega, by omega⟩ ?_
  refine wD_mov (v := iv p) rfl ?_
  refine wD_addo (b := bn) (o := 0) rfl ?_
  refine wD_ld (b := bn) (o := 0 + 1) (v := iv fall) rfl hb1 rfl ?_
  refine wD_mul (a := p) (b := fall) rfl rfl ⟨by omega, by omega⟩ ?_
  refine wD_add (a := v - l) (b := p * fall) rfl rfl ⟨by omega, by omega⟩ ?_
  refine wD_mov (v := iv q) rfl ?_
  refine wD_addo (b := bn) (o := 0) rfl ?_
  refine wD_ld (b := bn) (o := 0 + 2) (v := iv rise) rfl hb1 rfl ?_
  refine wD_mul (a := q) (b := rise) rfl rfl ⟨by omega, by omega⟩ ?_
  refine wD_add (a := v - l + p * fall) (b := q * rise) rfl rfl ⟨by omega, by omega⟩ ?_
  refine wD_mov (v := iv (v - l + p * fall + q * rise)) rfl ?_
  refine wD_end (by repeat' first | exact True.intro | exact (fun h => h) | refine And.intro ?_ ?_) ?_
  exact And.intro trivial (Exists.intro _ (And.intro rfl ⟨rfl, k1⟩))
end
end Go.Ax
/-
  Frost, for Temps: bound's inner loop (written by program).
-/
namespace Go.Ax
open Go Go.RowKit Go.Proofs

noncomputable def R89x3t32 : RC := (.dreg [⟨(some 32), none, (.ld (.tmp 9) 1)⟩, ⟨(some 33), none, (.mov (.tmp 10))⟩, ⟨(some 34), none, (.ld (.tmp 6) 1)⟩, ⟨(some 35), none, (.ld (.tmp 9) 1)⟩, ⟨(some 36), none, (.mov (.tmp 10))⟩, ⟨(some 37), none, (.idx (.tmp 35) (.tmp 36) 1)⟩, ⟨(some 38), none, (.ld (.tmp 37) 1)⟩, ⟨(some 39), none, (.ld (.tmp 7) 1)⟩, ⟨(some 40), none, (.lda (.tmp 12) 3)⟩, ⟨(some 41), none, (.mov (.tmp 10))⟩, ⟨(some 42), none, (.call ⟨(.value (.tmp 39)), (List.toArray [(.tmp 40), (.tmp 41)]), (List.toArray [57, 3])⟩ false)⟩, ⟨(some 43), none, (.call ⟨(.value (.tmp 34)), (List.toArray [(.tmp 38), (.tmp 42)]), (List.toArray [3, 3])⟩ false)⟩, ⟨(some 44), none, (.idx (.tmp 32) (.tmp 33) 1)⟩, ⟨none, none, (.st (.tmp 44) (.tmp 43))⟩] [8191, 4095, 2044, 896, 0, 0, 0, 56, 24, 0, 0, 0, 0, 0])
theorem L89x3t32 : low Tryz.prog 47 (at_ Tryz.f89 [1, 1, 0, 1, 0, 1, 0, 1, 1, 0, 0, 1, 1, 0, 0, 1]) = some R89x3t32 := by kernel_rfl
noncomputable def R89x3e : RC := (.reg [⟨(some 45), none, (.ari .add (.tmp 28) (.const (.int .i64 1)))⟩, ⟨(some 28), none, (.mov (.tmp 45))⟩])
theorem L89x3e : low Tryz.prog 47 (at_ Tryz.f89 [1, 1, 0, 1, 0, 1, 0, 1, 1, 0, 0, 1, 1, 1]) = some R89x3e := by kernel_rfl
noncomputable def R89x3v : RC := (.seq (.reg [⟨(some 29), none, (.cmp .lss (.tmp 28) (.tmp 27))⟩])
  (.seq (.cond (.tmp 29) .skip
  (.exit 2))
  (.seq (.block 3 (.seq (.reg [⟨(some 30), none, (.idx (.tmp 26) (.tmp 28) 3)⟩, ⟨(some 31), none, (.lda (.tmp 30) 3)⟩, ⟨(some 12), none, (.alc 57 [(.int .i64 0), (.int .i64 0), (.int .i64 0)])⟩, ⟨none, none, (.sta (.tmp 12) (.tmp 31) 3)⟩])
  (.other (at_ Tryz.f89 [1, 1, 0, 1, 0, 1, 0, 1, 1, 0, 0, 1, 1, 0, 0, 1]))))
  (.other (at_ Tryz.f89 [1, 1, 0, 1, 0, 1, 0, 1, 1, 0, 0, 1, 1, 1])))))
theorem V89x3 : LV Tryz.prog 47 (at_ Tryz.f89 [1, 1, 0, 1, 0, 1, 0, 1, 1, 0, 0]) R89x3v := by
  have e : at_ Tryz.f89 [1, 1, 0, 1, 0, 1, 0, 1, 1, 0, 0] = (.seq (at_ Tryz.f89 [1, 1, 0, 1, 0, 1, 0, 1, 1, 0, 0, 0]) (.seq (at_ Tryz.f89 [1, 1, 0, 1, 0, 1, 0, 1, 1, 0, 0, 1, 0]) (.seq (.block 3 (.seq (at_ Tryz.f89 [1, 1, 0, 1, 0, 1, 0, 1, 1, 0, 0, 1, 1, 0, 0, 0]) (at_ Tryz.f89 [1, 1, 0, 1, 0, 1, 0, 1, 1, 0, 0, 1, 1, 0, 0, 1]))) (at_ Tryz.f89 [1, 1, 0, 1, 0, 1, 0, 1, 1, 0, 0, 1, 1, 1])))) := by kernel_rfl
  rw [e]
  exact (.seq (.low (by kernel_rfl)) (.seq (.low (by kernel_rfl)) (.seq (.block 3 (.seq (.low (by kernel_rfl)) (.other _))) (.other _))))

abbrev slv (b n cap : Nat) : Value := .slice (some ⟨b, 0, none⟩) n cap
/-- A reading. -/
structure Rdg where
  sensor : Int
  slot : Int
  value : Int
def Rdg.v (r : Rdg) : List Value := [iv r.sensor, iv r.slot, iv r.value]
def rdc (rs : List Rdg) : List Value := rs.flatMap Rdg.v
/-- What bound is called with, and where its things lie. -/
structure BN where
  bn : Nat
  f1 : FuncId
  f2 : FuncId
  slots : Int
  fall : Int
  rise : Int
  sv : Value
  ra : Option Addr
  rn : Nat
  rcap : Nat
  rs : List Rdg
  lim : Int
  n : Nat
  tight : Int → Int → Int
  al : Rdg → Int → Int
structure BX where
  b4 : Nat
  b5 : Nat
  b6 : Nat
  b7 : Nat
  b9 : Nat
  bs : Nat
/-- the bound of a slot -/
def BN.at (q : BN) (t : Nat) (i : Nat) : Int := (q.rs.take i).foldl (fun b r => q.tight b (q.al r t)) q.lim
/-- What bound's things read as. -/
structure BE (q : BN) (X : BX) (NB : Hp → Prop) (H : Hp) : Prop where
  c4 : Rd H X.b4 [iv q.slots, iv q.fall, iv q.rise, q.sv, .slice q.ra q.rn q.rcap]
  c5 : Rd H X.b5 [iv q.lim]
  c6 : Rd H X.b6 [.func (.func q.f1) #[] #[]]
  c7 : Rd H X.b7 [.func (.func q.f2) #[] #[pt q.bn]]
  c9 : Rd H X.b9 [slv X.bs q.n q.n]
  rr : Sl H q.ra q.rn q.rcap (rdc q.rs)
  nb : NB H
/-- The things of the caller lie below L. -/
structure BC (kn : FuncId → Option Bool) (q : BN) (X : BX) (NB : Hp → Prop) (L : Nat) : Prop where
  nb : ∀ H H1 w, NB H → Keep H H1 w → (∀ b ∈ w, L ≤ b) → NB H1
  ra : ∀ b, q.ra = some ⟨b, 0, none⟩ → b < L
  t : ∀ lo H a b, FnX Tryz.prog kn lo q.f1 [iv a, iv b] H (iv (q.tight a b)) H
  al : ∀ lo H r t, r ∈ q.rs → t < q.n → NB H → lo ≤ H.next → ∃ H', FnX Tryz.prog kn lo q.f2 [.agg r.v.toArray, iv (t : Nat), pt q.bn] H (iv (q.al r t)) H' ∧ Keep H H' []
  m1 : marked (.fn (.func q.f1) #[]) = false
  m2 : marked (.fn (.func q.f2) #[pt q.bn]) = false
  rl : q.rs.length = q.rn
  rb : q.rn ≤ 1000
  nn : q.n ≤ 1000
  ne : X.bs ≠ X.b4 ∧ X.bs ≠ X.b5 ∧ X.bs ≠ X.b6 ∧ X.bs ≠ X.b7 ∧ X.bs ≠ X.b9 ∧ L ≤ X.bs
theorem BE.keep {kn : FuncId → Option Bool} {q : BN} {X : BX} {NB : Hp → Prop} {L : Nat} {H H1 : Hp} {w : List Nat} (e : BE q X NB H) (c : BC kn q X NB L) (k : Keep H H1 w) (hw : ∀ b ∈ w, L ≤ b) (h4 : X.b4 ∉ w) (h5 : X.b5 ∉ w) (h6 : X.b6 ∉ w) (h7 : X.b7 ∉ w) (h9 : X.b9 ∉ w) : BE q X NB H1 :=
  ⟨k.rd e.c4 h4, k.rd e.c5 h5, k.rd e.c6 h6, k.rd e.c7 h7, k.rd e.c9 h9, k.sl e.rr (fun b h hb => by have := c.ra b h; have := hw b hb; omega), c.nb _ _ _ e.nb k hw⟩
section
variable {kn : FuncId → Option Bool} {lo L : Nat} {H : Hp} {q : BN} {X : BX} {NB : Hp → Prop}
theorem set_set (us : List Int) (t : Nat) (a b : Int) : (us.set t a).set t b = us.set t b := by simp
theorem bound_in {S : Rg} {K : Exit → Rg → Hp → Prop} {t : Nat} {us : List Int} (c : BC kn q X NB L) (e : BE q X NB H) (ht : t < q.n) (hu : us.length = q.n) (hs : Cl H X.bs (ints (us.set t q.lim))) (hl : lo ≤ X.bs) (hlo : lo ≤ H.next)
    (hS : Subs [(9, pt X.b9), (10, iv t), (6, pt X.b6), (7, pt X.b7), (26, .slice q.ra q.rn q.rcap), (27, iv (q.rn : Int)), (28, iv ((0 : Nat) : Int))] S)
    (hK : ∀ S' H', Keep H H' [X.bs] → Cl H' X.bs (ints (us.set t (q.at t q.rn))) → K (.exit 2) S' H') :
    Tri Tryz.prog kn lo 47 true (at_ Tryz.f89 [1, 1, 0, 1, 0, 1, 0, 1, 1, 0]) S H K := by
  obtain ⟨e4, e5, e6, e7, e9, eL⟩ := c.ne
  refine loop_lv E89_3 V89x3 (fun i : Nat => [(9, pt X.b9), (10, iv t), (6, pt X.b6), (7, pt X.b7), (26, .slice q.ra q.rn q.rcap), (27, iv (q.rn : Int)), (28, iv (i : Int))])
    (fun k i H' => i + k = q.rn ∧ Keep H H' [X.bs] ∧ Cl H' X.bs (ints (us.set t (q.at t i)))) q.rn 0 ⟨by omega, Keep.refl _ _, by simpa [BN.at] using hs⟩ hS ?_
  rintro k i H1 ⟨hik, hk, hcl⟩
  have hkn := hk.1
  have hrl := c.rl
  have hrb := c.rb
  refine And.intro (fun hlt => ?_) (fun hge => ?_)
  · have hi : i < q.rn := by simpa using hlt
    have E1 := e.keep c hk (fun b hb => by simp at hb; omega) (by simp; omega) (by simp; omega) (by simp; omega) (by simp; omega) (by simp; omega)
    have hr := E1.rr
    rcases hr with ⟨_, h0, _⟩ | ⟨rb, era, hrc, _⟩
    · omega
    obtain ⟨x, hx⟩ := get_some (l := q.rs) (i := i) (by omega)
    rw [era]
    refine Exists.intro i (And.intro rfl (And.intro hi ?_))
    refine Exists.intro _ (Exists.intro _ (And.intro hrc.of (And.intro (row_flat (f := Rdg.v) (fun _ _ => rfl) hx) ?_)))
    intro H2 hH2; obtain ⟨k2, n2, c2⟩ := new_facts hH2; clear hH2
    obtain ⟨_, e2, l2, g2⟩ := id c2
    refine Exists.intro _ (Exists.intro _ (Exists.intro _ (And.intro g2 (And.intro (by omega) (And.intro rfl (And.intro rfl (And.intro (by simp) ?_)))))))
    intro H3 hH3; obtain ⟨k3, n3, c3⟩ := up_facts c2 hH3; clear hH3
    have c3 : Cl H3 H1.next x.v := c3
    have k13 : Keep H1 H3 [] := k2.new k3 (fun b hb => .inr (by simp at hb; omega))
    have m3 := k13.1
    have E3 := E1.keep c k13 (by simp) (by simp) (by simp) (by simp) (by simp) (by simp)
    have s3 := k13.cl hcl (by simp)
    obtain ⟨H4, h4, k4⟩ := c.al H3.next H3 x t (List.mem_of_getElem? hx) ht E3.nb (Nat.le_refl _)
    have s4 := k4.cl s3 (by simp)
    have hlen : t < (us.set t (q.at t i)).length := by simp; omega
    refine tri_piece (S0 := [(9, pt X.b9), (10, iv t), (6, pt X.b6), (7, pt X.b7), (12, pt H1.next), (26, .slice (some ⟨rb, 0, none⟩) q.rn q.rcap), (27, iv (q.rn : Int)), (28, iv (i : Int))]) L89x3t32 ⟨rfl, rfl, rfl, rfl, rfl, rfl, rfl, rfl, trivial⟩ ?_
    refine wD_dreg ?_
    refine wD_ld (b := X.b9) (o := 0) (v := slv X.bs q.n q.n) rfl E3.c9 rfl ?_
    refine wD_mov (v := iv t) rfl ?_
    refine wD_ld (b := X.b6) (o := 0) (v := .func (.func q.f1) #[] #[]) rfl E3.c6 rfl ?_
    refine wD_ld (b := X.b9) (o := 0) (v := slv X.bs q.n q.n) rfl E3.c9 rfl ?_
    refine wD_mov (v := iv t) rfl ?_
    refine wD_idx (b := X.bs) (o := 0) (k := t) (j := (t : Int)) rfl rfl rfl ht ?_
    refine wD_ld (b := X.bs) (o := 0 + t * 1) (v := iv (q.at t i)) rfl s3.rd (by rw [Nat.zero_add, Nat.mul_one, ints_get hlen]; simp [List.getD, List.getElem?_set, show t < us.length by omega]) ?_
    refine wD_ld (b := X.b7) (o := 0) (v := .func (.func q.f2) #[] #[pt q.bn]) rfl E3.c7 rfl ?_
    refine wD_lda (b := H1.next) (o := 0) rfl c3.rd (show row 3 _ _ = some x.v from rfl) ?_
    refine wD_mov (v := iv t) rfl ?_
    refine wD_callh (t := .fn (.func q.f2) #[pt q.bn]) (vs := [.agg x.v.toArray, iv t]) rfl c.m2 (callX_func rfl (by simpa using h4)) ?_
    refine wD_callh (t := .fn (.func q.f1) #[]) (vs := [iv (q.at t i), iv (q.al x t)]) rfl c.m1 (callX_args (c.t _ _ _ _)) ?_
    refine wD_idx (b := X.bs) (o := 0) (k := t) (j := (t : Int)) rfl rfl rfl ht ?_
    refine wD_st (b := X.bs) (o := 0 + t * 1) (v := iv (q.tight (q.at t i) (q.al x t))) rfl rfl s4 hl rfl rfl (by rw [ints_len]; simp; omega) ?_
    intro H5 k5 n5 c5
    refine wD_end (by repeat' first | exact True.intro | exact (fun h => h) | refine And.intro ?_ ?_) ?_
    refine tri_piece (S0 := [(9, pt X.b9), (10, iv t), (6, pt X.b6), (7, pt X.b7), (26, .slice (some ⟨rb, 0, none⟩) q.rn q.rcap), (27, iv (q.rn : Int)), (28, iv (i : Int))]) L89x3e ⟨rfl, rfl, rfl, rfl, rfl, rfl, rfl, trivial⟩ ?_
    refine And.intro (show InR ((i : Int) + 1) from ⟨by omega, by omega⟩) ?_
    have step : q.at t (i + 1) = q.tight (q.at t i) (q.al x t) := by unfold BN.at; rw [List.take_add_one, hx]; simp
    have c5 : Cl H5 X.bs (ints (us.set t (q.at t (i + 1)))) := by
      rw [Nat.zero_add, Nat.mul_one, ints_set, set_set] at c5
      rw [step]; exact c5
    exact ⟨k - 1, i + 1, by omega, ⟨by omega, ((hk.trans (k13.mono (by simp))).trans (k4.mono (by simp))).trans k5, c5⟩, rfl, rfl, rfl, rfl, rfl, rfl, rfl, trivial⟩
  · have hi : ¬ i < q.rn := by simpa using hge
    have hl : i = q.rn := by omega
    subst hl
    exact hK _ _ hk hcl
end
end Go.Ax
/-
  Frost, for Temps: bound's round.
-/
namespace Go.Ax
open Go Go.RowKit Go.Proofs

/-- the bounds, as far as they are made -/
def doneB (f : Nat → Int) (n i : Nat) : List Int := (List.range i).map f ++ List.replicate (n - i) 0
theorem doneB_len {f : Nat → Int} {n i : Nat} (h : i ≤ n) : (doneB f n i).length = n := by simp [doneB]; omega
theorem doneB_step {f : Nat → Int} {n i : Nat} (h : i < n) : (doneB f n i).set i (f i) = doneB f n (i + 1) := by
  unfold doneB
  rw [List.set_append_right _ _ (by simp), List.range_succ, List.map_append]
  simp only [List.length_map, List.length_range, Nat.sub_self]
  rw [show n - i = (n - (i + 1)) + 1 by omega, List.replicate_succ, List.set_cons_zero]
  simp
theorem doneB_all (f : Nat → Int) (n : Nat) : doneB f n n = (List.range n).map f := by simp [doneB]
noncomputable abbrev asg89 : Code := at_ Tryz.f89 [1, 1, 0, 1, 0, 0]
noncomputable abbrev body89 : Code := at_ Tryz.f89 [1, 1, 0, 1, 0, 1]
abbrev S89 (X : BX) : Rg := [(4, pt X.b4), (5, pt X.b5), (6, pt X.b6), (7, pt X.b7), (9, pt X.b9)]
structure BJ (q : BN) (X : BX) (NB : Hp → Prop) (lo : Nat) (H : Hp) (b1 b2 l r : Nat) (i : Nat) (H' : Hp) : Prop where
  e : BE q X NB H'
  s : Cl H' X.bs (ints (doneB (fun t => q.at t q.rn) q.n i))
  i1 : Rd H' b1 [iv 0]
  i2 : Rd H' b2 [iv ((q.n : Int) - 1)]
  lp : Lp Tryz.prog H' l .ready none 47 (S89 X) [20] asg89 body89 r
  ll : l < H'.next
  lo : lo ≤ H'.next
  dfr : r < H'.next ∧ H'.t.get r = some (.dfr (some []))
  kp : Keep H H' []
structure BG (X : BX) (H : Hp) (lo b1 b2 l r : Nat) : Prop where
  h4 : X.b4 < l
  h5 : X.b5 < l
  h6 : X.b6 < l
  h7 : X.b7 < l
  h9 : X.b9 < l
  hs : X.bs < l
  h1 : b1 < l
  h2 : b2 < l
  hr : r < l
  n1 : X.bs ≠ b1
  n2 : X.bs ≠ b2
  nr : X.bs ≠ r
  hl : H.next ≤ l
  hb : H.next ≤ X.bs
  lob : lo ≤ X.bs
  lol : lo ≤ l
section
variable {kn : FuncId → Option Bool} {lo b1 b2 l r : Nat} {H : Hp} {q : BN} {X : BX} {NB : Hp → Prop}
theorem bound_round (c : BC kn q X NB H.next) (g : BG X H lo b1 b2 l r) {i : Nat} {H1 : Hp} (hi : i < q.n) (j : BJ q X NB lo H b1 b2 l r i H1) :
    ∃ H', CallsX Tryz.prog kn lo (.fn (.yield l) #[]) [iv i] H1 (.bool true) H' ∧ BJ q X NB lo H b1 b2 l r (i + 1) H' := by
  have L1 : low Tryz.prog 47 asg89 = some R89x1 := N89 ▸ L89x1
  have L2 : low Tryz.prog 47 body89 = some R89x2 := N89 ▸ L89x2
  obtain ⟨g4, g5, g6, g7, g9, gs, gb1, gb2, gr, n1, n2, nr, gl, gb, glob, glol⟩ := g
  obtain ⟨e4, e5, e6, e7, e9, eL⟩ := c.ne
  have key := yield_ok (kn := kn) (P := Tryz.prog) (lo := lo) (S1 := (20, iv i) :: S89 X) (args := [iv i]) (Q := fun b H' => b = true ∧ BJ q X NB lo H b1 b2 l r (i + 1) H') j.lp glol (by rfl) rfl (wC_sound true _ L1 ?_)
  · obtain ⟨b, H', h, rfl, q⟩ := key; exact ⟨H', h, q⟩
  refine And.intro trivial (And.intro j.lp ?_)
  intro H4 s4
  have k4 := s4.keep
  have lp4 := s4.lp j.lp
  have hn4 : H4.next = H1.next := s4.1
  have E4 : BE q X NB H4 := j.e.keep c k4 (fun b hb => by simp at hb; omega) (by simp; omega) (by simp; omega) (by simp; omega) (by simp; omega) (by simp; omega)
  have c4 := k4.cl j.s (by simp; omega)
  have jl := j.ll
  have jlo := j.lo
  refine wC_sound true _ L2 ?_
  refine Exists.intro _ (Exists.intro _ (And.intro E4.c9.of (And.intro (show _ = some (slv X.bs q.n q.n) from rfl) ?_)))
  refine Exists.intro _ (Exists.intro _ (And.intro E4.c5.of (And.intro (show _ = some (iv q.lim) from rfl) ?_)))
  refine Exists.intro i (And.intro rfl (And.intro hi ?_))
  obtain ⟨_, e5', l5, g5'⟩ := id c4
  refine Exists.intro _ (Exists.intro _ (Exists.intro _ (And.intro g5' (And.intro glob (And.intro rfl (And.intro rfl (And.intro (by rw [ints_len, doneB_len (by omega)]; omega) ?_)))))))
  intro H5 hH5; obtain ⟨k5, n5, c5⟩ := up_facts c4 hH5; clear hH5
  rw [Nat.zero_add, Nat.mul_one, ints_set] at c5
  have E5 : BE q X NB H5 := E4.keep c k5 (fun b hb => by simp at hb; omega) (by simp; omega) (by simp; omega) (by simp; omega) (by simp; omega) (by simp; omega)
  refine Exists.intro _ (Exists.intro _ (And.intro E5.c4.of (And.intro (show _ = some (.slice q.ra q.rn q.rcap) from rfl) ?_)))
  refine bound_in (t := i) (us := doneB (fun t => q.at t q.rn) q.n i) c E5 hi (doneB_len (by omega)) c5 glob (by omega) ⟨rfl, rfl, rfl, rfl, rfl, rfl, rfl, trivial⟩ ?_
  intro S6 H6 k6 c6
  rw [doneB_step (f := fun t => q.at t q.rn) hi] at c6
  have m6 := k6.1
  have E6 : BE q X NB H6 := E5.keep c k6 (fun b hb => by simp at hb; omega) (by simp; omega) (by simp; omega) (by simp; omega) (by simp; omega) (by simp; omega)
  have lp6 := (lp4.keep k5 (by omega) (by simp; omega)).keep k6 (by omega) (by simp; omega)
  refine And.intro lp6 ?_
  intro H7 s7
  refine ⟨rfl, ?_⟩
  have k7 := s7.keep
  have hn7 : H7.next = H6.next := s7.1
  have k56 : Keep H4 H6 [X.bs] := k5.trans k6
  have d := j.dfr
  have d1 : H7.t.get r = some (.dfr (some [])) := by
    rw [k7.2 r (by have := d.1; omega) (by simp; omega), k56.2 r (by have := d.1; omega) (by simp; omega), k4.2 r d.1 (by simp; omega)]; exact d.2
  refine ⟨E6.keep c k7 (fun b hb => by simp at hb; omega) (by simp; omega) (by simp; omega) (by simp; omega) (by simp; omega) (by simp; omega), k7.cl c6 (by simp; omega), ?_, ?_, s7.lp lp6, by omega, by omega, ⟨by have := d.1; omega, d1⟩, ?_⟩
  · exact k7.rd (k56.rd (k4.rd j.i1 (by simp; omega)) (by simp; omega)) (by simp; omega)
  · exact k7.rd (k56.rd (k4.rd j.i2 (by simp; omega)) (by simp; omega)) (by simp; omega)
  · exact ((j.kp.new k4 (fun b hb => .inr (by simp at hb; omega))).new k56 (fun b hb => .inr (by simp at hb; omega))).new k7 (fun b hb => .inr (by simp at hb; omega))
end
end Go.Ax
/-
  Frost, for Temps: bound (89): the bound of each slot on one side.
-/
namespace Go.Ax
open Go Go.RowKit Go.Proofs

theorem se36 : sliceElem Tryz.prog 36 = some (3, 1) := by kernel_rfl
theorem z3 : zeroOf Tryz.prog 3 = some (.int .i64 0) := by kernel_rfl
theorem i3 : ∃ i, Tryz.prog.info? 3 = some i ∧ i.bytes ≤ 8 := by
  have h : (Tryz.prog.info? 3).map (fun i => i.bytes) = some 8 := by kernel_rfl
  cases e : Tryz.prog.info? 3 with
  | none => rw [e] at h; cases h
  | some i => rw [e] at h; simp at h; exact ⟨i, rfl, by omega⟩
section
variable {kn : FuncId → Option Bool} {lo : Nat} {H : Hp} {q : BN} {NB : Hp → Prop}
theorem bound_ok (hc : ∀ X : BX, X.bs ≠ X.b4 ∧ X.bs ≠ X.b5 ∧ X.bs ≠ X.b6 ∧ X.bs ≠ X.b7 ∧ X.bs ≠ X.b9 ∧ H.next ≤ X.bs → BC kn q X NB H.next) (nb : NB H) (rr : Sl H q.ra q.rn q.rcap (rdc q.rs)) (hs : q.slots = (q.n : Int)) (hn : q.n ≤ 1000) (hlo : lo ≤ H.next) :
    ∃ bs H', FnX Tryz.prog kn lo 89 [.agg #[iv q.slots, iv q.fall, iv q.rise, q.sv, .slice q.ra q.rn q.rcap], iv q.lim, .func (.func q.f1) #[] #[], .func (.func q.f2) #[] #[pt q.bn]] H (slv bs q.n q.n) H' ∧ Keep H H' [] ∧ H.next ≤ bs ∧ Cl H' bs (ints ((List.range q.n).map fun t => q.at t q.rn)) := by
  rw [hs]
  have key := fnX_lowR (kn := kn) (lo := lo) (H := H) (args := [.agg #[iv (q.n : Int), iv q.fall, iv q.rise, q.sv, .slice q.ra q.rn q.rcap], iv q.lim, .func (.func q.f1) #[] #[], .func (.func q.f2) #[] #[pt q.bn]]) (Q := fun v H' => ∃ bs, v = slv bs q.n q.n ∧ Keep H H' [] ∧ H.next ≤ bs ∧ Cl H' bs (ints ((List.range q.n).map fun t => q.at t q.rn))) Tryz.func89 B89 N89 Z89 L89 (by simp) ?_
  · obtain ⟨v, H', h, bs, rfl, r⟩ := key; exact ⟨bs, H', h, r⟩
  intro y hy
  refine TriR.lowR hy ?_
  intro H1 hH1; obtain ⟨k1, n1, c1⟩ := new_facts hH1; clear hH1
  intro H2 hH2; obtain ⟨k2, n2, c2⟩ := new_facts hH2; clear hH2
  intro H3 hH3; obtain ⟨k3, n3, c3⟩ := new_facts hH3; clear hH3
  intro H4 hH4; obtain ⟨k4, n4, c4⟩ := new_facts hH4; clear hH4
  have c1 : Cl H1 H.next [iv (q.n : Int), iv q.fall, iv q.rise, q.sv, .slice q.ra q.rn q.rcap] := c1
  have c2 : Cl H2 H1.next [iv q.lim] := c2
  have c3 : Cl H3 H2.next [.func (.func q.f1) #[] #[]] := c3
  have c4 : Cl H4 H3.next [.func (.func q.f2) #[] #[pt q.bn]] := c4
  have k14 := k2.trans (k3.trans k4)
  have k04 := k1.trans k14
  have d1 := k14.cl c1 (by simp)
  have d2 := (k3.trans k4).cl c2 (by simp)
  have d3 := k4.cl c3 (by simp)
  intro y hy
  refine TriR.lowR hy ?_
  refine Exists.intro _ (Exists.intro _ (And.intro d1.of (And.intro (show _ = some (iv (q.n : Int)) from rfl) ?_)))
  obtain ⟨i0, hi0, hby⟩ := i3
  obtain ⟨H5, hH5⟩ : ∃ H5, H4.new (.cells (ints (List.replicate q.n 0)) 3 false) = H5 := ⟨_, rfl⟩
  refine And.intro rfl (Or.inr (And.intro rfl (Exists.intro _ (Exists.intro H5 (Exists.intro _ (And.intro ((heap_makeInts (m := q.n) se36 z3 hi0 hby rfl rfl (by omega)).trans (by rw [hH5])) (And.intro (fun b e => by cases e) ?_)))))))
  obtain ⟨k5, n5, c5⟩ := new_facts hH5
  clear hH5
  intro H6 hH6; obtain ⟨k6, n6, c6⟩ := new_facts hH6; clear hH6
  obtain ⟨_, e6, l6, g6⟩ := id c6
  refine Exists.intro _ (Exists.intro _ (Exists.intro _ (And.intro g6 (And.intro (by omega) (And.intro rfl (And.intro rfl (And.intro (by simp) ?_)))))))
  intro H7 hH7; obtain ⟨k7, n7, c7⟩ := up_facts c6 hH7; clear hH7
  have c7 : Cl H7 H5.next [slv H4.next q.n q.n] := c7
  have k57 : Keep H5 H7 [] := k6.new k7 (fun b hb => .inr (by simp at hb; omega))
  have k47 : Keep H4 H7 [] := k5.trans k57
  have k07 := k04.trans k47
  have f1 := k47.cl d1 (by simp)
  have f2 := k47.cl d2 (by simp)
  have f3 := k47.cl d3 (by simp)
  have f4 := k47.cl c4 (by simp)
  have f5 := k57.cl c5 (by simp)
  intro y hy
  refine TriR.lowL hy ?_
  intro z hz
  refine TriR.lowR hz ?_
  refine Exists.intro _ (Exists.intro _ (And.intro f1.of (And.intro (show _ = some (iv (q.n : Int)) from rfl) ?_)))
  refine And.intro (show InR ((q.n : Int) - 1) from ⟨by omega, by omega⟩) ?_
  obtain ⟨b1, b2, H8, h8, k8, hb1, hb2, t1, t2⟩ := slots_ok (kn := kn) (lo := lo) (H := H7) (a := 0) (b := (q.n : Int) - 1)
  refine Exists.intro _ (Exists.intro _ (And.intro (callX_args h8) ?_))
  intro y hy
  refine TriR.lowB hy ?_
  rw [E89_1]
  refine TriR.range rfl ?_
  intro H9 k9 n9 hd hlp
  have k79 := k8.trans k9
  have k09 := k07.trans k79
  have m7 := k07.1
  have m8 := k8.1
  have lt1 := t1.lt
  have lt2 := t2.lt
  let X : BX := ⟨H.next, H1.next, H2.next, H3.next, H5.next, H4.next⟩
  have c : BC kn q X NB H.next := hc X ⟨by show H4.next ≠ H.next; omega, by show H4.next ≠ H1.next; omega, by show H4.next ≠ H2.next; omega, by show H4.next ≠ H3.next; omega, by show H4.next ≠ H5.next; omega, by show H.next ≤ H4.next; omega⟩
  have G : BG X H lo b1 b2 (H8.next + 1) H8.next := ⟨by show H.next < H8.next + 1; omega, by show H1.next < H8.next + 1; omega, by show H2.next < H8.next + 1; omega, by show H3.next < H8.next + 1; omega, by show H5.next < H8.next + 1; omega, by show H4.next < H8.next + 1; omega, by omega, by omega, by omega, by show H4.next ≠ b1; omega, by show H4.next ≠ b2; omega, by show H4.next ≠ H8.next; omega, by omega, by show H.next ≤ H4.next; omega, by show lo ≤ H4.next; omega, by omega⟩
  have j0 : BJ q X NB lo H b1 b2 (H8.next + 1) H8.next 0 H9 := by
    refine ⟨⟨by rw [hs]; exact (k79.cl f1 (by simp)).rd, (k79.cl f2 (by simp)).rd, (k79.cl f3 (by simp)).rd, (k79.cl f4 (by simp)).rd, (k79.cl c7 (by simp)).rd, k09.sl0 rr, c.nb _ _ _ nb k09 (by simp)⟩, ?_, k9.rd t1.rd (by simp), k9.rd t2.rd (by simp), hlp.weak ⟨rfl, rfl, rfl, rfl, rfl, trivial⟩, by omega, by omega, ⟨by omega, hd⟩, k09⟩
    have := k79.cl f5 (by simp)
    simpa [doneB] using this
  obtain ⟨H10, h10, j⟩ := iter_ok (kn := kn) (lo := lo) (l := H8.next + 1) (b1 := b1) (b2 := b2) (n := q.n) (BJ q X NB lo H b1 b2 (H8.next + 1) H8.next) hn j0 (fun i H j => ⟨j.i1, j.i2⟩) (fun i H hi j => bound_round c G hi j)
  refine Exists.intro _ (Exists.intro H10 (And.intro (callX_func rfl (by simpa using h10)) ?_))
  refine ⟨.ready, none, _, j.lp, by simp, ?_⟩
  intro H11 s11
  have k11 := s11.keep
  have hn11 : H11.next = H10.next := s11.1
  have d := j.dfr
  have q9 := k11.rd j.e.c9 (by show H5.next ∉ [H8.next + 1]; simp; omega)
  have qs := k11.cl j.s (by show H4.next ∉ [H8.next + 1]; simp; omega)
  refine Exists.intro _ (Exists.intro _ (And.intro q9.of (And.intro (show _ = some (slv H4.next q.n q.n) from rfl) ?_)))
  have hd11 : H11.t.get H8.next = some (.dfr (some [])) := by
    rw [k11.2 _ d.1 (by simp)]; exact d.2
  have kH : Keep H H11 [] := j.kp.new k11 (fun b hb => .inr (by simp at hb; omega))
  refine And.intro trivial (Or.inr ⟨H8.next, rfl, by omega, hd11, fun H14 hn14 hs14 => ?_⟩)
  have k14' : Keep H11 H14 [H8.next] := ⟨by omega, fun b _ hb => hs14 b (by simpa using hb)⟩
  rw [doneB_all] at qs
  exact ⟨_, rfl, H4.next, rfl, kH.new k14' (fun b hb => .inr (by simp at hb; omega)), by omega, k14'.cl qs (by show H4.next ∉ [H8.next]; simp; omega)⟩
end
end Go.Ax
/-
  Frost, for Temps: leastTemps (65) and greatestTemps (66) (written by program).
-/
namespace Go.Ax
open Go Go.RowKit Go.Proofs

/-- A night. -/
structure Ng where
  slots : Int
  fall : Int
  rise : Int
  n : Nat
  sa : Option Addr
  sn : Nat
  scap : Nat
  ss : List (Int × Int)
  ra : Option Addr
  rn : Nat
  rcap : Nat
  rs : List Rdg
abbrev Ng.v (g : Ng) : List Value := [iv g.slots, iv g.fall, iv g.rise, .slice g.sa g.sn g.scap, .slice g.ra g.rn g.rcap]
/-- What a valid night is. -/
structure Ng.Vd (g : Ng) : Prop where
  sl : g.slots = (g.n : Int)
  n96 : g.n ≤ 96
  f : 0 ≤ g.fall ∧ g.fall ≤ 1000
  ri : 0 ≤ g.rise ∧ g.rise ≤ 1000
  sn : g.ss.length = g.sn
  rl : g.rs.length = g.rn
  r200 : g.rn ≤ 200
  s : ∀ x ∈ g.ss, -5000 ≤ x.1 ∧ x.1 ≤ x.2 ∧ x.2 ≤ 5000
  r : ∀ r ∈ g.rs, (0 ≤ r.sensor ∧ r.sensor < g.sn) ∧ (0 ≤ r.slot ∧ r.slot < g.slots) ∧ (-5000 ≤ r.value ∧ r.value ≤ 5000)
def Ng.alLo (g : Ng) (r : Rdg) (t : Int) : Int := r.value - (g.ss.getD r.sensor.toNat (0, 0)).2 - max 0 (r.slot - t) * g.rise - max 0 (t - r.slot) * g.fall
def Ng.alHi (g : Ng) (r : Rdg) (t : Int) : Int := r.value - (g.ss.getD r.sensor.toNat (0, 0)).1 + max 0 (r.slot - t) * g.fall + max 0 (t - r.slot) * g.rise
/-- the least and the greatest temperature of a slot -/
def Ng.least (g : Ng) (t : Nat) : Int := g.rs.foldl (fun b r => max b (g.alLo r t)) (-5000)
def Ng.great (g : Ng) (t : Nat) : Int := g.rs.foldl (fun b r => min b (g.alHi r t)) 5000
section
variable {kn : FuncId → Option Bool} {lo : Nat} {H : Hp}
theorem least_ok {g : Ng} (v : g.Vd) (hs : Sl H g.sa g.sn g.scap (spc g.ss)) (hr : Sl H g.ra g.rn g.rcap (rdc g.rs)) (hlo : lo ≤ H.next) :
    ∃ bs H', FnX Tryz.prog kn lo 65 [.agg g.v.toArray] H (slv bs g.n g.n) H' ∧ Keep H H' [] ∧ H.next ≤ bs ∧ Cl H' bs (ints ((List.range g.n).map g.least)) := by
  have key := fnX_low (kn := kn) (lo := lo) (H := H) (args := [.agg g.v.toArray]) (Q := fun w H' => ∃ bs, w = slv bs g.n g.n ∧ Keep H H' [] ∧ H.next ≤ bs ∧ Cl H' bs (ints ((List.range g.n).map g.least))) Tryz.func65 B65 N65 Z65 L65 (by simp) ?_
  · obtain ⟨w, H', h, bs, rfl, q⟩ := key; exact ⟨bs, H', h, q⟩
  intro H1 hH1; obtain ⟨k1, n1, c1⟩ := new_facts hH1; clear hH1
  have c1 : Cl H1 H.next g.v := c1
  refine Exists.intro _ (Exists.intro _ (And.intro c1.of (And.intro (show row 5 _ _ = some g.v from rfl) ?_)))
  refine And.intro rfl (Exists.intro (.func (.func 91) #[] #[pt H.next]) (And.intro (by kernel_rfl) ?_))
  have olds : ∀ b, g.sa = some ⟨b, 0, none⟩ → b < H.next := fun b e => by
    rcases hs with ⟨h | h, _⟩ | ⟨b', e', h, _⟩
    · rw [h] at e; cases e
    · rw [h] at e; cases e
    · rw [e'] at e; cases e; exact h.lt
  have oldr : ∀ b, g.ra = some ⟨b, 0, none⟩ → b < H1.next := fun b e => by
    rcases hr with ⟨h | h, _⟩ | ⟨b', e', h, _⟩
    · rw [h] at e; cases e
    · rw [h] at e; cases e
    · rw [e'] at e; cases e; have := h.lt; omega
  let q : BN := ⟨H.next, 90, 91, g.slots, g.fall, g.rise, .slice g.sa g.sn g.scap, g.ra, g.rn, g.rcap, g.rs, -5000, g.n, max, fun r t => g.alLo r t⟩
  have hBC : ∀ X : BX, X.bs ≠ X.b4 ∧ X.bs ≠ X.b5 ∧ X.bs ≠ X.b6 ∧ X.bs ≠ X.b7 ∧ X.bs ≠ X.b9 ∧ H1.next ≤ X.bs → BC kn q X (fun H => Rd H q.bn g.v ∧ Sl H g.sa g.sn g.scap (spc g.ss)) H1.next := by
    intro X hne
    refine ⟨fun H H' w nb k hw => ⟨k.rd nb.1 (fun h => by have := hw _ h; show False; have : q.bn = _ := rfl; simp [q] at *; omega), k.sl nb.2 (fun b e h => by have := hw _ h; have := olds b e; omega)⟩, oldr, fun lo H a b => greater_ok, ?_, rfl, rfl, v.rl, by have := v.r200; show g.rn ≤ 1000; omega, by have := v.n96; show g.n ≤ 1000; omega, hne⟩
    intro lo H r t hm ht nb _
    obtain ⟨⟨s1, s2⟩, ⟨l1, l2⟩, ⟨w1, w2⟩⟩ := v.r r hm
    obtain ⟨x, hx⟩ := get_some (l := g.ss) (i := r.sensor.toNat) (by rw [v.sn]; omega)
    obtain ⟨x1, x2⟩ := x
    obtain ⟨y1, y2, y3⟩ := v.s _ (List.mem_of_getElem? hx)
    have ht : t < g.n := ht
    have hn := v.n96
    have hq := v.sl
    have hf := v.f
    have hri := v.ri
    simp only at y1 y2 y3
    obtain ⟨H', h', k'⟩ := allowLo_ok (kn := kn) (lo := lo) (H := H) (bn := q.bn) (s := r.sensor) (sl := r.slot) (v := r.value) (t := (t : Int)) (k := r.sensor.toNat) nb.1 nb.2 v.sn (by omega) hx ⟨by omega, by omega⟩ ⟨by omega, by omega⟩ ⟨by omega, by omega⟩ ⟨by omega, by omega⟩ ⟨by omega, by omega⟩ ⟨by omega, by omega⟩ ⟨by omega, by omega⟩
    refine ⟨H', ?_, k'⟩
    have e : q.al r t = r.value - x2 - max 0 (r.slot - t) * g.rise - max 0 (t - r.slot) * g.fall := by
      show g.alLo r t = _
      simp [Ng.alLo, List.getD, hx]
    rw [e]; exact h'
  obtain ⟨bs, H2, h2, k2, hb, c2⟩ := bound_ok (kn := kn) (lo := lo) (H := H1) (q := q) hBC ⟨c1.rd, k1.sl0 hs⟩ (k1.sl0 hr) v.sl (by have := v.n96; show g.n ≤ 1000; omega) (by omega)
  refine Exists.intro _ (Exists.intro _ (And.intro (callX_args h2) ?_))
  refine And.intro trivial (Exists.intro _ (And.intro rfl ⟨bs, rfl, k1.trans k2, by omega, ?_⟩))
  have e : ((List.range q.n).map fun t => q.at t q.rn) = (List.range g.n).map g.least := by
    show ((List.range g.n).map fun t => q.at t g.rn) = _
    refine List.map_congr_left fun t _ => ?_
    unfold BN.at
    rw [show q.rs.take g.rn = g.rs from List.take_of_length_le (by have := v.rl; show g.rs.length ≤ g.rn; omega)]
    rfl
  rw [e] at c2; exact c2
theorem great_ok {g : Ng} (v : g.Vd) (hs : Sl H g.sa g.sn g.scap (spc g.ss)) (hr : Sl H g.ra g.rn g.rcap (rdc g.rs)) (hlo : lo ≤ H.next) :
    ∃ bs H', FnX Tryz.prog kn lo 66 [.agg g.v.toArray] H (slv bs g.n g.n) H' ∧ Keep H H' [] ∧ H.next ≤ bs ∧ Cl H' bs (ints ((List.range g.n).map g.great)) := by
  have key := fnX_low (kn := kn) (lo := lo) (H := H) (args := [.agg g.v.toArray]) (Q := fun w H' => ∃ bs, w = slv bs g.n g.n ∧ Keep H H' [] ∧ H.next ≤ bs ∧ Cl H' bs (ints ((List.range g.n).map g.great))) Tryz.func66 B66 N66 Z66 L66 (by simp) ?_
  · obtain ⟨w, H', h, bs, rfl, q⟩ := key; exact ⟨bs, H', h, q⟩
  intro H1 hH1; obtain ⟨k1, n1, c1⟩ := new_facts hH1; clear hH1
  have c1 : Cl H1 H.next g.v := c1
  refine Exists.intro _ (Exists.intro _ (And.intro c1.of (And.intro (show row 5 _ _ = some g.v from rfl) ?_)))
  refine And.intro rfl (Exists.intro (.func (.func 94) #[] #[pt H.next]) (And.intro (by kernel_rfl) ?_))
  have olds : ∀ b, g.sa = some ⟨b, 0, none⟩ → b < H.next := fun b e => by
    rcases hs with ⟨h | h, _⟩ | ⟨b', e', h, _⟩
    · rw [h] at e; cases e
    · rw [h] at e; cases e
    · rw [e'] at e; cases e; exact h.lt
  have oldr : ∀ b, g.ra = some ⟨b, 0, none⟩ → b < H1.next := fun b e => by
    rcases hr with ⟨h | h, _⟩ | ⟨b', e', h, _⟩
    · rw [h] at e; cases e
    · rw [h] at e; cases e
    · rw [e'] at e; cases e; have := h.lt; omega
  let q : BN := ⟨H.next, 93, 94, g.slots, g.fall, g.rise, .slice g.sa g.sn g.scap, g.ra, g.rn, g.rcap, g.rs, 5000, g.n, min, fun r t => g.alHi r t⟩
  have hBC : ∀ X : BX, X.bs ≠ X.b4 ∧ X.bs ≠ X.b5 ∧ X.bs ≠ X.b6 ∧ X.bs ≠ X.b7 ∧ X.bs ≠ X.b9 ∧ H1.next ≤ X.bs → BC kn q X (fun H => Rd H q.bn g.v ∧ Sl H g.sa g.sn g.scap (spc g.ss)) H1.next := by
    intro X hne
    refine ⟨fun H H' w nb k hw => ⟨k.rd nb.1 (fun h => by have := hw _ h; show False; have : q.bn = _ := rfl; simp [q] at *; omega), k.sl nb.2 (fun b e h => by have := hw _ h; have := olds b e; omega)⟩, oldr, fun lo H a b => lesser_ok, ?_, rfl, rfl, v.rl, by have := v.r200; show g.rn ≤ 1000; omega, by have := v.n96; show g.n ≤ 1000; omega, hne⟩
    intro lo H r t hm ht nb _
    obtain ⟨⟨s1, s2⟩, ⟨l1, l2⟩, ⟨w1, w2⟩⟩ := v.r r hm
    obtain ⟨x, hx⟩ := get_some (l := g.ss) (i := r.sensor.toNat) (by rw [v.sn]; omega)
    obtain ⟨x1, x2⟩ := x
    obtain ⟨y1, y2, y3⟩ := v.s _ (List.mem_of_getElem? hx)
    have ht : t < g.n := ht
    have hn := v.n96
    have hq := v.sl
    have hf := v.f
    have hri := v.ri
    simp only at y1 y2 y3
    obtain ⟨H', h', k'⟩ := allowHi_ok (kn := kn) (lo := lo) (H := H) (bn := q.bn) (s := r.sensor) (sl := r.slot) (v := r.value) (t := (t : Int)) (k := r.sensor.toNat) nb.1 nb.2 v.sn (by omega) hx ⟨by omega, by omega⟩ ⟨by omega, by omega⟩ ⟨by omega, by omega⟩ ⟨by omega, by omega⟩ ⟨by omega, by omega⟩ ⟨by omega, by omega⟩ ⟨by omega, by omega⟩
    refine ⟨H', ?_, k'⟩
    have e : q.al r t = r.value - x1 + max 0 (r.slot - t) * g.fall + max 0 (t - r.slot) * g.rise := by
      show g.alHi r t = _
      simp [Ng.alHi, List.getD, hx]
    rw [e]; exact h'
  obtain ⟨bs, H2, h2, k2, hb, c2⟩ := bound_ok (kn := kn) (lo := lo) (H := H1) (q := q) hBC ⟨c1.rd, k1.sl0 hs⟩ (k1.sl0 hr) v.sl (by have := v.n96; show g.n ≤ 1000; omega) (by omega)
  refine Exists.intro _ (Exists.intro _ (And.intro (callX_args h2) ?_))
  refine And.intro trivial (Exists.intro _ (And.intro rfl ⟨bs, rfl, k1.trans k2, by omega, ?_⟩))
  have e : ((List.range q.n).map fun t => q.at t q.rn) = (List.range g.n).map g.great := by
    show ((List.range g.n).map fun t => q.at t g.rn) = _
    refine List.map_congr_left fun t _ => ?_
    unfold BN.at
    rw [show q.rs.take g.rn = g.rs from List.take_of_length_le (by have := v.rl; show g.rs.length ≤ g.rn; omega)]
    rfl
  rw [e] at c2; exact c2
end
end Go.Ax
/-
  Frost, for Temps: spansBetween (64), which panics where a least temperature is above the greatest one (written by program).
-/
namespace Go.Ax
open Go Go.RowKit Go.Proofs

theorem putRow_mid : ∀ (z vs pre post : List Value), z.length = vs.length → putRow (pre ++ (z ++ post)) pre.length vs = pre ++ (vs ++ post)
  | [], [], pre, post, _ => by simp [putRow]
  | [], _ :: _, _, _, h => by simp at h
  | _ :: _, [], _, _, h => by simp at h
  | a :: z, v :: vs, pre, post, h => by
    have ih := putRow_mid z vs (pre ++ [v]) post (by simpa using h)
    simp only [List.length_append, List.length_cons, List.length_nil, List.append_assoc, List.cons_append, List.nil_append] at ih
    rw [putRow]
    simp only [List.cons_append, List.set_append_right _ _ (Nat.le_refl _), Nat.sub_self, List.set_cons_zero]
    exact ih
/-- One of the records, whole. -/
theorem flat_put {α : Type} {f : α → List Value} {size : Nat} {l : List α} (hf : ∀ x, (f x).length = size) {i : Nat} (h : i < l.length) (y : α) : putRow (l.flatMap f) (0 + i * size) (f y) = (l.set i y).flatMap f := by
  have e : l = l.take i ++ l[i] :: l.drop (i + 1) := by
    rw [← List.drop_eq_getElem_cons h]; exact (List.take_append_drop i l).symm
  have e2 : l.set i y = l.take i ++ y :: l.drop (i + 1) := by
    rw [List.set_eq_take_append_cons_drop, if_pos h]
  have hl : ((l.take i).flatMap f).length = 0 + i * size := by
    rw [flat_len (fun x _ => hf x), List.length_take]
    rw [Nat.min_eq_left (by omega)]; omega
  rw [e2]
  conv => lhs; rw [e]
  rw [List.flatMap_append, List.flatMap_append, List.flatMap_cons, List.flatMap_cons, ← hl]
  exact putRow_mid _ _ _ _ (by rw [hf, hf])
theorem zeros_flat {α : Type} {f : α → List Value} {z : α} (n : Nat) : zeros (f z) n = (List.replicate n z).flatMap f := by
  induction n with
  | zero => rfl
  | succ n ih => simp only [zeros, ih, List.replicate_succ, List.flatMap_cons]
section
variable {P : Program} {kn : FuncId → Option Bool} {lo : Nat}
theorem heap_makeZ {n : Nat} {S : Rg} {H : Hp} {d : Option Tmp} {t e ty : TypeId} {x y : Operand} {p : String} {i : TypeInfo} {m size : Nat} {z : Value} (he : sliceElem P t = some (e, size)) (hz : zeroOf P e = some z) (hi : P.info? e = some i) (hb : i.bytes ≤ 1000)
    (hx : evS S x = some (.int .i64 (m : Int))) (hy : evS S y = some (.int .i64 (m : Int))) (hm : m ≤ 1048576) :
    heapOp P lo (frS n S) H ⟨d, .makeSlice t x y, ty, p, #[], none⟩ = some (.val (.slice (some ⟨H.next, 0, none⟩) m m) (H.new (.cells (zeros z.cells.toList m) e false)), .heavy) := by
  have h1 : Nat.ble (i.bytes * m) 1099511627776 = true := Nat.ble_eq_true_of_le (Nat.le_trans (Nat.mul_le_mul hb hm) (by decide))
  unfold heapOp
  simp only [ev_frS, hx, hy, he, hz, hi, show ((m : Nat) : Int) = Int.ofNat m from rfl, Nat.ble_eq_true_of_le (Nat.le_refl m), h1, Nat.ble_eq_true_of_le hm, Bool.and_true, cond_true]
end
theorem z48 : zeroOf Tryz.prog 48 = some (.agg #[.int .i64 0, .int .i64 0]) := by kernel_rfl
theorem i48 : ∃ i, Tryz.prog.info? 48 = some i ∧ i.bytes ≤ 1000 := by
  have h : (Tryz.prog.info? 48).map (fun i => i.bytes) = some 16 := by kernel_rfl
  cases e : Tryz.prog.info? 48 with
  | none => rw [e] at h; cases h
  | some i => rw [e] at h; simp at h; exact ⟨i, rfl, by omega⟩

theorem pure_span {lo n : Nat} {S : Rg} {d : Option Tmp} {x y : Operand} {p : String} {a b : Int} (hx : evS S x = some (iv a)) (hy : evS S y = some (iv b)) :
    pureOp Tryz.prog (frS n S) ⟨d, .build 48 #[(0, x), (1, y)], 48, p, #[], none⟩ = some (.agg #[iv a, iv b]) := by
  have hu : ∃ fs, Tryz.prog.underlying 48 = some (.struct fs) ∧ placesOf Tryz.prog fs.toList = some [(0, 1), (1, 1)] := by
    have h : (match Tryz.prog.underlying 48 with | some (.struct fs) => placesOf Tryz.prog fs.toList | _ => none) = some [(0, 1), (1, 1)] := by kernel_rfl
    split at h
    · rename_i fs e; exact ⟨fs, e, h⟩
    · cases h
  obtain ⟨fs, h1, h2⟩ := hu
  unfold pureOp
  simp only [partsOf, ev_frS, hx, hy, z48, h1, h2]
  rfl
noncomputable def R64x1t24 : RC := (.reg [⟨(some 24), none, (.pur ⟨(some 24), (.build 125 (List.toArray [])), 125, "", (List.toArray []), none⟩)⟩, ⟨(some 25), none, (.pur ⟨(some 25), (.makeInterface 125 (.tmp 24)), 20, "", (List.toArray []), none⟩)⟩, ⟨none, none, .dead⟩])
theorem L64x1t24 : low Tryz.prog 37 (at_ Tryz.f64 [1, 1, 0, 1, 0, 0, 1, 1, 0, 0, 1, 0, 1, 0]) = some R64x1t24 := by kernel_rfl
noncomputable def R64x1e : RC := (.reg [⟨(some 35), none, (.ari .add (.tmp 13) (.const (.int .i64 1)))⟩, ⟨(some 13), none, (.mov (.tmp 35))⟩])
theorem L64x1e : low Tryz.prog 37 (at_ Tryz.f64 [1, 1, 0, 1, 0, 0, 1, 1, 1]) = some R64x1e := by kernel_rfl
noncomputable def R64x1v : RC := (.seq (.reg [⟨(some 14), none, (.cmp .lss (.tmp 13) (.tmp 12))⟩])
  (.seq (.cond (.tmp 14) .skip
  (.exit 0))
  (.seq (.block 1 (.seq (.reg [⟨(some 15), none, (.mov (.tmp 13))⟩, ⟨(some 16), none, (.idx (.tmp 11) (.tmp 13) 1)⟩, ⟨(some 17), none, (.ld (.tmp 16) 1)⟩, ⟨(some 6), none, (.mov (.tmp 15))⟩, ⟨(some 7), none, (.mov (.tmp 17))⟩])
  (.seq (.seq (.reg [⟨(some 18), none, (.mov (.tmp 7))⟩, ⟨(some 19), none, (.mov (.tmp 1))⟩, ⟨(some 20), none, (.mov (.tmp 6))⟩, ⟨(some 21), none, (.idx (.tmp 19) (.tmp 20) 1)⟩, ⟨(some 22), none, (.ld (.tmp 21) 1)⟩, ⟨(some 23), none, (.cmp .gtr (.tmp 18) (.tmp 22))⟩])
  (.cond (.tmp 23) (.other (at_ Tryz.f64 [1, 1, 0, 1, 0, 0, 1, 1, 0, 0, 1, 0, 1, 0]))
  .skip))
  (.reg [⟨(some 26), none, (.mov (.tmp 5))⟩, ⟨(some 27), none, (.mov (.tmp 6))⟩, ⟨(some 28), none, (.mov (.tmp 7))⟩, ⟨(some 29), none, (.mov (.tmp 1))⟩, ⟨(some 30), none, (.mov (.tmp 6))⟩, ⟨(some 31), none, (.idx (.tmp 29) (.tmp 30) 1)⟩, ⟨(some 32), none, (.ld (.tmp 31) 1)⟩, ⟨(some 33), none, (.pur ⟨(some 33), (.build 48 (List.toArray [(0, (.tmp 28)), (1, (.tmp 32))])), 48, "", (List.toArray []), none⟩)⟩, ⟨(some 34), none, (.idx (.tmp 26) (.tmp 27) 2)⟩, ⟨none, none, (.sta (.tmp 34) (.tmp 33) 2)⟩]))))
  (.other (at_ Tryz.f64 [1, 1, 0, 1, 0, 0, 1, 1, 1])))))
theorem V64x1 : LV Tryz.prog 37 (at_ Tryz.f64 [1, 1, 0, 1, 0, 0]) R64x1v := by
  have e : at_ Tryz.f64 [1, 1, 0, 1, 0, 0] = (.seq (at_ Tryz.f64 [1, 1, 0, 1, 0, 0, 0]) (.seq (at_ Tryz.f64 [1, 1, 0, 1, 0, 0, 1, 0]) (.seq (.block 1 (.seq (at_ Tryz.f64 [1, 1, 0, 1, 0, 0, 1, 1, 0, 0, 0]) (.seq (.seq (at_ Tryz.f64 [1, 1, 0, 1, 0, 0, 1, 1, 0, 0, 1, 0, 0]) (.cond (.tmp 23) (at_ Tryz.f64 [1, 1, 0, 1, 0, 0, 1, 1, 0, 0, 1, 0, 1, 0]) (at_ Tryz.f64 [1, 1, 0, 1, 0, 0, 1, 1, 0, 0, 1, 0, 1, 1]))) (at_ Tryz.f64 [1, 1, 0, 1, 0, 0, 1, 1, 0, 0, 1, 1])))) (at_ Tryz.f64 [1, 1, 0, 1, 0, 0, 1, 1, 1])))) := by kernel_rfl
  rw [e]
  exact (.seq (.low (by kernel_rfl)) (.seq (.low (by kernel_rfl)) (.seq (.block 1 (.seq (.low (by kernel_rfl)) (.seq (.seq (.low (by kernel_rfl)) (.cond _ (.other _) (.low (by kernel_rfl)))) (.low (by kernel_rfl))))) (.other _))))

theorem se22 : sliceElem Tryz.prog 22 = some (48, 2) := by kernel_rfl
abbrev spv (a b : Int) : Value := .agg #[iv a, iv b]
/-- the operations of a region -/
noncomputable def opsOf : Code → Array Oper
  | .region _ ops _ => ops
  | _ => #[]
abbrev pan64 : List Nat := [1, 1, 0, 1, 0, 0, 1, 1, 0, 0, 1, 0, 1, 0]
theorem D64 : at_ Tryz.f64 [1, 1, 0, 1, 0, 0, 1, 1, 0, 0, 1, 0, 1, 0] = .region 6 (opsOf (at_ Tryz.f64 [1, 1, 0, 1, 0, 0, 1, 1, 0, 0, 1, 0, 1, 0])) false := by kernel_rfl
theorem P64 : lowRPs Tryz.prog 37 (opsOf (at_ Tryz.f64 [1, 1, 0, 1, 0, 0, 1, 1, 0, 0, 1, 0, 1, 0])).toList (opsOf (at_ Tryz.f64 [1, 1, 0, 1, 0, 0, 1, 1, 0, 0, 1, 0, 1, 0])).toList = some [(.ro ⟨(some 24), none, (.pur ⟨(some 24), (.build 125 (List.toArray [])), 125, "", (List.toArray []), none⟩)⟩), (.ro ⟨(some 25), none, (.pur ⟨(some 25), (.makeInterface 125 (.tmp 24)), 20, "", (List.toArray []), none⟩)⟩), (.pan (.tmp 25))] := by kernel_rfl
/-- the panic of a night without a course -/
abbrev noneV : Value := .iface 125 (.agg #[])
section
variable {kn : FuncId → Option Bool} {lo : Nat} {H : Hp}
theorem spans_ok {a1 a2 : Option Addr} {n c1 c2 : Nat} {us ws : List Int} (h1 : Sl H a1 n c1 (ints us)) (h2 : Sl H a2 n c2 (ints ws)) (l1 : us.length = n) (l2 : ws.length = n) (hn : n ≤ 1000) (hlo : lo ≤ H.next) :
    (∃ v H', FnX Tryz.prog kn lo 64 [.slice a1 n c1, .slice a2 n c2] H v H' ∧ ((us.zip ws).all fun p => !(decide (p.1 > p.2))) = true ∧ ∃ b, v = slv b n n ∧ Keep H H' [] ∧ H.next ≤ b ∧ Cl H' b (spc (us.zip ws))) ∨
    ∃ v H', FnP Tryz.prog kn lo 64 [.slice a1 n c1, .slice a2 n c2] H v H' ∧ v = noneV ∧ ((us.zip ws).all fun p => !(decide (p.1 > p.2))) = false ∧ Keep H H' [] := by
  refine fn_lv (kn := kn) (lo := lo) (H := H) (args := [.slice a1 n c1, .slice a2 n c2]) (Q := fun v H' => ((us.zip ws).all fun p => !(decide (p.1 > p.2))) = true ∧ ∃ b, v = slv b n n ∧ Keep H H' [] ∧ H.next ≤ b ∧ Cl H' b (spc (us.zip ws)))
    (Z := fun v H' => v = noneV ∧ ((us.zip ws).all fun p => !(decide (p.1 > p.2))) = false ∧ Keep H H' []) Tryz.func64 B64 N64 Z64 (.low (by have := L64; rw [N64] at this; exact this)) (by simp) ?_
  obtain ⟨i0, hi0, hby⟩ := i48
  obtain ⟨H1, hH1⟩ : ∃ H1, H.new (.cells (spc (List.replicate n (0, 0))) 48 false) = H1 := ⟨_, rfl⟩
  refine And.intro rfl (Or.inr (And.intro rfl (Exists.intro _ (Exists.intro H1 (Exists.intro _ (And.intro ((heap_makeZ (m := n) se22 z48 hi0 hby rfl rfl (by omega)).trans (by rw [← hH1]; show some (Rs.val _ (H.new (.cells (zeros ((fun s : Int × Int => [iv s.1, iv s.2]) (0, 0)) n) 48 false)), Kd.heavy) = _; rw [zeros_flat (f := fun s : Int × Int => [iv s.1, iv s.2])]; rfl)) (And.intro (fun b e => by cases e) ?_)))))))
  obtain ⟨k1, n1, c1'⟩ := new_facts hH1
  clear hH1
  have hz : (us.zip ws).length = n := by rw [List.length_zip]; omega
  refine loop_lv E64_1 V64x1 (fun i : Nat => [(1, .slice a2 n c2), (5, slv H.next n n), (11, .slice a1 n c1), (12, iv (n : Int)), (13, iv (i : Int))])
    (fun k i H' => i + k = n ∧ Keep H H' [] ∧ ((us.zip ws).take i).all (fun p => !(decide (p.1 > p.2))) = true ∧ Cl H' H.next (spc ((us.zip ws).take i ++ List.replicate (n - i) (0, 0)))) n 0 ⟨by omega, k1, by simp, by simpa using c1'⟩ ⟨rfl, rfl, rfl, rfl, rfl, trivial⟩ ?_
  rintro k i H2 ⟨hik, hk, hall, hcl⟩
  have hkn := hk.1
  refine And.intro (fun hlt => ?_) (fun hge => ?_)
  · have hi : i < n := by simpa using hlt
    have p1 := hk.sl0 h1
    have p2 := hk.sl0 h2
    rcases p1 with ⟨_, h0, _⟩ | ⟨x1, rfl, q1, _⟩
    · omega
    rcases p2 with ⟨_, h0, _⟩ | ⟨x2, rfl, q2, _⟩
    · omega
    obtain ⟨u, hu⟩ := get_some (l := us) (i := i) (by omega)
    obtain ⟨w, hw⟩ := get_some (l := ws) (i := i) (by omega)
    have huw : (us.zip ws)[i]? = some (u, w) := List.getElem?_zip_eq_some.2 ⟨hu, hw⟩
    refine Exists.intro i (And.intro rfl (And.intro hi ?_))
    refine Exists.intro _ (Exists.intro _ (And.intro q1.of (And.intro (ints_at hu) ?_)))
    refine Exists.intro i (And.intro rfl (And.intro hi ?_))
    refine Exists.intro _ (Exists.intro _ (And.intro q2.of (And.intro (ints_at hw) ?_)))
    refine And.intro (fun hgt => ?_) (fun hle => ?_)
    · have hgt : u > w := by simpa using hgt
      refine tri_reg D64 P64 ?_
      refine Or.inl (And.intro rfl (Exists.intro (.agg #[]) (And.intro (by kernel_rfl) ?_)))
      refine Or.inl (And.intro rfl (Exists.intro noneV (And.intro (by kernel_rfl) ?_)))
      refine And.intro rfl (Or.inl ⟨_, rfl, rfl, ?_, hk⟩)
      rw [List.all_eq_false]
      exact ⟨(u, w), List.mem_of_getElem? huw, by simp; omega⟩
    · have hle : ¬ u > w := by simpa using hle
      refine Exists.intro i (And.intro rfl (And.intro hi ?_))
      refine Exists.intro _ (Exists.intro _ (And.intro q2.of (And.intro (ints_at hw) ?_)))
      refine And.intro rfl (Exists.intro (spv u w) (And.intro (pure_span (lo := 0) rfl rfl) ?_))
      refine Exists.intro i (And.intro rfl (And.intro hi ?_))
      obtain ⟨_, e4, l4, g4⟩ := id hcl
      refine Exists.intro _ (Exists.intro _ (Exists.intro _ (And.intro g4 (And.intro hlo (And.intro rfl (And.intro rfl (And.intro (by show 0 + i * 2 + 2 ≤ (spc _).length; unfold spc; rw [flat_len (size := 2) (fun _ _ => rfl)]; simp; omega) ?_)))))))
      intro H5 hH5
      have hput : putRow (spc ((us.zip ws).take i ++ List.replicate (n - i) (0, 0))) (0 + i * 2) (spv u w).cells.toList = spc (((us.zip ws).take i ++ List.replicate (n - i) (0, 0)).set i (u, w)) := by
        unfold spc
        exact flat_put (f := fun s : Int × Int => [iv s.1, iv s.2]) (size := 2) (l := (us.zip ws).take i ++ List.replicate (n - i) (0, 0)) (fun _ => rfl) (by simp; omega) (u, w)
      rw [hput] at hH5
      obtain ⟨k5, n5, c5⟩ := up_facts hcl hH5
      refine tri_piece (S0 := [(1, .slice (some ⟨x2, 0, none⟩) n c2), (5, slv H.next n n), (11, .slice (some ⟨x1, 0, none⟩) n c1), (12, iv (n : Int)), (13, iv (i : Int))]) L64x1e ⟨rfl, rfl, rfl, rfl, rfl, trivial⟩ ?_
      refine And.intro (show InR ((i : Int) + 1) from ⟨by omega, by omega⟩) ?_
      refine ⟨k - 1, i + 1, by omega, ⟨by omega, hk.new k5 (fun b hb => .inr (by simp at hb; omega)), ?_, ?_⟩, rfl, rfl, rfl, rfl, rfl, trivial⟩
      · rw [all_step huw, hall]; simp; omega
      · have e : ((us.zip ws).take i ++ List.replicate (n - i) (0, 0)).set i (u, w) = (us.zip ws).take (i + 1) ++ List.replicate (n - (i + 1)) (0, 0) := by
          rw [List.take_add_one, huw, List.set_append_right _ _ (by simp; omega)]
          rw [show n - i = (n - (i + 1)) + 1 by omega, List.replicate_succ]
          have : i - ((us.zip ws).take i).length = 0 := by simp; omega
          rw [this, List.set_cons_zero]; simp
        rw [← e]; exact c5
  · have hi : ¬ i < n := by simpa using hge
    have hin : i = n := by omega
    subst hin
    rw [List.take_of_length_le (by omega)] at hall hcl
    refine Or.inr (And.intro (Or.inr rfl) (Exists.intro _ (And.intro rfl ⟨hall, H.next, rfl, hk, Nat.le_refl _, by simpa using hcl⟩)))
end
end Go.Ax

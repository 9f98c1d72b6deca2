import Derived.Test.YtbgdbnnbfankeaaMb
import Derived.Test.YtbgdbnnbfankeaaAxW10
import Derived.Test.YtbgdbnnbfankeaaAxW9
import Derived.Test.YtbgdbnnbfankeaaChecked
import Derived.Test.YtbgdbnnbfankeaaAxO
import Derived.Deep.Slices
import Derived.Deep.Fields
import Derived.ChangeSame
set_option linter.all false
/-
 Plant: Blend; the document's Tanks, Recipe, Right (written by program).
-/
namespace Go.Ax
open Go Go.RowKit Go.Proofs

section
variable {kn : FuncId → Option Bool} {lo : Nat} {H : Hp}
end
end Go.Ax

/-
  Plant: some blend; the law PlantCheapest (written by program).
-/
namespace Go.Ax
open Go Go.RowKit Go.Proofs

theorem conv_5 (x : Int) (h1 : 0 ≤ x) (h2 : x ≤ 255) {S : Rg} {n : Nat} {o : Operand} {d : Option Nat} (hx : evS S o = some (.int .u8 x)) : pureOp Try.prog (frS n S) ⟨d, .convert 5 3 o, 3, "", #[], none⟩ = some (iv x) := by
  have e : ∀ y : Int, prun Try.prog (Go.convert 5 3 (.int .u8 y)) = some (.int .i64 (IntKind.i64.wrap y)) := fun y => by kernel_rfl
  unfold pureOp
  simp only [ev_frS, hx, flat, flat1, cond_true, e, wrap_i64 (x := x) ⟨(by omega), (by omega)⟩]
theorem AccB.of {b0 lo f : Nat} {e : TypeId} {H : Hp} {v : Value} {n : Nat} {cs : List Value} (h : Acc lo f e H v n cs) (h0 : 0 < n) : AccB b0 lo f e H v n cs := by
  rcases h with ⟨q, _⟩ | q
  · omega
  · exact .inr q
theorem AccB.lt {b0 lo f : Nat} {e : TypeId} {H : Hp} {v : Value} {n : Nat} {cs : List Value} (h : AccB b0 lo f e H v n cs) {b m c : Nat} (ev : v = .slice (some ⟨b, 0, none⟩) m c) : b < H.next := by
  rcases h with ⟨_, _, rfl, hb, _⟩ | ⟨b1, rfl, _, _, _, hn, _⟩
  · cases ev; exact hb
  · cases ev; exact hn
theorem AccB.sl {b0 lo f : Nat} {e : TypeId} {H : Hp} {v : Value} {n : Nat} {cs : List Value} (h : AccB b0 lo f e H v n cs) : ∃ a c, v = .slice a n c ∧ Sl H a n c cs := by
  rcases h with ⟨rfl, rfl, rfl, hb, e0, h0⟩ | ⟨b, rfl, h0, hf, hl, hn, hg⟩
  · exact ⟨_, _, rfl, .inr ⟨b0, rfl, ⟨hb, by unfold cellsOf; rw [h0]⟩, Nat.le_refl _⟩⟩
  · exact ⟨_, _, rfl, .inr ⟨b, rfl, ⟨hn, by unfold cellsOf; rw [hg]⟩, Nat.le_refl _⟩⟩
section
variable {kn : FuncId → Option Bool} {lo : Nat} {H : Hp}
end
end Go.Ax

/-
  Plant: all lists of units, and the first cheapest one of them (written by program).
-/
namespace Go.Ax
open Go Go.RowKit

end Go.Ax

/-
  Plant: the document's Blend: all lists (56) (written by program).
-/
namespace Go.Ax
open Go Go.RowKit Go.Proofs

theorem se94 : sliceElem Try.prog 94 = some (42, 1) := by kernel_rfl
theorem u94 : Try.prog.underlying 94 = some (.slice 42) := by kernel_rfl
/-- a list of numbers that append made, or none -/
def Els (H : Hp) (a : Option Addr) (cap n : Nat) (cs : List Value) : Prop := (n = 0 ∧ a = none ∧ cap = 0 ∧ cs = []) ∨ ∃ b, a = some ⟨b, 0, none⟩ ∧ cap = n ∧ b < H.next ∧ H.t.get b = some (.cells cs 3 true)
theorem Els.sl {H : Hp} {a : Option Addr} {cap n : Nat} {cs : List Value} (h : Els H a cap n cs) : Sl H a n cap cs := by
  rcases h with ⟨rfl, rfl, rfl, rfl⟩ | ⟨b, rfl, rfl, h1, h2⟩
  · exact .inl ⟨.inl rfl, rfl, rfl, rfl⟩
  · exact .inr ⟨b, rfl, ⟨h1, by unfold cellsOf; rw [h2]⟩, Nat.le_refl _⟩
/-- what lies below f stays, and all blocks but those that hold lists of lists -/
structure KL (f : Nat) (H H1 : Hp) : Prop where
  nx : H.next ≤ H1.next
  bl : ∀ b, b < H.next → (b < f ∨ ∀ cs, H.t.get b ≠ some (.cells cs 42 true)) → H1.t.get b = H.t.get b
  ro : ∀ b cs, b < H1.next → H1.t.get b = some (.ro cs) → b < H.next ∧ H.t.get b = some (.ro cs)
theorem KL.of {f : Nat} {H H1 : Hp} (k : Keep H H1 []) : KL f H H1 := ⟨k.1, fun b hb _ => k.2 b hb (by simp), k.3⟩
theorem KL.trans {f : Nat} {H H1 H2 : Hp} (h : KL f H H1) (k : KL f H1 H2) : KL f H H2 :=
  ⟨Nat.le_trans h.nx k.nx, fun b hb q => by
    have e := h.bl b hb q
    rw [← e]
    refine k.bl b (Nat.lt_of_lt_of_le hb h.nx) (q.imp id fun z cs => ?_)
    rw [e]; exact z cs, fun b cs hb hg => by
    obtain ⟨a, c⟩ := k.ro b cs hb hg
    exact h.ro b cs a c⟩
theorem KL.keep {f : Nat} {H0 H H1 : Hp} (k : KL f H H1) (h : Keep H0 H []) (hf : H0.next ≤ f) : Keep H0 H1 [] :=
  ⟨Nat.le_trans h.1 k.nx, fun b hb hn => by rw [k.bl b (Nat.lt_of_lt_of_le hb h.1) (.inl (Nat.lt_of_lt_of_le hb hf)), h.2 b hb hn], fun b cs hb hg => by
    obtain ⟨a, c⟩ := k.ro b cs hb hg
    exact h.3 b cs a c⟩
theorem KL.els {f : Nat} {H H1 : Hp} (k : KL f H H1) {a : Option Addr} {cap n : Nat} {cs : List Value} (h : Els H a cap n cs) : Els H1 a cap n cs :=
  h.imp id fun ⟨b, e1, e2, h1, h2⟩ => ⟨b, e1, e2, Nat.lt_of_lt_of_le h1 k.nx, by rw [k.bl b h1 (.inr fun cs q => by rw [h2] at q; cases q)]; exact h2⟩
theorem KL.sl {f : Nat} {H H1 : Hp} (k : KL f H H1) {a : Option Addr} {cap n : Nat} {cs : List Value} (h : Sl H a n cap cs) (hf : ∀ b, a = some ⟨b, 0, none⟩ → b < f) : Sl H1 a n cap cs :=
  h.imp id fun ⟨b, e1, ⟨h1, h2⟩, q⟩ => ⟨b, e1, ⟨Nat.lt_of_lt_of_le h1 k.nx, by unfold cellsOf at h2 ⊢; rw [k.bl b h1 (.inl (hf b e1))]; exact h2⟩, q⟩
/-- a list of lists that append made -/
def Out (lo f n : Nat) (H : Hp) (v : Value) (L : List Bl) : Prop := ∃ cs, Acc lo f 42 H v L.length cs ∧ cs.length = L.length * 1 ∧ ∀ (i : Nat) (x : Bl), L[i]? = some x → ∃ a cap, cs[i]? = some (Value.slice a n cap) ∧ Els H a cap n (nf x n)
theorem Out.keep {lo f n : Nat} {H H1 : Hp} {v : Value} {L : List Bl} (h : Out lo f n H v L) (k : Keep H H1 []) : Out lo f n H1 v L := by
  obtain ⟨cs, h1, h2, h3⟩ := h
  exact ⟨cs, h1.keep k, h2, fun i x hx => by obtain ⟨a, cap, e, q⟩ := h3 i x hx; exact ⟨a, cap, e, (KL.of (f := 0) k).els q⟩⟩
/-- append of one to what append made (any number) -/
theorem heap_append_big {P : Program} {lo : Nat} {H : Hp} {t0 t1 e ep : TypeId} {k cap2 f : Nat} {a : Option Addr} {v w : Value} {cs : List Value} (he : sliceElem P t0 = some (e, 1)) (ht : P.underlying t1 = some (.slice ep))
    (hs : Sl H a 1 cap2 [w]) (hone : one w = true) (hcl : cs.length = k * 1) (hk : k < 1000000) (ha : Acc lo f e H v k cs) (hlo : lo ≤ H.next) (hf : f ≤ H.next) :
    ∃ H1 kd, (∀ (n : Nat) (S : Rg) (d : Option Tmp) (x y : Operand) (ty : TypeId) (p : String), evS S x = some v → evS S y = some (.slice a 1 cap2) → heapOp P lo (frS n S) H ⟨d, .call ⟨.builtin .append, #[x, y], #[t0, t1]⟩, ty, p, #[], none⟩ = some (.val (.slice (some ⟨H.next, 0, none⟩) (k + 1) (k + 1)) H1, kd)) ∧ (∀ b, kd ≠ .read b) ∧
      Acc lo f e H1 (.slice (some ⟨H.next, 0, none⟩) (k + 1) (k + 1)) (k + 1) (cs ++ [w]) ∧ Keep H H1 (bkv v).toList := by
  have hl : [w].length = 1 * 1 := rfl
  have hone : [w].all one = true := by simp [hone]
  rcases ha with ⟨rfl, rfl, rfl⟩ | ⟨b, rfl, h0, hb, hlb, hn, hg⟩
  · refine ⟨H.new (.cells [w] e true), .heavy, ?_, (fun b e => by cases e), ?_, (new_facts rfl).1.mono (by simp)⟩
    · intro n S d x y ty p hx hy
      unfold heapOp
      simp only [evs, ev_frS, hx, hy, builtinV, List.getElem?_toArray, List.getElem?_cons_zero, List.getElem?_cons_succ, he, ht, src_of hs hl, appendV]
      rfl
    · refine .inr ⟨H.next, rfl, by omega, hf, hlo, Nat.lt_succ_self _, ?_⟩
      show (H.t.set H.next _).get H.next = _
      rw [Tr.get_set, if_pos rfl]; rfl
  · have h1 : Nat.ble (0 + (k + 1) * 1) cs.length = false := by
      cases h : Nat.ble (0 + (k + 1) * 1) cs.length with
      | false => rfl
      | true => have := Nat.le_of_ble_eq_true h; rw [hcl, Nat.succ_mul] at this; omega
    have h2 : Nat.beq (0 + k * 1) cs.length = true := by rw [hcl, Nat.zero_add]; exact Nat.beq_refl _
    have h3 : Nat.ble (k + 1) 1048576 = true := Nat.ble_eq_true_of_le (by omega)
    have h4 : Nat.beq e e = true := Nat.beq_refl e
    refine ⟨({ H with t := H.t.set b .dead } : Hp).new (.cells (cs ++ [w]) e true), .store b, ?_, (fun b e => by cases e), ?_, ?_⟩
    · intro n S d x y ty p hx hy
      unfold heapOp
      simp only [evs, ev_frS, hx, hy, builtinV, List.getElem?_toArray, List.getElem?_cons_zero, List.getElem?_cons_succ, he, ht, src_of hs hl, appendV, hg, h1, h2, h3, h4, hone, Nat.ble_eq_true_of_le hlb, Bool.and_self, cond_true, cond_false, List.drop_zero, show Nat.beq 1 0 = false from rfl]
    · refine .inr ⟨H.next, rfl, by omega, hf, hlo, Nat.lt_succ_self _, ?_⟩
      show ((H.t.set b .dead).set H.next _).get H.next = _
      rw [Tr.get_set, if_pos rfl]
    · refine ⟨Nat.le_succ _, fun c hc hn => ?_, fun c xs hc hx => ?_⟩
      · have hne : c ≠ b := by simpa [bkv] using hn
        show ((H.t.set b .dead).set H.next _).get c = _
        rw [Tr.get_set, if_neg (by omega), Tr.get_set, if_neg hne]
      · have hx : ((H.t.set b .dead).set H.next (.cells (cs ++ [w]) e true)).get c = some (.ro xs) := hx
        have hc : c < H.next + 1 := hc
        rw [Tr.get_set] at hx
        split at hx
        · cases hx
        · rw [Tr.get_set] at hx
          split at hx
          · cases hx
          · exact ⟨by omega, hx⟩
/-- one more list -/
theorem Out.append {lo f n : Nat} {H : Hp} {v : Value} {L : List Bl} {a a1 : Option Addr} {cap c1 : Nat} {x : Bl} (h : Out lo f n H v L) (hx : Els H a cap n (nf x n)) (hs : Sl H a1 1 c1 [.slice a n cap]) (hL : L.length < 1000000) (hlo : lo ≤ H.next) (hf : f ≤ H.next) :
    ∃ v1 H1 kd, (∀ (m : Nat) (S : Rg) (d : Option Tmp) (x y : Operand) (ty : TypeId) (p : String), evS S x = some v → evS S y = some (.slice a1 1 c1) → heapOp Try.prog lo (frS m S) H ⟨d, .call ⟨.builtin .append, #[x, y], #[94, 94]⟩, ty, p, #[], none⟩ = some (.val v1 H1, kd)) ∧ (∀ b, kd ≠ .read b) ∧ Out lo f n H1 v1 (L ++ [x]) ∧ KL f H H1 := by
  obtain ⟨cs, h1, h2, h3⟩ := h
  obtain ⟨H1, kd, e, d, ac, k⟩ := heap_append_big (P := Try.prog) (lo := lo) (t1 := 94) se94 u94 hs rfl h2 hL h1 hlo hf
  have kl : KL f H H1 := by
    refine ⟨k.1, fun b hb q => k.2 b hb fun hm => ?_, k.3⟩
    rcases h1 with ⟨_, _, rfl⟩ | ⟨b1, rfl, _, hf1, _, _, hg⟩
    · simp [bkv] at hm
    · simp [bkv] at hm
      subst hm
      rcases q with q | q
      · omega
      · exact q _ hg
  refine ⟨_, H1, kd, e, d, ⟨cs ++ [.slice a n cap], by rw [List.length_append]; exact ac, by rw [List.length_append, List.length_append, h2]; simp, fun i y hy => ?_⟩, kl⟩
  rcases Nat.lt_or_ge i L.length with q | q
  · rw [List.getElem?_append_left q] at hy
    obtain ⟨a', cap', e', z⟩ := h3 i y hy
    exact ⟨a', cap', by rw [List.getElem?_append_left (by omega)]; exact e', kl.els z⟩
  · rw [List.getElem?_append_right q] at hy
    have e0 : i - L.length = 0 := by
      rcases Nat.eq_zero_or_pos (i - L.length) with z | z
      · exact z
      · rw [List.getElem?_eq_none (by simp; omega)] at hy; cases hy
    rw [e0] at hy
    have hy : x = y := by simpa using hy
    subst hy
    exact ⟨a, cap, by rw [List.getElem?_append_right (by omega), show i - cs.length = 0 by omega]; rfl, kl.els hx⟩
section
variable {kn : FuncId → Option Bool} {lo : Nat} {H : Hp}
end
end Go.Ax

/-
  Plant: when lots are frozen, late lots, the least rate (written by program).
-/
namespace Go.Ax
open Go Go.RowKit

section
variable {L : Nat → Nat} {rd ms du : Nat → Int} {R : Int} {n : Nat}
end
def BT (us : List Fz) (i j k : Nat) : Int := Sim.bt (rdF us) (duF us) (msF us) (rdF us i) (duF us j) k
def mJ (us : List Fz) (R : Int) (i k : Nat) : Bool := (List.range k).any fun j => decide (R * max 0 (duF us j - rdF us i) < BT us i j us.length)
def mI (us : List Fz) (R : Int) (k : Nat) : Bool := (List.range k).any fun i => mJ us R i us.length
structure FzOk (us : List Fz) : Prop where
  m : ∀ x, x < us.length → 0 ≤ msF us x ∧ msF us x ≤ 1099511627776
  a : ∀ x, x < us.length → 0 ≤ rdF us x
  d : ∀ x, x < us.length → rdF us x ≤ duF us x ∧ duF us x ≤ 500
theorem FzOk.of {us : List Fz} (h : us.all Fz.ok = true) : FzOk us := ⟨fun x hx => (all_at h hx).2.2, fun x hx => (all_at h hx).2.1.1, fun x hx => ⟨(all_at h hx).2.1.2, (all_at h hx).1.2⟩⟩
end Go.Ax

/-
  Plant: Frozen, Late, the law PlantInTime (written by program).
-/
namespace Go.Ax
open Go Go.RowKit Go.Proofs

section
variable {kn : FuncId → Option Bool} {lo : Nat} {H : Hp}
end
end Go.Ax

/-! The law PlantFaster's code, an addition that may wrap left as it is (written by program). -/
namespace Go.Ax
open Go Go.RowKit Go.Proofs
end Go.Ax

/-
  Plant: Rate, Late, Freezes, the law PlantFaster (written by program).
-/
namespace Go.Ax
open Go Go.RowKit Go.Proofs

section
variable {kn : FuncId → Option Bool} {lo : Nat} {H : Hp}
end
end Go.Ax

/-
  Plant: the document's way to freeze: the next lot, again and again (written by program).
-/
namespace Go.Ax
open Go Go.RowKit

/-- the lot that is taken next, of the first k -/
def nx (us : List Fz) (g : Nat → Int) (h : Int) : Nat → Int
  | 0 => -1
  | k + 1 => if (rdF us k ≤ h ∧ 0 < g k) ∧ (nx us g h k < 0 ∨ duF us k < duF us (nx us g h k).toNat) then (k : Int) else nx us g h k
section
variable {L : Nat → Nat} {rd left dn : Nat → Int} {h R : Int} {n k : Nat}
end
end Go.Ax

/-
  Plant: the document's Frozen and Rate, the law PlantFreezes (written by program).
-/
namespace Go.Ax
open Go Go.RowKit Go.Proofs

section
variable {kn : FuncId → Option Bool} {lo : Nat} {H : Hp}
end
end Go.Ax

/-
  Plant: the document's Rate, Ints, the law PlantFreezes (written by program).
-/
namespace Go.Ax
open Go Go.RowKit Go.Proofs

section
variable {kn : FuncId → Option Bool} {lo : Nat} {H : Hp}
end
end Go.Ax

/-
  Plant: the document's Blend, the law PlantBlends (written by program).
-/
namespace Go.Ax
open Go Go.RowKit Go.Proofs

section
variable {kn : FuncId → Option Bool} {lo : Nat} {H : Hp}
end
end Go.Ax

/-
  Plant: a machine's work, as the document has it (written by program).
-/
namespace Go.Ax
open Go Go.RowKit

theorem snd_ne {C : Cs} {to : Int} {p : Nat → Int} {r : Nat} (h : r ≠ ix to) : snd C to p r = C r := by unfold snd; rw [if_neg h]
end Go.Ax

/-
  Plant: Run (both), Same, great, and the law PlantRuns (written by program).
-/
namespace Go.Ax
open Go Go.RowKit Go.Proofs

theorem prun_bind {P : Program} {α β : Type} (f : α → Sem β) : ∀ (x : Sem α), prun P (x >>= f) = (prun P x).bind fun a => prun P (f a) := by
  intro x
  induction x with
  | pure a => rfl
  | program k ih => exact ih P
  | _ => rfl
theorem prun_pure {α : Type} {P : Program} (a : α) : prun P (pure a : Sem α) = some a := rfl
theorem prun_ite {α : Type} {P : Program} {c : Prop} [Decidable c] (a b : Sem α) : prun P (if c then a else b) = if c then prun P a else prun P b := by split <;> rfl
theorem same_struct {P : Program} {d : Nat} {t : TypeId} {xs : Array Value} {fs : Array Field} (hu : prun P (underlying t) = some (.struct fs)) (hp : P.stoodInHeld t = false)
    (hf : ∀ f ∈ fs.toList, ∃ v, prun P (part f.type xs f.offset) = some v ∧ prun P (Op.equalIn d f.type v v) = some true) :
    prun P (Op.equalIn (d + 1) t (.agg xs) (.agg xs)) = some true := by
  simp only [Op.equalIn, prun_bind, hu, Option.bind_some, show prun P program = some P from rfl, hp, Bool.false_eq_true, if_false]
  rw [← Array.forIn_toList]
  generalize fs.toList = l at hf
  induction l with
  | nil => rfl
  | cons f l ih =>
    obtain ⟨v, h1, h2⟩ := hf f (by simp)
    have ih := ih (fun g hg => hf g (by simp [hg]))
    simp only [List.forIn_cons, prun_bind, prun_ite]
    split
    · simp only [h1, h2, Option.bind_some, Bool.not_true, Bool.false_eq_true, if_false, prun_pure]
      exact ih
    · simp only [prun_pure, Option.bind_some]
      exact ih
theorem same_int {d : Nat} {x : Int} : prun Try.prog (Op.equalIn (d + 1) 3 (iv x) (iv x)) = some true := by
  have h : prun Try.prog (Op.equalIn (d + 1) 3 (iv x) (iv x)) = some (x == x) := by kernel_rfl
  rw [h]; simp
def fldsIn (P : Program) (t : TypeId) : Array Field :=
  match P.underlying t with
  | some (.struct fs) => fs
  | _ => #[]
theorem un24 : prun Try.prog (underlying 24) = some (.struct (fldsIn Try.prog 24)) := by kernel_rfl
theorem fs24 : (fldsIn Try.prog 24).toList.map (fun f => (f.type, f.offset)) = [(3, 0), (3, 1), (3, 2), (3, 3)] := by kernel_rfl
theorem st24 : Program.stoodInHeld Try.prog 24 = false := by kernel_rfl
theorem same24 {d : Nat} {x0 x1 x2 x3 : Int} : prun Try.prog (Op.equalIn (d + 2) 24 (.agg #[iv x0, iv x1, iv x2, iv x3]) (.agg #[iv x0, iv x1, iv x2, iv x3])) = some true := by
  refine same_struct (xs := #[iv x0, iv x1, iv x2, iv x3]) un24 st24 ?_
  intro f hf
  have h : (f.type, f.offset) ∈ [(3, 0), (3, 1), (3, 2), (3, 3)] := by rw [← fs24]; exact List.mem_map.mpr ⟨f, hf, rfl⟩
  simp only [List.mem_cons, List.not_mem_nil, or_false, Prod.mk.injEq] at h
  rcases h with ⟨h1, h2⟩ | ⟨h1, h2⟩ | ⟨h1, h2⟩ | ⟨h1, h2⟩ <;> rw [h1, h2]
  · exact ⟨iv x0, by kernel_rfl, same_int⟩
  · exact ⟨iv x1, by kernel_rfl, same_int⟩
  · exact ⟨iv x2, by kernel_rfl, same_int⟩
  · exact ⟨iv x3, by kernel_rfl, same_int⟩
theorem neq24 {n : Nat} {S : Rg} {d : Option Tmp} {x y : Operand} {p : String} {ty : TypeId} {x0 x1 x2 x3 : Int} (hx : evS S x = some (.agg #[iv x0, iv x1, iv x2, iv x3])) (hy : evS S y = some (.agg #[iv x0, iv x1, iv x2, iv x3])) : pureOp Try.prog (frS n S) ⟨d, .binOp .neq 24 x y 24, ty, p, #[], none⟩ = some (.bool false) := by
  have key : prun Try.prog (do eqGuard .neq 24 x y (.agg #[iv x0, iv x1, iv x2, iv x3]) (.agg #[iv x0, iv x1, iv x2, iv x3]); binOp .neq 24 (.agg #[iv x0, iv x1, iv x2, iv x3]) (.agg #[iv x0, iv x1, iv x2, iv x3])) = some (.bool false) := by
    rw [prun_bind, show prun Try.prog (eqGuard .neq 24 x y (.agg #[iv x0, iv x1, iv x2, iv x3]) (.agg #[iv x0, iv x1, iv x2, iv x3])) = some () from by kernel_rfl, Option.bind_some]
    show prun Try.prog (do pure (Value.bool (!(← Op.equalIn (9998 + 2) 24 (.agg #[iv x0, iv x1, iv x2, iv x3]) (.agg #[iv x0, iv x1, iv x2, iv x3]))))) = _
    rw [prun_bind, same24]; rfl
  unfold pureOp
  simp only [ev_frS, hx, hy]
  rw [show (flat (.agg #[iv x0, iv x1, iv x2, iv x3]) && flat (.agg #[iv x0, iv x1, iv x2, iv x3])) = true from rfl, cond_true, key]
  rfl
/-- is it more than a statement looks at? -/
def grtB (rs : List Mc) : Bool := decide (rs.length > 16) || rs.any fun r => decide (r.n > 8)
theorem grtB_f {rs : List Mc} {n : Nat} (hl : rs.length = n) (h : grtB rs = false) : (∀ r ∈ rs, r.n ≤ 1000000) ∧ n ≤ 16 ∧ ∀ r ∈ rs, r.n ≤ 8 := by
  unfold grtB at h
  rw [Bool.or_eq_false_iff, decide_eq_false_iff_not, List.any_eq_false] at h
  have q : ∀ r ∈ rs, r.n ≤ 8 := fun r hr => by have := h.2 r hr; simp at this; omega
  exact ⟨fun r hr => by have := q r hr; omega, by omega, q⟩
theorem any_step {α : Type} {f : α → Bool} {l : List α} {i : Nat} {x : α} (h : l[i]? = some x) : (l.take (i + 1)).any f = ((l.take i).any f || f x) := by
  rw [List.take_add_one, h]; simp
theorem any_hit2 {α : Type} {f : α → Bool} {l : List α} {i : Nat} {x : α} (h : l[i]? = some x) (hx : f x = true) : l.any f = true := List.any_eq_true.2 ⟨x, List.mem_of_getElem? h, hx⟩
/-- does Run answer? -/
def rok (rs : List Mc) (s : Nat → Int) : Bool := pok (mss rs) && wiQ s 1099511627776
theorem rok_t {rs : List Mc} {s : Nat → Int} (h : rok rs s = true) : pok (mss rs) = true ∧ ∀ j, j < 4 → 0 ≤ s j ∧ s j ≤ 1099511627776 := by
  unfold rok at h; rw [Bool.and_eq_true] at h; exact ⟨h.1, wiQ_t h.2⟩
section
variable {kn : FuncId → Option Bool} {lo : Nat} {H : Hp}
/-- great -/
theorem great_ok {sa : Option Addr} {n cap f : Nat} {rs : List Mc} (hr : Mcs H f sa n cap rs) : ∃ H', FnX Try.prog kn lo 15 [.slice sa n cap] H (.bool (grtB rs)) H' ∧ Keep H H' [] := by
  have key := fnX_low (kn := kn) (lo := lo) (H := H) (args := [.slice sa n cap]) (Q := fun w H' => w = .bool (grtB rs) ∧ Keep H H' []) Try.func15 B15 N15 Z15 L15 (by simp) ?_
  · obtain ⟨w, H', h, rfl, q⟩ := key; exact ⟨H', h, q⟩
  have hk := Keep.refl H []
  refine wN_seq ?_
  refine wN_mov (v := .bool false) rfl ?_
  refine wN_end ?_
  refine wN_seq ?_
  refine wN_mov (v := iv 0) rfl ?_
  refine wN_end ?_
  refine loop_low (fn := Try.f15) E15_1 N15 L15x1 (fun i : Nat => [(0, .slice sa n cap), (3, iv (i : Int))])
    (fun k i H' => i + k = n ∧ Keep H H' [] ∧ Mcs H' f sa n cap rs ∧ (i ≤ 17) ∧ (rs.take i).any (fun r => decide (r.n > 8)) = false) n 0 ⟨by omega, hk, hr, by omega, rfl⟩ ⟨rfl, rfl, trivial⟩ ?_
  rintro k i L1 ⟨hik, hk, hr, h17, hall⟩
  refine wN_seq ?_
  refine wN_mov (v := iv (i : Int)) rfl ?_
  refine wN_mov (v := .slice sa n cap) rfl ?_
  refine wN_len (m := n) rfl ?_
  refine wN_b_lss (a := (i : Int)) (b := (n : Int)) rfl rfl ?_
  intro t1 g1; cases t1
  · have g1 : ¬ ((i : Int) < (n : Int)) := of_decide_eq_false g1
    refine wN_mov (v := .bool false) rfl ?_
    refine wN_gs rfl ?_
    refine wN_gs rfl ?_
    refine wN_pur (v := .bool false) rfl rfl ?_
    refine wN_end ?_
    refine condF ?_
    refine wN_seq ?_
    refine wN_mov (v := .slice sa n cap) rfl ?_
    refine wN_len (m := n) rfl ?_
    refine wN_c_gtr (a := (n : Int)) (b := 16) rfl rfl ?_
    refine wN_mov (v := .bool (decide ((n : Int) > 16))) rfl ?_
    refine wN_end ?_
    exact And.intro trivial (Exists.intro _ (And.intro rfl ⟨congrArg Value.bool (show decide ((n : Int) > 16) = grtB rs from (by
      symm; have hrl := hr.rl; unfold grtB; rw [hrl]
      by_cases q : n > 16
      · rw [decide_eq_true q]; exact (decide_eq_true (by omega)).symm
      · rw [List.take_of_length_le (by omega)] at hall; rw [hall, Bool.or_false]; exact decide_eq_decide.2 (by omega))), hk⟩))
  · have g1 : (i : Int) < (n : Int) := of_decide_eq_true g1
    refine wN_mov (v := .bool true) rfl ?_
    refine wN_g rfl (wN_mov (v := iv (i : Int)) rfl ?_)
    refine wN_g rfl (wN_b_lss (a := (i : Int)) (b := 17) rfl rfl ?_)
    intro t2 g2; cases t2
    · have g2 : ¬ ((i : Int) < 17) := of_decide_eq_false g2
      refine wN_pur (v := .bool false) rfl rfl ?_
      refine wN_end ?_
      refine condF ?_
      refine wN_seq ?_
      refine wN_mov (v := .slice sa n cap) rfl ?_
      refine wN_len (m := n) rfl ?_
      refine wN_c_gtr (a := (n : Int)) (b := 16) rfl rfl ?_
      refine wN_mov (v := .bool (decide ((n : Int) > 16))) rfl ?_
      refine wN_end ?_
      exact And.intro trivial (Exists.intro _ (And.intro rfl ⟨congrArg Value.bool (show decide ((n : Int) > 16) = grtB rs from (by
        symm; have hrl := hr.rl; unfold grtB; rw [hrl]
        by_cases q : n > 16
        · rw [decide_eq_true q]; exact (decide_eq_true (by omega)).symm
        · rw [List.take_of_length_le (by omega)] at hall; rw [hall, Bool.or_false]; exact decide_eq_decide.2 (by omega))), hk⟩))
    · have g2 : (i : Int) < 17 := of_decide_eq_true g2
      refine wN_pur (v := .bool true) rfl rfl ?_
      refine wN_end ?_
      refine condT ?_
      have hi : i < n := by omega
      obtain ⟨sb, so, cs, x, hx, esb, rsb, lsf, lcap, hat, hmem⟩ := hr.opn hi
      first | refine wN_skip ?_ | skip
      refine wN_seq ?_
      refine wN_mov (v := .slice sa n cap) rfl ?_
      refine wN_mov (v := iv (i : Int)) rfl ?_
      refine wN_idx (b := sb) (o := so) (k := i) (j := (i : Int)) (by rw [← esb]; rfl) rfl rfl hi ?_
      refine wN_addo (b := sb) (o := so + i * 1) rfl ?_
      refine wN_ld (b := sb) (o := so + i * 1) (v := .slice x.ra x.n x.cap) rfl rsb hat ?_
      refine wN_len (m := x.n) rfl ?_
      refine wN_c_gtr (a := (x.n : Int)) (b := 8) rfl rfl ?_
      refine wN_end ?_
      refine And.intro (fun q3 => ?_) (fun q3 => ?_)
      · have q3 : (x.n : Int) > 8 := of_decide_eq_true q3
        have hok : (fun r : Mc => decide (r.n > 8)) x = true := decide_eq_true (by omega)
        refine wN_seq ?_
        refine wN_mov (v := .bool true) rfl ?_
        refine wN_end ?_
        exact And.intro trivial (Exists.intro _ (And.intro rfl ⟨congrArg Value.bool (show true = grtB rs from (by symm; unfold grtB; rw [Bool.or_eq_true]; right; exact any_hit2 hx hok)), hk⟩))
      · have q3 : ¬ ((x.n : Int) > 8) := of_decide_eq_false q3
        have hok : (fun r : Mc => decide (r.n > 8)) x = false := decide_eq_false (by omega)
        first | refine wN_skip ?_ | skip
        first | refine wN_reg ?_ | refine wN_blk ?_ | refine wN_bseq ?_ | (refine wOps_nil ?_; refine wN_reg ?_)
        refine wN_mov (v := iv (i : Int)) rfl ?_
        refine wN_add (a := (i : Int)) (b := 1) rfl rfl ⟨by omega, by omega⟩ ?_
        refine wN_mov (v := iv ((i : Int) + 1)) rfl ?_
        refine wN_end ?_
        exact ⟨k - 1, i + 1, by omega, ⟨by omega, hk, hr, by omega, by rw [any_step hx, hall]; exact hok⟩, rfl, rfl, trivial⟩
set_option maxRecDepth 100000 in
set_option maxHeartbeats 1000000 in
/-- Run, where it answers -/
theorem run17_ok {s : Nat → Int} {sa : Option Addr} {n cap f : Nat} {rs : List Mc} (hr : Mcs H f sa n cap rs) (hm : ∀ r ∈ rs, r.n ≤ 1000000) (hn2 : n ≤ 1000000) (hf : f ≤ H.next) (hlo : lo ≤ H.next) (hok : rok rs s = true) : ∃ a H', FnX Try.prog kn lo 17 [.slice sa n cap, .agg (qc s).toArray] H (.tuple #[slv a 16 16, iv 0]) H' ∧ Keep H H' [] ∧ H.next ≤ a ∧ Sc H' a (cc (rnA (mss rs) s) 16) := by
  have key := fnX_low (kn := kn) (lo := lo) (H := H) (args := [.slice sa n cap, .agg (qc s).toArray]) (Q := fun w H' => ∃ a, w = .tuple #[slv a 16 16, iv 0] ∧ Keep H H' [] ∧ H.next ≤ a ∧ Sc H' a (cc (rnA (mss rs) s) 16)) Try.func17 B17 N17 Z17 L17 (by simp) ?_
  · obtain ⟨w, H', h, a, rfl, q⟩ := key; exact ⟨a, H', h, q⟩
  have hk := Keep.refl H []
  obtain ⟨hp, hS⟩ := rok_t hok
  have hw : wiQ s 1099511627776 = true := wiQ_i hS
  refine wN_seq ?_
  refine wN_box (v := .agg (qc s).toArray) rfl ?_
  intro H1 kH1 nH1 c1
  have c1 : Cl H1 H.next [iv (s 0), iv (s 1), iv (s 2), iv (s 3)] := c1
  have mH1 := kH1.1
  have hk := hk.trans kH1
  have hr := hr.keep kH1 (by simp)
  refine wN_mov (v := .slice none 0 0) rfl ?_
  refine wN_mov (v := iv 0) rfl ?_
  refine wN_end ?_
  refine wN_seq ?_
  refine wN_mov (v := .slice sa n cap) rfl ?_
  obtain ⟨H2, fH2, kH2⟩ := vplant_ok (kn := kn) (lo := lo) (H := H1) hr hm hn2 (by omega) (by omega)
  have mH2 := kH2.1
  have hk := hk.trans kH2
  have hr := hr.keep kH2 (by simp)
  have c1 := kH2.cl c1 (by simp)
  rw [hp] at fH2
  refine wN_callf (vs := [.slice sa n cap]) rfl (callX_args fH2) ?_
  refine wN_pur (v := .bool false) rfl rfl ?_
  refine wN_mov (v := .bool false) rfl ?_
  refine wN_g rfl (wN_lda (b := H.next) (o := 0) rfl c1.rd (show row 4 _ _ = some [iv (s 0), iv (s 1), iv (s 2), iv (s 3)] from rfl) ?_)
  obtain ⟨H3, fH3, kH3⟩ := vstream_ok (kn := kn) (lo := lo) (H := H2) (s := s) (by omega)
  have mH3 := kH3.1
  have hk := hk.trans kH3
  have hr := hr.keep kH3 (by simp)
  have c1 := kH3.cl c1 (by simp)
  rw [show wiQ s 1099511627776 = true from hw] at fH3
  refine wN_g rfl (wN_callf (vs := [.agg (qc s).toArray]) rfl (callX_args fH3) ?_)
  refine wN_g rfl (wN_pur (v := .bool false) rfl rfl ?_)
  refine wN_pur (v := .bool false) rfl rfl ?_
  refine wN_end ?_
  refine condF ?_
  first | refine wN_skip ?_ | skip
  refine wN_seq ?_
  refine wN_mov (v := .slice sa n cap) rfl ?_
  refine wN_lda (b := H.next) (o := 0) rfl c1.rd (show row 4 _ _ = some [iv (s 0), iv (s 1), iv (s 2), iv (s 3)] from rfl) ?_
  obtain ⟨a, H4, fH4, kH4, ha, hal⟩ := run44_ok (kn := kn) (lo := lo) (H := H3) (s := s) hr (by omega) (by omega) hp hS
  refine wN_callf (vs := [.slice sa n cap, .agg (qc s).toArray]) rfl (callX_args fH4) ?_
  have mH4 := kH4.1
  have hk := hk.trans kH4
  have hr := hr.keep kH4 (by simp)
  have c1 := kH4.cl c1 (by simp)
  refine wN_mov (v := .slice (some ⟨a, 0, none⟩) 16 16) rfl ?_
  refine wN_mov (v := iv 0) rfl ?_
  refine wN_end ?_
  exact And.intro trivial (Exists.intro _ (And.intro rfl ⟨_, rfl, hk, by omega, hal⟩))
/-- Run, where it does not -/
theorem run17_no {s : Nat → Int} {sa : Option Addr} {n cap f : Nat} {rs : List Mc} (hr : Mcs H f sa n cap rs) (hm : ∀ r ∈ rs, r.n ≤ 1000000) (hn2 : n ≤ 1000000) (hf : f ≤ H.next) (hlo : lo ≤ H.next) (hno : rok rs s = false) : ∃ H', FnX Try.prog kn lo 17 [.slice sa n cap, .agg (qc s).toArray] H (.tuple #[.slice none 0 0, iv 1]) H' ∧ Keep H H' [] := by
  have key := fnX_low (kn := kn) (lo := lo) (H := H) (args := [.slice sa n cap, .agg (qc s).toArray]) (Q := fun w H' => w = .tuple #[.slice none 0 0, iv 1] ∧ Keep H H' []) Try.func17 B17 N17 Z17 L17 (by simp) ?_
  · obtain ⟨w, H', h, rfl, q⟩ := key; exact ⟨H', h, q⟩
  have hk := Keep.refl H []
  refine wN_seq ?_
  refine wN_box (v := .agg (qc s).toArray) rfl ?_
  intro H1 kH1 nH1 c1
  have c1 : Cl H1 H.next [iv (s 0), iv (s 1), iv (s 2), iv (s 3)] := c1
  have mH1 := kH1.1
  have hk := hk.trans kH1
  have hr := hr.keep kH1 (by simp)
  refine wN_mov (v := .slice none 0 0) rfl ?_
  refine wN_mov (v := iv 0) rfl ?_
  refine wN_end ?_
  refine wN_seq ?_
  refine wN_mov (v := .slice sa n cap) rfl ?_
  obtain ⟨H2, fH2, kH2⟩ := vplant_ok (kn := kn) (lo := lo) (H := H1) hr hm hn2 (by omega) (by omega)
  have mH2 := kH2.1
  have hk := hk.trans kH2
  have hr := hr.keep kH2 (by simp)
  have c1 := kH2.cl c1 (by simp)
  cases hp : pok (mss rs)
  · rw [hp] at fH2
    refine wN_callf (vs := [.slice sa n cap]) rfl (callX_args fH2) ?_
    refine wN_pur (v := .bool true) rfl rfl ?_
    refine wN_mov (v := .bool true) rfl ?_
    refine wN_gs rfl ?_
    refine wN_gs rfl ?_
    refine wN_gs rfl ?_
    refine wN_pur (v := .bool true) rfl rfl ?_
    refine wN_end ?_
    refine condT ?_
    refine wN_seq ?_
    refine wN_mov (v := .slice none 0 0) rfl ?_
    refine wN_mov (v := iv 1) rfl ?_
    refine wN_end ?_
    exact And.intro trivial (Exists.intro _ (And.intro rfl ⟨rfl, hk⟩))
  · rw [hp] at fH2
    refine wN_callf (vs := [.slice sa n cap]) rfl (callX_args fH2) ?_
    refine wN_pur (v := .bool false) rfl rfl ?_
    refine wN_mov (v := .bool false) rfl ?_
    refine wN_g rfl (wN_lda (b := H.next) (o := 0) rfl c1.rd (show row 4 _ _ = some [iv (s 0), iv (s 1), iv (s 2), iv (s 3)] from rfl) ?_)
    obtain ⟨H3, fH3, kH3⟩ := vstream_ok (kn := kn) (lo := lo) (H := H2) (s := s) (by omega)
    have mH3 := kH3.1
    have hk := hk.trans kH3
    have hr := hr.keep kH3 (by simp)
    have c1 := kH3.cl c1 (by simp)
    rw [show wiQ s 1099511627776 = false from (by unfold rok at hno; rw [hp, Bool.true_and] at hno; exact hno)] at fH3
    refine wN_g rfl (wN_callf (vs := [.agg (qc s).toArray]) rfl (callX_args fH3) ?_)
    refine wN_g rfl (wN_pur (v := .bool true) rfl rfl ?_)
    refine wN_pur (v := .bool true) rfl rfl ?_
    refine wN_end ?_
    refine condT ?_
    refine wN_seq ?_
    refine wN_mov (v := .slice none 0 0) rfl ?_
    refine wN_mov (v := iv 1) rfl ?_
    refine wN_end ?_
    exact And.intro trivial (Exists.intro _ (And.intro rfl ⟨rfl, hk⟩))
/-- the document's Same, of the same -/
theorem same23_ok {C : Cs} {a1 a2 : Option Addr} {n c1 c2 m : Nat} (h1 : Sl H a1 n c1 (cc C m)) (h2 : Sl H a2 n c2 (cc C m)) (hnm : n ≤ m) (hn2 : n ≤ 1000000) : ∃ H', FnX Try.prog kn lo 23 [.slice a1 n c1, .slice a2 n c2] H (.bool true) H' ∧ Keep H H' [] := by
  have key := fnX_low (kn := kn) (lo := lo) (H := H) (args := [.slice a1 n c1, .slice a2 n c2]) (Q := fun w H' => w = .bool true ∧ Keep H H' []) Try.func23 B23 N23 Z23 L23 (by simp) ?_
  · obtain ⟨w, H', h, rfl, q⟩ := key; exact ⟨H', h, q⟩
  have hk := Keep.refl H []
  refine wN_seq ?_
  refine wN_mov (v := .bool false) rfl ?_
  refine wN_end ?_
  refine wN_seq ?_
  refine wN_mov (v := .slice a1 n c1) rfl ?_
  refine wN_len (m := n) rfl ?_
  refine wN_mov (v := .slice a2 n c2) rfl ?_
  refine wN_len (m := n) rfl ?_
  refine wN_c_neq (a := (n : Int)) (b := (n : Int)) rfl rfl ?_
  refine wN_end ?_
  refine And.intro (fun q1 => ?_) (fun q1 => ?_)
  · have q1 : (n : Int) ≠ (n : Int) := by simpa using q1
    exfalso; omega
  · have q1 : ¬ ((n : Int) ≠ (n : Int)) := by simpa using q1
    first | refine wN_skip ?_ | skip
    refine wN_seq ?_
    refine wN_mov (v := iv 0) rfl ?_
    refine wN_end ?_
    refine loop_low (fn := Try.f23) E23_1 N23 L23x1 (fun i : Nat => [(0, .slice a1 n c1), (1, .slice a2 n c2), (5, iv (i : Int))])
      (fun k i H' => i + k = n ∧ Keep H H' [] ∧ Sl H' a1 n c1 (cc C m) ∧ Sl H' a2 n c2 (cc C m)) n 0 ⟨by omega, hk, h1, h2⟩ ⟨rfl, rfl, rfl, trivial⟩ ?_
    rintro k i L1 ⟨hik, hk, h1, h2⟩
    refine wN_seq ?_
    refine wN_mov (v := iv (i : Int)) rfl ?_
    refine wN_mov (v := .slice a1 n c1) rfl ?_
    refine wN_len (m := n) rfl ?_
    refine wN_c_lss (a := (i : Int)) (b := (n : Int)) rfl rfl ?_
    refine wN_end ?_
    refine And.intro (fun q2 => ?_) (fun q2 => ?_)
    · have q2 : (i : Int) < (n : Int) := of_decide_eq_true q2
      have hi : i < n := by omega
      rcases id h1 with ⟨_, h0, _⟩ | ⟨b1, e1, r1, _⟩
      · omega
      rcases id h2 with ⟨_, h0, _⟩ | ⟨b2, e2, r2, _⟩
      · omega
      first | refine wN_skip ?_ | skip
      refine wD_seq ?_
      refine wD_mov (v := .slice a1 n c1) rfl ?_
      refine wD_mov (v := iv (i : Int)) rfl ?_
      refine wD_idx (b := b1) (o := 0) (k := i) (j := (i : Int)) (by rw [← e1]; rfl) rfl rfl hi ?_
      refine wD_lda (b := b1) (o := 0 + i * 4) rfl r1 (cc_row (by omega)) ?_
      refine wD_mov (v := .slice a2 n c2) rfl ?_
      refine wD_mov (v := iv (i : Int)) rfl ?_
      refine wD_idx (b := b2) (o := 0) (k := i) (j := (i : Int)) (by rw [← e2]; rfl) rfl rfl hi ?_
      refine wD_lda (b := b2) (o := 0 + i * 4) rfl r2 (cc_row (by omega)) ?_
      refine wD_pur (v := .bool false) rfl (neq24 rfl rfl) ?_
      refine wD_end (by repeat' first | exact True.intro | exact (fun h => h) | refine And.intro ?_ ?_ | (intro h; have h : (_ : Nat) = _ := h; omega)) ?_
      refine condF ?_
      first | refine wN_skip ?_ | skip
      first | refine wN_reg ?_ | refine wN_blk ?_ | refine wN_bseq ?_ | (refine wOps_nil ?_; refine wN_reg ?_)
      refine wN_mov (v := iv (i : Int)) rfl ?_
      refine wN_add (a := (i : Int)) (b := 1) rfl rfl ⟨by omega, by omega⟩ ?_
      refine wN_mov (v := iv ((i : Int) + 1)) rfl ?_
      refine wN_end ?_
      exact ⟨k - 1, i + 1, by omega, ⟨by omega, hk, h1, h2⟩, rfl, rfl, rfl, trivial⟩
    · have q2 : ¬ ((i : Int) < (n : Int)) := of_decide_eq_false q2
      refine wN_seq ?_
      refine wN_mov (v := .bool true) rfl ?_
      refine wN_end ?_
      exact And.intro trivial (Exists.intro _ (And.intro rfl ⟨rfl, hk⟩))
end
end Go.Ax

/-
  Plant: what is in all bins together is what came in; each number goes its way alone (written by program).
-/
namespace Go.Ax
open Go Go.RowKit

theorem sm_tail {f : Nat → Int} {n : Nat} : ∀ d, (∀ i, n ≤ i → i < n + d → f i = 0) → sm f (n + d) = sm f n
  | 0, _ => rfl
  | d + 1, h => by
    show sm f (n + d) + f (n + d) = _
    rw [sm_tail d (fun i a b => h i a (by omega)), h (n + d) (by omega) (by omega)]; omega
/-- nothing lies behind the machines -/
theorem ws_out {C : Cs} {i n : Nat} {l : List Ou} {all : Nat → Int} (h : MOk l i n) (hn : n ≤ 12) {r : Nat} (hr : 16 + n ≤ r) : ∀ k, k ≤ l.length - 1 → (ws C all l k).1 r = C r
  | 0, _ => rfl
  | k + 1, hk => by
    have h1 := (h.o k (by omega)).1
    have h2 := ix_ok h1 hn
    have h3 : ix (l.getD k Ou.z).to < 16 + n := by unfold ix at h2 ⊢; split <;> omega
    show snd (ws C all l k).1 (l.getD k Ou.z).to _ r = _
    rw [snd_ne (by omega)]; exact ws_out h hn hr k (by omega)
theorem wk_out {C : Cs} {i n : Nat} {l : List Ou} (h : MOk l i n) (hn : n ≤ 12) {r : Nat} (hr : 16 + n ≤ r) : wk C i l r = C r := by
  have h1 := (h.o (l.length - 1) (by have := h.h1; omega)).1
  have h3 : ix (l.getD (l.length - 1) Ou.z).to < 16 + n := by unfold ix; split <;> omega
  unfold wk
  rw [snd_ne (by omega)]; exact ws_out h hn hr _ (Nat.le_refl _)
theorem rn_out {ms : List (List Ou)} {s : Nat → Int} (h : pok ms = true) {r : Nat} (hr : 16 + ms.length ≤ r) : ∀ k, k ≤ ms.length → rn ms s k r = cz r
  | 0, _ => by
    show snd cz _ s r = _
    rw [snd_ne]
    unfold ix; split <;> split <;> omega
  | k + 1, hk => by
    obtain ⟨a, b⟩ := pok_t h
    show wk (rn ms s k) k (ms.getD k []) r = _
    rw [wk_out (b k (by omega)) a hr]; exact rn_out h hr k (by omega)
theorem rn_sum {ms : List (List Ou)} {s : Nat → Int} (h : pok ms = true) (hs : ∀ j, j < 4 → 0 ≤ s j) {j : Nat} (hj : j < 4) : sm (fun r => rnA ms s r j) 16 = s j := by
  obtain ⟨a, b⟩ := pok_t h
  have := (rn_inv h hs ms.length (Nat.le_refl _)).su j hj
  have q := sm_tail (f := fun r => if r < 16 ∨ 16 + ms.length ≤ r then rn ms s ms.length r j else 0) (n := 16) 12 (fun i h1 h2 => by
    show (if i < 16 ∨ 16 + ms.length ≤ i then rn ms s ms.length i j else 0) = 0
    split
    · rw [rn_out h (by omega) _ (Nat.le_refl _)]; rfl
    · rfl)
  have e2 : sm (fun r => rnA ms s r j) 16 = sm (fun r => if r < 16 ∨ 16 + ms.length ≤ r then rn ms s ms.length r j else 0) 16 := sm_congr fun r hr => by rw [if_pos (.inl hr)]; rfl
  have t2 : sm (fun r => if r < 16 ∨ 16 + ms.length ≤ r then rn ms s ms.length r j else 0) (16 + 12) + 0 = s j := this
  rw [q, ← e2] at t2; omega
theorem cc_at {C : Cs} {n r j : Nat} {v : Int} (h : r < n) (hj : (qc (C r))[j]? = some (iv v)) : (cc C n)[0 + r * 4 + j]? = some (iv v) := row_get (cc_row h) hj
end Go.Ax

/-
  Plant: the law PlantKeeps (written by program).
-/
namespace Go.Ax
open Go Go.RowKit Go.Proofs

section
variable {kn : FuncId → Option Bool} {lo : Nat} {H : Hp}
end
end Go.Ax

/-! What 'low' makes of functions of plant (written by program). -/
namespace Go.Ax
open Go Go.RowKit Go.Proofs
end Go.Ax

/-
 Plant: what PlantOwns wants: all outlets (41), Blend's own block (written by program).
-/
namespace Go.Ax
open Go Go.RowKit Go.Proofs

theorem ouc_len (l : List Ou) : (ouc l).length = l.length * 5 := by
 induction l with
 | nil => rfl
 | cons a l ih =>
  have e : (ouc (a :: l)).length = a.f.length + (ouc l).length := List.length_append ..
  rw [e, ih]; show 5 + l.length * 5 = (l.length + 1) * 5; omega
theorem se60 : sliceElem Try.prog 60 = some (59, 5) := by kernel_rfl
theorem u60 : Try.prog.underlying 60 = some (.slice 59) := by kernel_rfl
theorem heap_append_manyA {P : Program} {lo : Nat} {H : Hp} {t0 t1 e ep : TypeId} {size k m cap2 f : Nat} {a : Option Addr} {v : Value} {cs news : List Value} (he : sliceElem P t0 = some (e, size)) (ht : P.underlying t1 = some (.slice ep))
  (hs : Sl H a m cap2 news) (hl : news.length = m * size) (hz : 0 < size) (hone : news.all one = true) (hcl : cs.length = k * size) (hk : k + m ≤ 2000) (ha : Acc lo f e H v k cs) (hlo : lo ≤ H.next) (hf : f ≤ H.next) :
  ∃ v1 H1 kd, (∀ (n : Nat) (S : Rg) (d : Option Tmp) (x y : Operand) (ty : TypeId) (p : String), evS S x = some v → evS S y = some (.slice a m cap2) → heapOp P lo (frS n S) H ⟨d, .call ⟨.builtin .append, #[x, y], #[t0, t1]⟩, ty, p, #[], none⟩ = some (.val v1 H1, kd)) ∧ (∀ b, kd ≠ .read b) ∧
   Acc lo f e H1 v1 (k + m) (cs ++ news) ∧ KeepB f H H1 := by
 rcases Nat.eq_zero_or_pos m with rfl | hp
 ·have hn : news = [] := by cases news with | nil => rfl | cons _ _ => simp at hl
  subst hn
  refine ⟨v, H, .pure, ?_, fun b e => (by cases e), by simpa using ha, ⟨Nat.le_refl _, fun _ _ => rfl, fun _ _ h k => ⟨h, k⟩⟩⟩
  intro n S d x y ty p hx hy
  have h3 : Nat.ble (k + 0) 1048576 = true := Nat.ble_eq_true_of_le (by omega)
  rcases ha with ⟨rfl, _, rfl⟩ | ⟨b, rfl, _⟩
  ·unfold heapOp
   simp only [evs, ev_frS, hx, hy, builtinV, List.getElem?_toArray, List.getElem?_cons_zero, List.getElem?_cons_succ, he, ht, src_of hs hl, appendV]
   rfl
  ·unfold heapOp
   simp only [evs, ev_frS, hx, hy, builtinV, List.getElem?_toArray, List.getElem?_cons_zero, List.getElem?_cons_succ, he, ht, src_of hs hl, appendV, h3, Nat.beq_refl, cond_true]
 ·have h5 : Nat.beq m 0 = false := by rw [beq_eq]; simp; omega
  rcases ha with ⟨rfl, rfl, rfl⟩ | ⟨b, rfl, h0, hb, hlb, hn, hg⟩
  ·refine ⟨.slice (some ⟨H.next, 0, none⟩) m m, H.new (.cells news e true), .heavy, ?_, fun b e => (by cases e), .inr ⟨H.next, by rw [Nat.zero_add], by omega, hf, hlo, (new_facts rfl).2.2.1, new_get rfl⟩, KeepB.of (new_facts rfl).1 hf⟩
   intro n S d x y ty p hx hy
   unfold heapOp
   simp only [evs, ev_frS, hx, hy, builtinV, List.getElem?_toArray, List.getElem?_cons_zero, List.getElem?_cons_succ, he, ht, src_of hs hl, appendV, h5, Nat.ble_eq_true_of_le (show m ≤ 1048576 by omega), Nat.beq_refl, Bool.and_true, cond_true, cond_false]
   rfl
  ·have hmz : 1 ≤ m * size := Nat.mul_pos hp hz
   have h1 : Nat.ble (0 + (k + m) * size) cs.length = false := by
    cases h : Nat.ble (0 + (k + m) * size) cs.length with
    | false => rfl
    | true => have := Nat.le_of_ble_eq_true h; rw [hcl, Nat.add_mul] at this; omega
   have h2 : Nat.beq (0 + k * size) cs.length = true := by rw [hcl, Nat.zero_add]; exact Nat.beq_refl _
   have h3 : Nat.ble (k + m) 1048576 = true := Nat.ble_eq_true_of_le (by omega)
   have h4 : Nat.beq e e = true := Nat.beq_refl e
   refine ⟨.slice (some ⟨H.next, 0, none⟩) (k + m) (k + m), ({ H with t := H.t.set b .dead } : Hp).new (.cells (cs ++ news) e true), .store b, ?_, fun b e => (by cases e), ?_, ?_⟩
   ·intro n S d x y ty p hx hy
    unfold heapOp
    simp only [evs, ev_frS, hx, hy, builtinV, List.getElem?_toArray, List.getElem?_cons_zero, List.getElem?_cons_succ, he, ht, src_of hs hl, appendV, hg, h1, h2, h3, h4, h5, hone, Nat.ble_eq_true_of_le hlb, Bool.and_self, cond_true, cond_false, List.drop_zero]
   ·refine .inr ⟨H.next, rfl, by omega, hf, hlo, Nat.lt_succ_self _, ?_⟩
    show ((H.t.set b .dead).set H.next _).get H.next = _
    rw [Tr.get_set, if_pos rfl]
   ·refine ⟨Nat.le_succ _, fun c hc => ?_, fun c xs hc hx => ?_⟩
    ·show ((H.t.set b .dead).set H.next _).get c = _
     rw [Tr.get_set, if_neg (by omega), Tr.get_set, if_neg (by omega)]
    ·have hx : ((H.t.set b .dead).set H.next (.cells (cs ++ news) e true)).get c = some (.ro xs) := hx
     have hc : c < H.next + 1 := hc
     rw [Tr.get_set] at hx
     split at hx
     ·cases hx
     ·rw [Tr.get_set] at hx
      split at hx
      ·cases hx
      ·exact ⟨by omega, hx⟩
section
variable {kn : FuncId → Option Bool} {lo : Nat} {H : Hp}
end
end Go.Ax

/-
  Plant: the law PlantMore (written by program).
-/
namespace Go.Ax
open Go Go.RowKit Go.Proofs

/-- a block that append made -/
def Bk73 (H : Hp) (b : Nat) (cs : List Value) : Prop := b < H.next ∧ H.t.get b = some (.cells cs 73 true)
theorem Bk73.rd {H : Hp} {b : Nat} {cs : List Value} (h : Bk73 H b cs) : Rd H b cs := ⟨h.1, by unfold cellsOf; rw [h.2]⟩
theorem Bk73.cl {H : Hp} {b : Nat} {cs : List Value} (h : Bk73 H b cs) : Cl H b cs := ⟨h.1, _, _, h.2⟩
section
variable {kn : FuncId → Option Bool} {lo : Nat} {H : Hp}
end
end Go.Ax

/-
  Plant: the law PlantOwns (written by program).
-/
namespace Go.Ax
open Go Go.RowKit Go.Proofs

section
variable {kn : FuncId → Option Bool} {lo : Nat} {H : Hp}
end
end Go.Ax

/-
  Plant: a pipe ahead of all machines (written by program).
-/
namespace Go.Ax
open Go Go.RowKit

def shO (o : Ou) : Ou := { o with to := if 0 ≤ o.to then o.to + 1 else o.to }
def pipO (n : Nat) : Ou := ⟨if n = 0 then -1 else 1, 3, 5, 0, 0⟩
def lng (ms : List (List Ou)) : List (List Ou) := [pipO ms.length] :: ms.map (List.map shO)
/-- the same rows, those of machines one further -/
def Shf (D C : Cs) : Prop := (∀ r, r < 16 → D r = C r) ∧ ∀ r, 16 ≤ r → D (r + 1) = C r
theorem ix_sh {o : Ou} : (o.to < 0 → ix (shO o).to = ix o.to ∧ ix o.to = (-1 - o.to).toNat) ∧ (0 ≤ o.to → ix (shO o).to = ix o.to + 1 ∧ 16 ≤ ix o.to) := by
  unfold shO ix
  constructor
  · intro h; simp only [if_neg (show ¬ 0 ≤ o.to by omega), if_pos h]; exact ⟨trivial, trivial⟩
  · intro h; simp only [if_pos h, if_neg (show ¬ o.to < 0 by omega), if_neg (show ¬ o.to + 1 < 0 by omega)]; omega
theorem Shf.snd {D C : Cs} (h : Shf D C) {o : Ou} (ho : -16 ≤ o.to) (p : Nat → Int) : Shf (snd D (shO o).to p) (snd C o.to p) := by
  obtain ⟨h1, h2⟩ := h
  rcases Int.lt_or_le o.to 0 with q | q
  · obtain ⟨e1, e2⟩ := ix_sh.1 q
    constructor
    · intro r hr; unfold Go.Ax.snd; rw [e1, h1 r hr]
    · intro r hr; unfold Go.Ax.snd; rw [e1, if_neg (by omega), if_neg (by omega), h2 r hr]
  · obtain ⟨e1, e2⟩ := ix_sh.2 q
    constructor
    · intro r hr; unfold Go.Ax.snd; rw [if_neg (by omega), if_neg (by omega), h1 r hr]
    · intro r hr
      unfold Go.Ax.snd
      rw [e1, h2 r hr]
      by_cases e : r = ix o.to
      · rw [if_pos (by omega), if_pos e]
      · rw [if_neg (by omega), if_neg e]
theorem shO_w (o : Ou) : (shO o).w = o.w := rfl
theorem getD_sh {l : List Ou} {k : Nat} (h : k < l.length) : (l.map shO).getD k Ou.z = shO (l.getD k Ou.z) := by
  rw [List.getD_eq_getElem?_getD, List.getElem?_map, List.getD_eq_getElem?_getD, List.getElem?_eq_getElem h]; rfl
theorem Shf.ws {D C : Cs} (h : Shf D C) {all : Nat → Int} {l : List Ou} (hl : ∀ k, k < l.length → -16 ≤ (l.getD k Ou.z).to) : ∀ k, k ≤ l.length → Shf (ws D all (l.map shO) k).1 (ws C all l k).1 ∧ (ws D all (l.map shO) k).2 = (ws C all l k).2
  | 0, _ => ⟨h, rfl⟩
  | k + 1, hk => by
    obtain ⟨a, b⟩ := Shf.ws h (all := all) hl k (by omega)
    show Shf (Go.Ax.snd (Go.Ax.ws D all (l.map shO) k).1 ((l.map shO).getD k Ou.z).to (shQ all ((l.map shO).getD k Ou.z).w)) (Go.Ax.snd (Go.Ax.ws C all l k).1 (l.getD k Ou.z).to (shQ all (l.getD k Ou.z).w)) ∧ subQ (Go.Ax.ws D all (l.map shO) k).2 (shQ all ((l.map shO).getD k Ou.z).w) = subQ (Go.Ax.ws C all l k).2 (shQ all (l.getD k Ou.z).w)
    rw [getD_sh (by omega), shO_w, b]
    exact ⟨a.snd (hl k (by omega)) _, rfl⟩
theorem Shf.wk {D C : Cs} (h : Shf D C) {i : Nat} {l : List Ou} (hl : ∀ k, k < l.length → -16 ≤ (l.getD k Ou.z).to) (h1 : 1 ≤ l.length) : Shf (wk D (i + 1) (l.map shO)) (wk C i l) := by
  unfold Go.Ax.wk
  rw [List.length_map, show 16 + (i + 1) = (16 + i) + 1 by omega, h.2 (16 + i) (by omega)]
  obtain ⟨a, b⟩ := h.ws (all := C (16 + i)) hl (l.length - 1) (by omega)
  rw [getD_sh (by omega), b]
  exact a.snd (hl _ (by omega)) _
theorem lng_first (ms : List (List Ou)) (s : Nat → Int) : Shf (rn (lng ms) s 1) (rn ms s 0) := by
  have z : ∀ (p : Nat → Int), addQ (fun _ => 0) p = p := fun p => by funext j; exact Int.zero_add _
  have c : c0 (lng ms) s = snd cz 0 s := rfl
  have e : rn (lng ms) s 1 = snd (snd cz 0 s) (pipO ms.length).to (snd cz 0 s 16) := rfl
  have e16 : snd cz 0 s 16 = s := by
    show (if 16 = ix 0 then addQ (cz 16) s else cz 16) = s
    rw [if_pos (show (16 : Nat) = ix 0 from rfl)]; exact z s
  rw [e, e16]
  show Shf _ (c0 ms s)
  unfold c0
  have ne : ∀ r, r ≠ 16 → snd cz 0 s r = fun _ => 0 := fun r hr => by
    show (if r = ix 0 then addQ (cz r) s else cz r) = _
    rw [if_neg (by show r ≠ 16; exact hr)]; rfl
  rcases Nat.eq_zero_or_pos ms.length with q | q
  · rw [if_pos q]
    unfold pipO
    simp only [if_pos q]
    have i0 : ix (-1) = 0 := rfl
    constructor
    · intro r hr
      show (if r = ix (-1) then addQ (snd cz 0 s r) s else snd cz 0 s r) = (if r = ix (-1) then addQ (cz r) s else cz r)
      rw [ne r (by omega)]; rfl
    · intro r hr
      show (if r + 1 = ix (-1) then addQ (snd cz 0 s (r + 1)) s else snd cz 0 s (r + 1)) = (if r = ix (-1) then addQ (cz r) s else cz r)
      rw [i0, if_neg (by omega), if_neg (by omega), ne (r + 1) (by omega)]; rfl
  · rw [if_neg (by omega)]
    unfold pipO
    simp only [if_neg (show ¬ ms.length = 0 by omega)]
    have i1 : ix 1 = 17 := rfl
    have i0 : ix 0 = 16 := rfl
    constructor
    · intro r hr
      show (if r = ix 1 then addQ (snd cz 0 s r) s else snd cz 0 s r) = snd cz 0 s r
      rw [i1, if_neg (by omega)]
    · intro r hr
      show (if r + 1 = ix 1 then addQ (snd cz 0 s (r + 1)) s else snd cz 0 s (r + 1)) = (if r = ix 0 then addQ (cz r) s else cz r)
      rw [i1, i0, ne (r + 1) (by omega)]
      by_cases e : r = 16
      · rw [if_pos (by omega), if_pos e]; rfl
      · rw [if_neg (by omega), if_neg e]; rfl
theorem lng_rn {ms : List (List Ou)} {s : Nat → Int} (h : ∀ i, i < ms.length → 1 ≤ (ms.getD i []).length ∧ ∀ k, k < (ms.getD i []).length → -16 ≤ ((ms.getD i []).getD k Ou.z).to) : ∀ k, k ≤ ms.length → Shf (rn (lng ms) s (k + 1)) (rn ms s k)
  | 0, _ => lng_first ms s
  | k + 1, hk => by
    have ih := lng_rn (s := s) h k (by omega)
    obtain ⟨h1, h2⟩ := h k (by omega)
    have e : (lng ms).getD (k + 1) [] = (ms.getD k []).map shO := by
      unfold lng
      rw [List.getD_eq_getElem?_getD, List.getElem?_cons_succ, List.getElem?_map, List.getD_eq_getElem?_getD, List.getElem?_eq_getElem (show k < ms.length by omega)]; rfl
    show Shf (wk (rn (lng ms) s (k + 1)) (k + 1) ((lng ms).getD (k + 1) [])) (wk (rn ms s k) k (ms.getD k []))
    rw [e]
    exact ih.wk h2 h1
/-- a pipe ahead changes nothing -/
theorem lng_rnA {ms : List (List Ou)} {s : Nat → Int} (h : ∀ i, i < ms.length → 1 ≤ (ms.getD i []).length ∧ ∀ k, k < (ms.getD i []).length → -16 ≤ ((ms.getD i []).getD k Ou.z).to) {r : Nat} (hr : r < 16) : rnA (lng ms) s r = rnA ms s r := by
  have q := lng_rn (s := s) h ms.length (Nat.le_refl _)
  unfold rnA
  rw [show (lng ms).length = ms.length + 1 by unfold lng; rw [List.length_cons, List.length_map]]
  exact q.1 r hr
theorem pok_m {ms : List (List Ou)} (h : pok ms = true) : ms.length ≤ 12 ∧ ∀ i, i < ms.length → mok (ms.getD i []) i ms.length = true := by
  unfold pok at h
  rw [Bool.and_eq_true, decide_eq_true_eq, List.all_eq_true] at h
  exact ⟨h.1, fun i hi => h.2 i (List.mem_range.2 hi)⟩
theorem mok_sh {l : List Ou} {i n : Int} (h : mok l i n = true) (hi : 0 ≤ i) : mok (l.map shO) (i + 1) (n + 1) = true := by
  unfold mok at h ⊢
  simp only [Bool.and_eq_true, decide_eq_true_eq] at h ⊢
  obtain ⟨⟨⟨h1, h2⟩, h3⟩, h4⟩ := h
  rw [List.length_map]
  refine ⟨⟨⟨h1, h2⟩, ?_⟩, ?_⟩
  · rw [List.all_eq_true] at h3 ⊢
    intro o ho
    obtain ⟨x, hx, rfl⟩ := List.mem_map.1 ho
    have q := h3 x hx
    unfold Ou.ok at q ⊢
    simp only [Bool.and_eq_true, Bool.or_eq_true, decide_eq_true_eq] at q ⊢
    refine ⟨?_, q.2⟩
    unfold shO
    simp only
    split <;> omega
  · have e : ∀ k, k ≤ l.length → givQ (l.map shO) k = givQ l k := by
      intro k
      induction k with
      | zero => intro _; rfl
      | succ k ih =>
        intro hk
        have a := ih (by omega)
        funext j
        have a := congrFun a j
        show giv (l.map shO) j k + ((l.map shO).getD k Ou.z).w j = giv l j k + (l.getD k Ou.z).w j
        rw [getD_sh (by omega), shO_w]
        have a : giv (l.map shO) j k = giv l j k := a
        rw [a]
    rw [e _ (by omega)]; exact h4
theorem pok_lng {ms : List (List Ou)} (h : pok ms = true) (h11 : ms.length < 12) : pok (lng ms) = true := by
  obtain ⟨_, h2⟩ := pok_m h
  have el : (lng ms).length = ms.length + 1 := by unfold lng; rw [List.length_cons, List.length_map]
  unfold pok
  rw [Bool.and_eq_true, decide_eq_true_eq, List.all_eq_true, el]
  refine ⟨by omega, fun i hi => ?_⟩
  have hi := List.mem_range.1 hi
  cases i with
  | zero =>
    show mok [pipO ms.length] 0 ((ms.length + 1 : Nat) : Int) = true
    unfold pipO
    rcases Nat.eq_zero_or_pos ms.length with q | q
    · rw [q]; rfl
    · have e : wiQ (Ou.w ⟨1, 3, 5, 0, 0⟩) 1000 = true := rfl
      have e2 : wiQ (givQ [(⟨1, 3, 5, 0, 0⟩ : Ou)] 0) 1000 = true := rfl
      rw [if_neg (show ¬ ms.length = 0 by omega)]
      unfold mok
      simp only [Bool.and_eq_true, decide_eq_true_eq, List.all_cons, List.all_nil, Ou.ok, Bool.or_eq_true, List.length_cons, List.length_nil]
      exact ⟨⟨⟨by omega, by omega⟩, ⟨.inr ⟨by omega, by omega⟩, e⟩, trivial⟩, e2⟩
  | succ k =>
    have e : (lng ms).getD (k + 1) [] = (ms.getD k []).map shO := by
      unfold lng
      rw [List.getD_eq_getElem?_getD, List.getElem?_cons_succ, List.getElem?_map, List.getD_eq_getElem?_getD, List.getElem?_eq_getElem (show k < ms.length by omega)]; rfl
    rw [e]
    show mok _ ((k : Int) + 1) ((ms.length : Int) + 1) = true
    exact mok_sh (h2 k (by omega)) (by omega)
/-- the last machine into one bin -/
def lst1 (ms : List (List Ou)) (t : Int) : List (List Ou) := ms.take (ms.length - 1) ++ [[⟨t, 0, 0, 0, 0⟩]]
theorem lst1_len {ms : List (List Ou)} {t : Int} (h : 0 < ms.length) : (lst1 ms t).length = ms.length := by
  unfold lst1; rw [List.length_append, List.length_take]; simp; omega
theorem lst1_at {ms : List (List Ou)} {t : Int} {k : Nat} (h : k < ms.length - 1) : (lst1 ms t).getD k [] = ms.getD k [] := by
  unfold lst1
  rw [List.getD_eq_getElem?_getD, List.getElem?_append_left (by rw [List.length_take]; omega), List.getElem?_take_of_lt h, List.getD_eq_getElem?_getD]
theorem lst1_end {ms : List (List Ou)} {t : Int} (h : 0 < ms.length) : (lst1 ms t).getD (ms.length - 1) [] = [⟨t, 0, 0, 0, 0⟩] := by
  unfold lst1
  rw [List.getD_eq_getElem?_getD, List.getElem?_append_right (by rw [List.length_take]; omega), List.length_take, show ms.length - 1 - min (ms.length - 1) ms.length = 0 by omega]; rfl
theorem pok_lst1 {ms : List (List Ou)} {t : Int} (h : pok ms = true) (h0 : 0 < ms.length) (ht : -16 ≤ t ∧ t < 0) : pok (lst1 ms t) = true := by
  obtain ⟨h1, h2⟩ := pok_m h
  unfold pok
  rw [Bool.and_eq_true, decide_eq_true_eq, List.all_eq_true, lst1_len h0]
  refine ⟨h1, fun i hi => ?_⟩
  have hi := List.mem_range.1 hi
  rcases Nat.lt_or_ge i (ms.length - 1) with q | q
  · rw [lst1_at q]; exact h2 i hi
  · have e : i = ms.length - 1 := by omega
    subst e
    rw [lst1_end h0]
    have e1 : wiQ (Ou.w ⟨t, 0, 0, 0, 0⟩) 1000 = true := rfl
    have e2 : wiQ (givQ [(⟨t, 0, 0, 0, 0⟩ : Ou)] 0) 1000 = true := rfl
    unfold mok
    simp only [Bool.and_eq_true, decide_eq_true_eq, List.all_cons, List.all_nil, Ou.ok, Bool.or_eq_true, List.length_cons, List.length_nil]
    exact ⟨⟨⟨by omega, by omega⟩, ⟨.inl ⟨by omega, by omega⟩, e1⟩, trivial⟩, e2⟩
theorem lst1_rn {ms : List (List Ou)} {t : Int} {s : Nat → Int} (h : 0 < ms.length) : ∀ k, k ≤ ms.length - 1 → rn (lst1 ms t) s k = rn ms s k
  | 0, _ => by show c0 _ s = c0 _ s; unfold c0; rw [lst1_len h]
  | k + 1, hk => by
    show wk (rn (lst1 ms t) s k) k ((lst1 ms t).getD k []) = wk (rn ms s k) k (ms.getD k [])
    rw [lst1_rn h k (by omega), lst1_at (by omega)]
/-- no other bin gets more -/
theorem lst1_le {ms : List (List Ou)} {t : Int} {s : Nat → Int} (h : pok ms = true) (h0 : 0 < ms.length) (hs : ∀ j, j < 4 → 0 ≤ s j) {r j : Nat} (hr : r ≠ ix t) (hj : j < 4) : rnA (lst1 ms t) s r j = rn ms s (ms.length - 1) r j := by
  unfold rnA
  rw [lst1_len h0]
  obtain ⟨k, hk⟩ : ∃ k, ms.length = k + 1 := ⟨ms.length - 1, by omega⟩
  have e := lst1_rn (t := t) (s := s) h0 k (by omega)
  rw [hk]
  show wk (rn (lst1 ms t) s k) k ((lst1 ms t).getD k []) r j = rn ms s k r j
  rw [e, show k = ms.length - 1 by omega, lst1_end h0]
  show (if r = ix t then addQ (rn ms s (ms.length - 1) r) _ else rn ms s (ms.length - 1) r) j = _
  rw [if_neg hr]
theorem snd_ge {C : Cs} {to : Int} {p : Nat → Int} {j : Nat} (hp : 0 ≤ p j) (r : Nat) : C r j ≤ snd C to p r j := by
  unfold Go.Ax.snd
  split
  · show C r j ≤ C r j + p j; omega
  · exact Int.le_refl _
theorem ws_ge {C : Cs} {i n : Nat} {l : List Ou} {s all : Nat → Int} (h : MOk l i n) (h0 : Pv (i + 1) C all s) (r : Nat) {j : Nat} (hj : j < 4) : ∀ k, k ≤ l.length - 1 → C r j ≤ (ws C all l k).1 r j
  | 0, _ => Int.le_refl _
  | k + 1, hk => by
    have a := ws_ge h h0 r hj k (by omega)
    have w := (h.o k (by omega)).2 j hj
    have p : 0 ≤ shQ all (l.getD k Ou.z).w j := Int.ediv_nonneg (Int.mul_nonneg (h0.rs j hj) w.1) (by decide)
    exact Int.le_trans a (snd_ge (to := (l.getD k Ou.z).to) p r)
theorem wk_ge {i n : Nat} {C : Cs} {s : Nat → Int} {l : List Ou} (h : Pv i C (fun _ => 0) s) (hi : i < 12) (hl : MOk l i n) (hn : n ≤ 12) (r : Nat) {j : Nat} (hj : j < 4) : C r j ≤ wk C i l r j := by
  have h1 := h.next hi
  exact Int.le_trans (ws_ge hl h1 r hj (l.length - 1) (Nat.le_refl _)) (snd_ge (((ws_inv hl hn h1 (l.length - 1) (Nat.le_refl _)).1).rs j hj) r)
theorem rnA_ge {ms : List (List Ou)} {s : Nat → Int} (h : pok ms = true) (h0 : 0 < ms.length) (hs : ∀ j, j < 4 → 0 ≤ s j) (r : Nat) {j : Nat} (hj : j < 4) : rn ms s (ms.length - 1) r j ≤ rnA ms s r j := by
  obtain ⟨h12, hm⟩ := pok_t h
  obtain ⟨k, hk⟩ : ∃ k, ms.length = k + 1 := ⟨ms.length - 1, by omega⟩
  unfold rnA
  rw [hk]
  exact wk_ge (rn_inv h hs k (by omega)) (by omega) (hm k (by omega)) h12 r hj
/-- with the last machine into one bin no other one has more, and all together have as much -/
theorem lst1_says {ms : List (List Ou)} {t : Int} {s : Nat → Int} (h : pok ms = true) (h0 : 0 < ms.length) (ht : -16 ≤ t ∧ t < 0) (hs : ∀ j, j < 4 → 0 ≤ s j) {j : Nat} (hj : j < 4) : (∀ r, r ≠ ix t → rnA (lst1 ms t) s r j ≤ rnA ms s r j) ∧ sm (fun r => rnA (lst1 ms t) s r j) 16 = sm (fun r => rnA ms s r j) 16 :=
  ⟨fun r hr => by rw [lst1_le h h0 hs hr hj]; exact rnA_ge h h0 hs r hj, by rw [rn_sum (pok_lst1 h h0 ht) hs hj, rn_sum h hs hj]⟩
end Go.Ax

/-
  Plant: a list of machines that append makes (written by program).
-/
namespace Go.Ax
open Go Go.RowKit Go.Proofs

/-- what lies below f stays, and all blocks but those that append made of this element type -/
structure KE (t : TypeId) (f : Nat) (H H1 : Hp) : Prop where
  nx : H.next ≤ H1.next
  bl : ∀ b, b < H.next → (b < f ∨ ∀ cs, H.t.get b ≠ some (.cells cs t true)) → H1.t.get b = H.t.get b
  ro : ∀ b cs, b < H1.next → H1.t.get b = some (.ro cs) → b < H.next ∧ H.t.get b = some (.ro cs)
theorem KE.of {t : TypeId} {f : Nat} {H H1 : Hp} (k : Keep H H1 []) : KE t f H H1 := ⟨k.1, fun b hb _ => k.2 b hb (by simp), k.3⟩
theorem KE.trans {t : TypeId} {f : Nat} {H H1 H2 : Hp} (h : KE t f H H1) (k : KE t f H1 H2) : KE t f H H2 :=
  ⟨Nat.le_trans h.nx k.nx, fun b hb q => by
    have e := h.bl b hb q
    rw [← e]
    refine k.bl b (Nat.lt_of_lt_of_le hb h.nx) (q.imp id fun z cs => ?_)
    rw [e]; exact z cs, fun b cs hb hg => by
    obtain ⟨a, c⟩ := k.ro b cs hb hg
    exact h.ro b cs a c⟩
theorem KE.keep {t : TypeId} {f : Nat} {H0 H H1 : Hp} (k : KE t f H H1) (h : Keep H0 H []) (hf : H0.next ≤ f) : Keep H0 H1 [] :=
  ⟨Nat.le_trans h.1 k.nx, fun b hb hn => by rw [k.bl b (Nat.lt_of_lt_of_le hb h.1) (.inl (Nat.lt_of_lt_of_le hb hf)), h.2 b hb hn], fun b cs hb hg => by
    obtain ⟨a, c⟩ := k.ro b cs hb hg
    exact h.3 b cs a c⟩
theorem KE.fy {t : TypeId} {f : Nat} {H H1 : Hp} (k : KE t f H H1) (ht : t ≠ 59) {b : Nat} {cs : List Value} (h : Fy H b cs) : Fy H1 b cs := by
  obtain ⟨h1, h2⟩ := h
  have e : H1.t.get b = H.t.get b := k.bl b h1 (.inr fun cs' q => by
    rcases h2 with z | ⟨e, z⟩ | z
    · rw [z] at q; cases q
    · rw [z] at q; cases q
    · rw [z] at q; cases q; exact ht rfl)
  exact ⟨Nat.lt_of_lt_of_le h1 k.nx, by rw [e]; exact h2⟩
/-- a machine's outlets -/
def Rw1 (H : Hp) (r : Mc) : Prop := Sl H r.ra r.n r.cap (ouc r.l) ∧ r.l.length = r.n ∧ ∀ x, r.ra = some ⟨x, 0, none⟩ → Fy H x (ouc r.l)
theorem Rw1.ke {t : TypeId} {f : Nat} {H H1 : Hp} {r : Mc} (h : Rw1 H r) (k : KE t f H H1) (ht : t ≠ 59) : Rw1 H1 r := by
  obtain ⟨h1, h2, h3⟩ := h
  refine ⟨?_, h2, fun x e => k.fy ht (h3 x e)⟩
  rcases h1 with q | ⟨b, e, _, q⟩
  · exact .inl q
  · exact .inr ⟨b, e, (k.fy ht (h3 b e)).rd, q⟩
/-- a list of machines that buildSlice and append made -/
def Lng (lo f : Nat) (H : Hp) (v : Value) (RS : List Mc) : Prop := ∃ b loc, v = .slice (some ⟨b, 0, none⟩) RS.length RS.length ∧ f ≤ b ∧ lo ≤ b ∧ b < H.next ∧ H.t.get b = some (.cells (mcc RS) 62 loc) ∧ (loc = true → 0 < RS.length) ∧ ∀ r ∈ RS, Rw1 H r
theorem Lng.keep {lo f : Nat} {H H1 : Hp} {v : Value} {RS : List Mc} (h : Lng lo f H v RS) (k : Keep H H1 []) : Lng lo f H1 v RS := by
  obtain ⟨b, loc, e, h1, h2, h3, h4, h5, h6⟩ := h
  exact ⟨b, loc, e, h1, h2, Nat.lt_of_lt_of_le h3 k.1, by rw [k.2 b h3 (by simp)]; exact h4, h5, fun r hr => (h6 r hr).ke (KE.of (t := 62) (f := f) k) (by decide)⟩
theorem mcc_app (a b : List Mc) : mcc (a ++ b) = mcc a ++ mcc b := by unfold mcc; exact List.flatMap_append
theorem mcc_len (l : List Mc) : (mcc l).length = l.length := by
  induction l with
  | nil => rfl
  | cons a l ih =>
    have e : (mcc (a :: l)).length = a.f.length + (mcc l).length := List.length_append ..
    rw [e, ih]; show 1 + l.length = l.length + 1; omega
/-- it is a list of machines as Run wants them -/
theorem Lng.mcs {lo f : Nat} {H : Hp} {v : Value} {RS : List Mc} (h : Lng lo f H v RS) : ∃ b, v = .slice (some ⟨b, 0, none⟩) RS.length RS.length ∧ Mcs H H.next (some ⟨b, 0, none⟩) RS.length RS.length RS := by
  obtain ⟨b, loc, e, h1, h2, h3, h4, h5, h6⟩ := h
  refine ⟨b, e, ⟨.inr ⟨b, 0, mcc RS, rfl, ⟨h3, by unfold cellsOf; rw [h4]⟩, h3, Nat.le_refl _, fun i r hr => mcc_row hr⟩, rfl, fun r hr => ?_⟩⟩
  obtain ⟨q1, q2, q3⟩ := h6 r hr
  exact ⟨q1, q2, fun x ex => ⟨(q3 x ex).lt, q3 x ex⟩⟩
theorem se22 : sliceElem Try.prog 22 = some (62, 1) := by kernel_rfl
theorem u22 : Try.prog.underlying 22 = some (.slice 62) := by kernel_rfl
theorem z62 : zeroOf Try.prog 62 = some (.agg #[.slice none 0 0]) := by kernel_rfl
/-- one machine more -/
theorem Lng.append {lo f : Nat} {H : Hp} {v : Value} {RS : List Mc} {r : Mc} {a1 : Option Addr} {c1 : Nat} (h : Lng lo f H v RS) (hr : Rw1 H r) (hs : Sl H a1 1 c1 [.slice r.ra r.n r.cap]) (hL : RS.length < 1000) (hlo : lo ≤ H.next) (hf : f ≤ H.next) :
    ∃ v1 H1 kd, (∀ (m : Nat) (S : Rg) (d : Option Tmp) (x y : Operand) (ty : TypeId) (p : String), evS S x = some v → evS S y = some (.slice a1 1 c1) → heapOp Try.prog lo (frS m S) H ⟨d, .call ⟨.builtin .append, #[x, y], #[22, 22]⟩, ty, p, #[], none⟩ = some (.val v1 H1, kd)) ∧ (∀ b, kd ≠ .read b) ∧ Lng lo f H1 v1 (RS ++ [r]) ∧ KE 62 f H H1 := by
  obtain ⟨b, loc, rfl, h1, h2, h3, h4, h5, h6⟩ := h
  have hl : [(Value.slice r.ra r.n r.cap)].length = 1 * 1 := rfl
  have g1 : Nat.ble (RS.length + 1) 1048576 = true := Nat.ble_eq_true_of_le (by omega)
  have g2 : Nat.beq 1 0 = false := rfl
  have el : (RS ++ [r]).length = RS.length + 1 := by simp
  have ec : mcc RS ++ [Value.slice r.ra r.n r.cap] = mcc (RS ++ [r]) := by rw [mcc_app]; rfl
  cases loc with
  | false =>
    have g3 : Nat.ble (RS.length + 1) RS.length = false := by
      cases q : Nat.ble (RS.length + 1) RS.length with
      | false => rfl
      | true => have := Nat.le_of_ble_eq_true q; omega
    have g4 : row (RS.length * 1) (mcc RS) 0 = some (mcc RS) := by
      unfold row
      simp only [List.drop_zero, Nat.mul_one, beq_eq, ← mcc_len RS, List.take_length, decide_true, cond_true]
    have k : Keep H (H.new (.cells (mcc RS ++ [.slice r.ra r.n r.cap]) 62 true)) [] := (new_facts rfl).1
    refine ⟨.slice (some ⟨H.next, 0, none⟩) (RS.length + 1) (RS.length + 1), _, .heavy, ?_, (fun b e => by cases e), ⟨H.next, true, by rw [el], hf, hlo, (new_facts rfl).2.2.1, by rw [new_get rfl, ec], fun _ => by rw [el]; omega, fun q hq => ?_⟩, KE.of k⟩
    · intro m S d x y ty p hx hy
      unfold heapOp
      simp only [evs, ev_frS, hx, hy, builtinV, List.getElem?_toArray, List.getElem?_cons_zero, List.getElem?_cons_succ, se22, u22, src_of hs hl, appendV, h4, g1, g2, g3, g4, cond_true, cond_false]
    · rcases List.mem_append.1 hq with z | z
      · exact (h6 q z).ke (KE.of (t := 62) (f := f) k) (by decide)
      · rw [List.mem_singleton] at z; subst z; exact hr.ke (KE.of (t := 62) (f := f) k) (by decide)
  | true =>
    obtain ⟨H1, kd, e, d, ac, k⟩ := heap_append_big (P := Try.prog) (lo := lo) (f := f) (t1 := 22) se22 u22 hs rfl (by rw [mcc_len, Nat.mul_one]) (show RS.length < 1000000 by omega) (.inr ⟨b, rfl, h5 rfl, h1, h2, h3, h4⟩) hlo hf
    have ke : KE 62 f H H1 := by
      refine ⟨k.1, fun c hc q => k.2 c hc fun hm => ?_, k.3⟩
      simp [bkv] at hm
      subst hm
      rcases q with q | q
      · omega
      · exact q _ h4
    rcases ac with ⟨q, _⟩ | ⟨b2, e2, q1, q2, q3, q4, q5⟩
    · omega
    · refine ⟨_, H1, kd, e, d, ⟨b2, true, ?_, q2, q3, q4, by rw [q5, ec], fun _ => by rw [el]; omega, fun q hq => ?_⟩, ke⟩
      · rw [el]; exact e2
      · rcases List.mem_append.1 hq with z | z
        · exact (h6 q z).ke ke (by decide)
        · rw [List.mem_singleton] at z; subst z; exact hr.ke ke (by decide)
end Go.Ax

/-
  Plant: the law PlantSplits (written by program).
-/
namespace Go.Ax
open Go Go.RowKit Go.Proofs

theorem KE.kb {t : TypeId} {f : Nat} {H H1 : Hp} (k : KE t f H H1) (hf : f ≤ H.next) : KeepB f H H1 := ⟨k.nx, fun b hb => k.bl b (Nat.lt_of_lt_of_le hb hf) (.inl hb), k.ro⟩
theorem Sc.fy {H : Hp} {b : Nat} {cs : List Value} (h : Sc H b cs) : Fy H b cs := ⟨h.1, .inr (.inl h.2)⟩
theorem Acc.own {lo f : Nat} {H : Hp} {v : Value} {k : Nat} {cs : List Value} (h : Acc lo f 59 H v k cs) : ∃ a c, v = .slice a k c ∧ Sl H a k c cs ∧ ∀ x, a = some ⟨x, 0, none⟩ → Fy H x cs := by
  rcases h with ⟨rfl, rfl, rfl⟩ | ⟨b, rfl, h0, hf, hl, hn, hg⟩
  · exact ⟨none, 0, rfl, .inl ⟨.inl rfl, rfl, rfl, rfl⟩, fun x e => by cases e⟩
  · exact ⟨_, _, rfl, .inr ⟨b, rfl, ⟨hn, by unfold cellsOf; rw [hg]⟩, Nat.le_refl _⟩, fun x e => by cases e; exact ⟨hn, .inr (.inr hg)⟩⟩
theorem Mcs.rw1 {H : Hp} {f : Nat} {sa : Option Addr} {n cap : Nat} {rs : List Mc} (h : Mcs H f sa n cap rs) : ∀ r ∈ rs, Rw1 H r := fun r hr => ⟨(h.ri r hr).1, (h.ri r hr).2.1, fun x e => ((h.ri r hr).2.2 x e).2⟩
theorem mcc_map (l : List Mc) : mcc l = l.map fun r => Value.slice r.ra r.n r.cap := by
  induction l with
  | nil => rfl
  | cons a l ih => show Mc.f a ++ mcc l = _; rw [ih]; rfl
theorem mcc_take (l : List Mc) (k : Nat) : (mcc l).take k = mcc (l.take k) := by rw [mcc_map, mcc_map, List.map_take]
theorem z59 : zeroOf Try.prog 59 = some (.agg #[iv 0, iv 0, iv 0, iv 0, iv 0]) := by kernel_rfl
theorem in62 : ∃ i, Try.prog.info? 62 = some i ∧ i.size = 1 := by
  have h : (Try.prog.info? 62).map (fun i => i.size) = some 1 := by kernel_rfl
  cases e : Try.prog.info? 62 with
  | none => rw [e] at h; cases h
  | some i => rw [e] at h; exact ⟨i, rfl, by simpa using h⟩
/-- m[:k] of what is given -/
theorem heap_pre {lo : Nat} {H : Hp} {x0 n cap k : Nat} {j : Int} {cs : List Value} (hg : H.t.get x0 = some (.ro cs)) (hj : j = (k : Int)) (hk : k ≤ n) (hc : n ≤ cap) (m : Nat) (S : Rg) (d : Option Tmp) (x z : Operand) (ty : TypeId) (p : String)
    (hx : evS S x = some (.slice (some ⟨x0, 0, none⟩) n cap)) (hz : evS S z = some (iv j)) :
    heapOp Try.prog lo (frS m S) H ⟨d, .slice 22 x none (some z) none, ty, p, #[], none⟩ = some (.val (.slice (some ⟨x0, 0, none⟩) k cap) H, .read x0) := by
  subst hj
  obtain ⟨f, hi1, hs1⟩ := in62
  have hb : boundOf (frS m S) n (some z) = some k := by unfold boundOf; simp only [ev_frS, hz]
  have hb0 : boundOf (frS m S) 0 none = some 0 := rfl
  have e : (bif Nat.beq cap 0 then (⟨x0, 0, none⟩ : Addr) else (⟨x0, 0, none⟩ : Addr).add (0 * f.size)) = ⟨x0, 0, none⟩ := by
    rw [Nat.zero_mul, add_none]; cases Nat.beq cap 0 <;> rfl
  unfold heapOp
  simp only [ev_frS, hx, u22, hi1, hb, hb0, hg, e, Nat.ble_eq_true_of_le (show k ≤ cap by omega), Nat.ble_eq_true_of_le (Nat.zero_le k), Bool.and_self, cond_true, Nat.sub_zero]
/-- append of the first k machines of what is given to an empty list -/
theorem heap_cut {lo f : Nat} {H : Hp} {b0 x0 n k cap : Nat} {rs : List Mc} (h0 : H.t.get b0 = some (.cells [] 62 false)) (hb0 : b0 < H.next) (hfb : f ≤ b0) (hlb : lo ≤ b0) (hg : H.t.get x0 = some (.ro (mcc rs))) (hl : rs.length = n) (hk : k ≤ n) (hn : n ≤ 1000) (hr : ∀ r ∈ rs, Rw1 H r) :
    ∃ v1 H1 kd, (∀ (m : Nat) (S : Rg) (d : Option Tmp) (x y : Operand) (ty : TypeId) (p : String), evS S x = some (.slice (some ⟨b0, 0, none⟩) 0 0) → evS S y = some (.slice (some ⟨x0, 0, none⟩) k cap) → heapOp Try.prog lo (frS m S) H ⟨d, .call ⟨.builtin .append, #[x, y], #[22, 22]⟩, ty, p, #[], none⟩ = some (.val v1 H1, kd)) ∧ (∀ b, kd ≠ .read b) ∧ Lng lo f H1 v1 (rs.take k) ∧ Keep H H1 [] := by
  have hlen : (mcc rs).length = n := by rw [mcc_len, hl]
  have hrow : row (k * 1) (mcc rs) 0 = some ((mcc rs).take k) := by
    unfold row
    simp only [List.drop_zero, Nat.mul_one, beq_eq, List.length_take, hlen, Nat.min_eq_left hk, decide_true, cond_true]
  have hs : srcCells H 1 (.slice (some ⟨x0, 0, none⟩) k cap) = some (k, mcc (rs.take k)) := by
    rw [← mcc_take]; simp only [srcCells, cellsOf, hg, hrow]
  have hlt : (rs.take k).length = k := by rw [List.length_take, hl]; omega
  rcases Nat.eq_zero_or_pos k with rfl | hp
  · refine ⟨.slice (some ⟨b0, 0, none⟩) 0 0, H, .pure, ?_, (fun b e => by cases e), ⟨b0, false, rfl, hfb, hlb, hb0, h0, (fun e => by cases e), fun r hr => by simp at hr⟩, Keep.refl _ _⟩
    intro m S d x y ty p hx hy
    have h3 : Nat.ble (0 + 0) 1048576 = true := rfl
    unfold heapOp
    simp only [evs, ev_frS, hx, hy, builtinV, List.getElem?_toArray, List.getElem?_cons_zero, List.getElem?_cons_succ, se22, u22, hs, appendV, h3, Nat.beq_refl, cond_true]
  · have h5 : Nat.beq k 0 = false := by rw [beq_eq]; simp; omega
    have h3 : Nat.ble (0 + k) 1048576 = true := Nat.ble_eq_true_of_le (by omega)
    have h2 : Nat.ble (0 + k) 0 = false := by
      cases h : Nat.ble (0 + k) 0 with
      | false => rfl
      | true => have := Nat.le_of_ble_eq_true h; omega
    have h6 : row (0 * 1) ([] : List Value) 0 = some [] := by simp [row, beq_eq]
    have kk : Keep H (H.new (.cells ([] ++ mcc (rs.take k)) 62 true)) [] := (new_facts rfl).1
    refine ⟨.slice (some ⟨H.next, 0, none⟩) (0 + k) (0 + k), _, .heavy, ?_, (fun b e => by cases e), ⟨H.next, true, by rw [hlt, Nat.zero_add], by omega, by omega, (new_facts rfl).2.2.1, by rw [new_get rfl]; rfl, fun _ => by rw [hlt]; exact hp, fun r hr2 => (hr r (List.mem_of_mem_take hr2)).ke (KE.of (t := 62) (f := 0) kk) (by decide)⟩, kk⟩
    intro m S d x y ty p hx hy
    unfold heapOp
    simp only [evs, ev_frS, hx, hy, builtinV, List.getElem?_toArray, List.getElem?_cons_zero, List.getElem?_cons_succ, se22, u22, hs, appendV, h0, h2, h3, h5, h6, cond_true, cond_false]
/-- the lists of Run's arguments are short -/
theorem Lng.short {lo f : Nat} {H : Hp} {v : Value} {RS : List Mc} (h : Lng lo f H v RS) (hp : pok (mss RS) = true) : ∀ r ∈ RS, r.n ≤ 1000000 := by
  obtain ⟨b, loc, e, h1, h2, h3, h4, h5, h6⟩ := h
  intro r hr
  obtain ⟨_, hm⟩ := pok_t hp
  obtain ⟨i, hi⟩ := List.mem_iff_getElem?.1 hr
  have hlt : i < (mss RS).length := by
    rw [show (mss RS).length = RS.length from List.length_map ..]
    rcases Nat.lt_or_ge i RS.length with q | q
    · exact q
    · rw [List.getElem?_eq_none q] at hi; cases hi
  have q := (hm i hlt).h4
  rw [mss_get hi] at q
  have := (h6 r hr).2.1
  omega
theorem rok_of {RS : List Mc} {s : Nat → Int} {rs : List Mc} (h : rok rs s = true) (hp : pok (mss RS) = true) : rok RS s = true := by
  unfold rok at h ⊢; rw [Bool.and_eq_true] at h ⊢; exact ⟨hp, h.2⟩
theorem mss_app (a b : List Mc) : mss (a ++ b) = mss a ++ mss b := List.map_append
theorem mss_len (a : List Mc) : (mss a).length = a.length := List.length_map ..
theorem mss_take (a : List Mc) (k : Nat) : mss (a.take k) = (mss a).take k := List.map_take
theorem ouc_map1 {l : List Ou} {j : Nat} {y : Ou} (h : l[j]? = some y) : ouc ((l.take (j + 1)).map shO) = ouc ((l.take j).map shO) ++ (shO y).f := by
  rw [List.take_add_one, h, List.map_append]
  unfold ouc
  rw [List.flatMap_append]
  show _ ++ ((shO y).f ++ []) = _
  rw [List.append_nil]
theorem shO_pos {y : Ou} (h : y.to ≥ 0) : (shO y).f = [iv (y.to + 1), iv y.m, iv y.s, iv y.a, iv y.c] := by
  unfold shO; rw [if_pos h]
theorem shO_neg {y : Ou} (h : ¬ y.to ≥ 0) : (shO y).f = [iv y.to, iv y.m, iv y.s, iv y.a, iv y.c] := by
  unfold shO; rw [if_neg h]
/-- sums of bins, of not more than so many -/
theorem sm_bnd {f : Nat → Int} {m : Int} : ∀ {n : Nat}, (∀ i, i < n → 0 ≤ f i ∧ f i ≤ m) → 0 ≤ sm f n ∧ sm f n ≤ n * m
  | 0, _ => ⟨Int.le_refl _, by show (0 : Int) ≤ _; simp⟩
  | n + 1, h => by
    have a := sm_bnd (n := n) fun i hi => h i (by omega)
    have b := h n (by omega)
    show 0 ≤ sm f n + f n ∧ sm f n + f n ≤ _
    have e : ((n + 1 : Nat) : Int) * m = n * m + m := by rw [Int.natCast_add, Int.add_mul]; simp
    rw [e]; omega
theorem rnA_bnd {ms : List (List Ou)} {s : Nat → Int} (h : pok ms = true) (hs : ∀ j, j < 4 → 0 ≤ s j) {r : Nat} (hr : r < 16) {j : Nat} (hj : j < 4) : 0 ≤ rnA ms s r j ∧ rnA ms s r j ≤ s j := by
  have a := (rn_inv h hs ms.length (Nat.le_refl _)).row (r := r) (.inl hr) (by omega) hj
  unfold rnA; exact ⟨a.1, by have := a.2; omega⟩
section
variable {kn : FuncId → Option Bool} {lo : Nat} {H : Hp}
set_option maxRecDepth 100000 in
set_option maxHeartbeats 4000000 in
/-- PlantSplits -/
theorem law_splits (hkn : kn 16 = some true) {s : Nat → Int} {t : Int} {ma : Option Addr} {n mcap : Nat} {rs : List Mc} (hr : Mcs H H.next ma n mcap rs) (hrb : n = 0 ∨ ∃ x, ma = some ⟨x, 0, none⟩ ∧ x < H.next ∧ H.t.get x = some (.ro (mcc rs))) (ht : 0 ≤ t ∧ t ≤ 255) (hro : RoLow lo H) (hlo : lo ≤ H.next) : ∃ H', FnX Try.prog kn lo 8 [.slice ma n mcap, .agg (qc s).toArray, .int .u8 t] H (.bool true) H' := by
 have key := fnX_low (kn := kn) (lo := lo) (H := H) (args := [.slice ma n mcap, .agg (qc s).toArray, .int .u8 t]) (Q := fun w H' => w = .bool true) Try.func8 B8 N8 Z8 L8 (by simp) ?_
 ·obtain ⟨w, H', h, rfl⟩ := key; exact ⟨H', h⟩
 have hk := Keep.refl H []
 have hr0 := hr
 refine wN_seq ?_
 refine wN_box (v := .agg (qc s).toArray) rfl ?_
 intro H1 kH1 nH1 c1
 have c1 : Cl H1 H.next [iv (s 0), iv (s 1), iv (s 2), iv (s 3)] := c1
 have mH1 := kH1.1
 have hk := hk.trans kH1
 have hr := hr.keep kH1 (by simp)
 refine wN_mov (v := .bool false) rfl ?_
 refine wN_end ?_
 refine wN_seq ?_
 refine wN_mov (v := .slice ma n mcap) rfl ?_
 refine wN_callB rfl (great_ok hr) ?_
 intro tH2 H2 hH2 kH2
 have mH2 := kH2.1
 have hk := hk.trans kH2
 have hr := hr.keep kH2 (by simp)
 have c1 := kH2.cl c1 (by simp)
 cases tH2
 ·obtain ⟨hm, hn16, hm8⟩ := grtB_f hr.rl hH2
  have hn2 : n ≤ 1000000 := by omega
  refine wN_mov (v := .bool false) rfl ?_
  refine wN_g rfl (wN_mov (v := .slice ma n mcap) rfl ?_)
  refine wN_g rfl (wN_len (m := n) rfl ?_)
  refine wN_g rfl (wN_b_geq (a := (n : Int)) (b := 12) rfl rfl ?_)
  intro t1 g1; cases t1
  ·have g1 : ¬ ((n : Int) ≥ 12) := of_decide_eq_false g1
   refine wN_pur (v := .bool false) rfl rfl ?_
   refine wN_end ?_
   refine condF ?_
   first | refine wN_skip ?_ | skip
   refine wN_seq ?_
   refine wN_mov (v := .slice ma n mcap) rfl ?_
   refine wN_lda (b := H.next) (o := 0) rfl c1.rd (show row 4 _ _ = some [iv (s 0), iv (s 1), iv (s 2), iv (s 3)] from rfl) ?_
   cases hok : rok rs s
   ·obtain ⟨H3, fH3, kH3⟩ := run17_no (kn := kn) (lo := lo) (H := H2) (s := s) hr hm hn2 (by omega) (by omega) hok
    refine wN_callf (vs := [.slice ma n mcap, .agg (qc s).toArray]) rfl (callX_args fH3) ?_
    have mH3 := kH3.1
    have hk := hk.trans kH3
    have hr := hr.keep kH3 (by simp)
    have c1 := kH3.cl c1 (by simp)
    refine wN_mov (v := .tuple #[.slice none 0 0, iv 1]) rfl ?_
    refine wN_pur (v := .slice none 0 0) rfl (by kernel_rfl) ?_
    refine wN_pur (v := iv 1) rfl (by kernel_rfl) ?_
    refine wN_mov (v := .slice none 0 0) rfl ?_
    refine wN_mov (v := iv 1) rfl ?_
    refine wN_end ?_
    refine wN_seq ?_
    refine wN_mov (v := iv 1) rfl ?_
    refine wN_c_neq (a := 1) (b := 0) rfl rfl ?_
    refine wN_end ?_
    refine condT ?_
    refine wN_seq ?_
    refine wN_callf (vs := []) rfl (callX_known hkn) ?_
    refine wN_mov (v := .bool true) rfl ?_
    refine wN_end ?_
    exact And.intro trivial (Exists.intro _ (And.intro rfl rfl))
   ·obtain ⟨aL, H3, fH3, kH3, laL, sL⟩ := run17_ok (kn := kn) (lo := lo) (H := H2) (s := s) hr hm hn2 (by omega) (by omega) hok
    refine wN_callf (vs := [.slice ma n mcap, .agg (qc s).toArray]) rfl (callX_args fH3) ?_
    have mH3 := kH3.1
    have hk := hk.trans kH3
    have hr := hr.keep kH3 (by simp)
    have c1 := kH3.cl c1 (by simp)
    have lt0L := sL.lt
    obtain ⟨hpk, hS⟩ := rok_t hok
    have hS0 : ∀ j, j < 4 → 0 ≤ s j := fun j hj => (hS j hj).1
    have hrl := hr.rl
    have hml : (mss rs).length = n := by rw [mss_len]; exact hrl
    have hk0L := kH3.1
    refine wN_mov (v := .tuple #[.slice (some ⟨aL, 0, none⟩) 16 16, iv 0]) rfl ?_
    refine wN_pur (v := .slice (some ⟨aL, 0, none⟩) 16 16) rfl (by kernel_rfl) ?_
    refine wN_pur (v := iv 0) rfl (by kernel_rfl) ?_
    refine wN_mov (v := .slice (some ⟨aL, 0, none⟩) 16 16) rfl ?_
    refine wN_mov (v := iv 0) rfl ?_
    refine wN_end ?_
    refine wN_seq ?_
    refine wN_mov (v := iv 0) rfl ?_
    refine wN_c_neq (a := 0) (b := 0) rfl rfl ?_
    refine wN_end ?_
    refine condF ?_
    first | refine wN_skip ?_ | skip
    refine wN_seq ?_
    refine wN_pur (v := .agg #[iv 1, iv 3, iv 5, iv 0, iv 0]) rfl (by kernel_rfl) ?_
    obtain ⟨H4, hH4⟩ : ∃ H4, H3.new (.cells [iv 1, iv 3, iv 5, iv 0, iv 0] 59 false) = H4 := ⟨_, rfl⟩
    refine wN_memh (H' := H4) (k := .heavy) rfl (by kernel_rfl) ((heap_build1 (v := .agg #[iv 1, iv 3, iv 5, iv 0, iv 0]) se60 z59 rfl rfl rfl (by decide)).trans (by rw [← hH4]; rfl)) (fun b e => by cases e) ?_
    have c42 := new_sc hH4
    obtain ⟨kH4, nH4, _⟩ := new_facts hH4
    have mH4 := kH4.1
    have hk := hk.trans kH4
    have hr := hr.keep kH4 (by simp)
    have c1 := kH4.cl c1 (by simp)
    have sL := kH4.sc sL (by simp)
    refine wN_pur (v := .agg #[.slice (some ⟨H3.next, 0, none⟩) 1 1]) rfl (by kernel_rfl) ?_
    refine wN_alc ?_
    intro H5 kH5 nH5 c5
    have c5 : Cl H5 H4.next [.slice none 0 0] := c5
    have mH5 := kH5.1
    have hk := hk.trans kH5
    have hr := hr.keep kH5 (by simp)
    have c1 := kH5.cl c1 (by simp)
    have sL := kH5.sc sL (by simp)
    have c42 := kH5.sc c42 (by simp)
    refine wN_sta (b := H4.next) (o := 0) rfl rfl c5 (by omega) rfl rfl (by simp) ?_
    intro H6 kH6 nH6 sH6
    have mH6 := kH6.1
    have hk := hk.new kH6 (fun b hb => by simp at hb ⊢; omega)
    have hr := hr.keep kH6 (fun x hx => by simp at hx; omega)
    have c1 := kH6.cl c1 (by simp <;> omega)
    have sL := kH6.sc sL (by simp <;> omega)
    have c42 := kH6.sc c42 (by simp <;> omega)
    have c5 : Cl H6 H4.next [.slice (some ⟨H3.next, 0, none⟩) 1 1] := sH6
    refine wN_end ?_
    refine wN_seq ?_
    refine wN_mov (v := .slice ma n mcap) rfl ?_
    refine wN_len (m := n) rfl ?_
    refine wN_c_eql (a := (n : Int)) (b := 0) rfl rfl ?_
    refine wN_end ?_
    refine And.intro (fun q2 => ?_) (fun q2 => ?_)
    ·have q2 : (n : Int) = 0 := by simpa using q2
     refine wN_seq ?_
     refine wN_addo (b := H4.next) (o := 0) rfl ?_
     refine wN_ld (b := H4.next) (o := 0) (v := .slice (some ⟨H3.next, 0, none⟩) 1 1) rfl c5.rd rfl ?_
     refine wN_idx (b := H3.next) (o := 0) (k := 0) (j := 0) rfl rfl rfl (by decide) ?_
     refine wN_addo (b := H3.next) (o := 0) rfl ?_
     refine wN_stS (b := H3.next) (o := 0) (v := iv (-1)) rfl rfl c42 (by omega) rfl rfl (by decide) ?_
     intro H7 kH7 nH7 sH7
     have mH7 := kH7.1
     have hk := hk.new kH7 (fun b hb => by simp at hb ⊢; omega)
     have hr := hr.keep kH7 (fun x hx => by simp at hx; omega)
     have c1 := kH7.cl c1 (by simp <;> omega)
     have sL := kH7.sc sL (by simp <;> omega)
     have c5 := kH7.cl c5 (by simp <;> omega)
     have c42 : Sc H7 H3.next [iv (-1), iv 3, iv 5, iv 0, iv 0] := sH7
     refine wN_end ?_
     refine wN_seq ?_
     refine wN_lda (b := H4.next) (o := 0) rfl c5.rd (show row 1 _ _ = some [.slice (some ⟨H3.next, 0, none⟩) 1 1] from rfl) ?_
     obtain ⟨H8, hH8⟩ : ∃ H8, H7.new (.cells [.slice (some ⟨H3.next, 0, none⟩) 1 1] 62 false) = H8 := ⟨_, rfl⟩
     refine wN_memh (H' := H8) (k := .heavy) rfl (by kernel_rfl) ((heap_build1 (v := .agg #[.slice (some ⟨H3.next, 0, none⟩) 1 1]) se22 z62 rfl rfl rfl (by decide)).trans (by rw [← hH8]; rfl)) (fun b e => by cases e) ?_
     have gH8 := new_get hH8
     obtain ⟨kH8, nH8, _⟩ := new_facts hH8
     have mH8 := kH8.1
     have hk := hk.trans kH8
     have hr := hr.keep kH8 (by simp)
     have c1 := kH8.cl c1 (by simp)
     have sL := kH8.sc sL (by simp)
     have c5 := kH8.cl c5 (by simp)
     have c42 := kH8.sc c42 (by simp)
     obtain ⟨FB, hFB⟩ : ∃ FB, FB = H7.next := ⟨_, rfl⟩
     have ln : ∃ RS, Lng lo FB H8 (.slice (some ⟨H7.next, 0, none⟩) 1 1) RS ∧ RS.length = 0 + 1 ∧ mss RS = [pipO n] :: ((mss rs).take 0).map (List.map shO) := by
      have ep : (pipO n).f = [iv (-1), iv 3, iv 5, iv 0, iv 0] := by unfold pipO; first | rw [if_pos (by omega)] | rw [if_neg (by omega)]
      refine ⟨[⟨some ⟨H3.next, 0, none⟩, 1, 1, [pipO n]⟩], ⟨H7.next, false, rfl, by omega, by omega, by omega, gH8, (fun e => by cases e), fun r hr => ?_⟩, rfl, rfl⟩
      rw [List.mem_singleton] at hr; subst hr
      have c2 : Sc H8 H3.next (ouc [pipO n]) := by show Sc _ _ ((pipO n).f ++ []); rw [ep]; exact c42
      exact ⟨c2.cl.sl (Nat.le_refl 1), rfl, fun x e => by cases e; exact c2.fy⟩
     refine wN_mov (v := .slice (some ⟨H7.next, 0, none⟩) 1 1) rfl ?_
     refine wN_end ?_
     refine wN_seq ?_
     refine wN_mov (v := .slice ma n mcap) rfl ?_
     refine wN_len (m := n) rfl ?_
     refine wN_mov (v := iv 0) rfl ?_
     refine wN_end ?_
     refine loop_low (fn := Try.f8) E8_1 N8 L8x1 (fun z : Nat × Value => [(0, .slice ma n mcap), (2, .int .u8 t), (4, pt H.next), (7, .slice (some ⟨aL, 0, none⟩) 16 16), (10, z.2), (53, .slice ma n mcap), (54, iv (n : Int)), (55, iv (z.1 : Int))])
      (fun k z H' => z.1 + k = n ∧ FB ≤ H'.next ∧ Keep H H' [] ∧ Cl H' H.next (qc s) ∧ Sc H' aL (cc (rnA (mss rs) s) 16) ∧ (∃ RS, Lng lo FB H' z.2 RS ∧ RS.length = z.1 + 1 ∧ mss RS = [pipO n] :: ((mss rs).take z.1).map (List.map shO))) n (0, .slice (some ⟨H7.next, 0, none⟩) 1 1) ⟨by omega, by omega, hk, c1, sL, ln⟩ ⟨rfl, rfl, rfl, rfl, rfl, rfl, rfl, rfl, trivial⟩ ?_
     rintro k ⟨i, wv⟩ L1 ⟨hik, hFL, hk, c4, sL, lnq⟩
     simp only at hik lnq ⊢
     obtain ⟨RS, lnR, hRl, hRm⟩ := lnq
     have hr := hr0.keep hk (by simp)
     have mki := hk.1
     have ltL := sL.lt
     refine wN_seq ?_
     refine wN_c_lss (a := (i : Int)) (b := (n : Int)) rfl rfl ?_
     refine wN_end ?_
     refine And.intro (fun q3 => ?_) (fun q3 => ?_)
     ·have q3 : (i : Int) < (n : Int) := of_decide_eq_true q3
      obtain ⟨mb, mo, mcs, x, hx, ema, hrd, hbf, hnc, hcell, hmem⟩ := hr.opn (i := i) (by omega)
      have hx8 := hm8 x hmem
      obtain ⟨hxs, hxl, hxo⟩ := hr.ri x hmem
      have hxg := mss_get hx
      have hMk := (pok_t hpk).2 i (by omega)
      rw [hxg, hml] at hMk
      have hkO := hk
      have c4O := c4
      have sLO := sL
      have lnO := lnR
      have kB := Keep.refl L1 []
      have fs := hxs.old
      first | refine wN_skip ?_ | skip
      refine wN_seq ?_
      refine wN_idx (b := mb) (o := mo) (k := i) (j := (i : Int)) (by rw [← ema]; rfl) rfl rfl (by omega) ?_
      refine wN_lda (b := mb) (o := mo + i * 1) rfl hrd (row1_of hcell) ?_
      refine wN_alc ?_
      intro H9 kH9 nH9 c9
      have c9 : Cl H9 L1.next [.slice none 0 0] := c9
      have mH9 := kH9.1
      have kB := kB.trans kH9
      have hxs := kH9.sl0 hxs
      refine wN_sta (b := L1.next) (o := 0) rfl rfl c9 (by omega) rfl rfl (by simp) ?_
      intro H10 kH10 nH10 sH10
      have mH10 := kH10.1
      have kB := kB.new kH10 (fun b hb => by simp at hb ⊢; omega)
      have hxs := kH10.sl hxs (fun b e => by have := fs b e; first | (simp; done) | (simp; omega))
      have c9 : Cl H10 L1.next [.slice x.ra x.n x.cap] := sH10
      refine wN_end ?_
      refine wN_seq ?_
      refine wN_mov (v := .slice none 0 0) rfl ?_
      refine wN_end ?_
      refine wN_seq ?_
      refine wN_addo (b := L1.next) (o := 0) rfl ?_
      refine wN_ld (b := L1.next) (o := 0) (v := .slice x.ra x.n x.cap) rfl c9.rd rfl ?_
      refine wN_len (m := x.n) rfl ?_
      refine wN_mov (v := iv 0) rfl ?_
      refine wN_end ?_
      have mB := kB.1
      have kI := Keep.refl H10 []
      have hxsI := hxs
      refine loop_low (fn := Try.f8) E8_2 N8 L8x2 (fun z : Nat × Value => [(0, .slice ma n mcap), (2, .int .u8 t), (4, pt H.next), (7, .slice (some ⟨aL, 0, none⟩) 16 16), (10, wv), (13, z.2), (53, .slice ma n mcap), (54, iv (n : Int)), (55, iv (i : Int)), (60, .slice x.ra x.n x.cap), (61, iv (x.n : Int)), (62, iv (z.1 : Int))])
       (fun k z H' => z.1 + k = x.n ∧ Keep H10 H' [] ∧ Acc lo H10.next 59 H' z.2 z.1 (ouc ((x.l.take z.1).map shO))) x.n (0, Value.slice none 0 0) ⟨by omega, kI, .inl ⟨rfl, rfl, rfl⟩⟩ ⟨rfl, rfl, rfl, rfl, rfl, rfl, rfl, rfl, rfl, rfl, rfl, rfl, trivial⟩ ?_
      rintro kk ⟨j, ov⟩ L2 ⟨hij, kI, hac⟩
      simp only at hij hac ⊢
      have kacc := Keep.refl L2 []
      have mI := kI.1
      have hxs := kI.sl0 hxsI
      refine wN_seq ?_
      refine wN_c_lss (a := (j : Int)) (b := (x.n : Int)) rfl rfl ?_
      refine wN_end ?_
      refine And.intro (fun q4 => ?_) (fun q4 => ?_)
      ·have q4 : (j : Int) < (x.n : Int) := of_decide_eq_true q4
       obtain ⟨y, hy⟩ := get_some (l := x.l) (i := j) (by omega)
       rcases id hxs with ⟨_, h0, _⟩ | ⟨xb, ex, rx, _⟩
       ·omega
       have lxb := rx.lt
       have hyT := (hMk.o j (by omega)).1
       rw [show x.l.getD j Ou.z = y from by rw [List.getD_eq_getElem?_getD, hy]; rfl] at hyT
       first | refine wN_skip ?_ | skip
       refine wN_seq ?_
       refine wN_idx (b := xb) (o := 0) (k := j) (j := (j : Int)) (by rw [← ex]; rfl) rfl rfl (by omega) ?_
       refine wN_lda (b := xb) (o := 0 + j * 5) rfl rx (ouc_row hy) ?_
       refine wN_alc ?_
       intro H11 kH11 nH11 c11
       have c11 : Cl H11 L2.next [iv 0, iv 0, iv 0, iv 0, iv 0] := c11
       have mH11 := kH11.1
       have kI := kI.trans kH11
       have kacc := kacc.trans kH11
       have rx := kH11.rd rx (by simp)
       refine wN_sta (b := L2.next) (o := 0) rfl rfl c11 (by omega) rfl rfl (by simp) ?_
       intro H12 kH12 nH12 sH12
       have mH12 := kH12.1
       have kI := kI.new kH12 (fun b hb => by simp at hb ⊢; omega)
       have kacc := kacc.new kH12 (fun b hb => by simp at hb ⊢; omega)
       have rx := kH12.rd rx (by simp <;> omega)
       have c11 : Cl H12 L2.next [iv y.to, iv y.m, iv y.s, iv y.a, iv y.c] := sH12
       refine wN_end ?_
       refine wN_seq ?_
       refine wN_addo (b := L2.next) (o := 0) rfl ?_
       refine wN_ld (b := L2.next) (o := 0) (v := iv y.to) rfl c11.rd rfl ?_
       refine wN_c_geq (a := y.to) (b := 0) rfl rfl ?_
       refine wN_end ?_
       refine And.intro (fun q5 => ?_) (fun q5 => ?_)
       ·have q5 : y.to ≥ 0 := of_decide_eq_true q5
        refine wN_seq ?_
        refine wN_addo (b := L2.next) (o := 0) rfl ?_
        refine wN_ld (b := L2.next) (o := 0) (v := iv y.to) rfl c11.rd rfl ?_
        refine wN_add (a := y.to) (b := 1) rfl rfl ⟨by omega, by omega⟩ ?_
        refine wN_addo (b := L2.next) (o := 0) rfl ?_
        refine wN_st (b := L2.next) (o := 0) rfl rfl c11 (by omega) rfl rfl (by simp) ?_
        intro H13 kH13 nH13 sH13
        have mH13 := kH13.1
        have kI := kI.new kH13 (fun b hb => by simp at hb ⊢; omega)
        have kacc := kacc.new kH13 (fun b hb => by simp at hb ⊢; omega)
        have rx := kH13.rd rx (by simp <;> omega)
        have c11 : Cl H13 L2.next [iv (y.to + 1), iv y.m, iv y.s, iv y.a, iv y.c] := sH13
        refine wN_end ?_
        first | refine wN_reg ?_ | refine wN_blk ?_ | refine wN_bseq ?_ | (refine wOps_nil ?_; refine wN_reg ?_)
        refine wN_mov (v := ov) rfl ?_
        refine wN_lda (b := L2.next) (o := 0) rfl c11.rd (show row 5 _ _ = some [iv (y.to + 1), iv y.m, iv y.s, iv y.a, iv y.c] from rfl) ?_
        obtain ⟨H14, hH14⟩ : ∃ H14, H13.new (.cells [iv (y.to + 1), iv y.m, iv y.s, iv y.a, iv y.c] 59 false) = H14 := ⟨_, rfl⟩
        refine wN_memh (H' := H14) (k := .heavy) rfl (by kernel_rfl) ((heap_build1 (v := .agg #[iv (y.to + 1), iv y.m, iv y.s, iv y.a, iv y.c]) se60 z59 rfl rfl rfl (by decide)).trans (by rw [← hH14]; rfl)) (fun b e => by cases e) ?_
        obtain ⟨kH14, nH14, c14⟩ := new_facts hH14; clear hH14
        have c14 : Cl H14 H13.next [iv (y.to + 1), iv y.m, iv y.s, iv y.a, iv y.c] := c14
        have mH14 := kH14.1
        have kI := kI.trans kH14
        have kacc := kacc.trans kH14
        have c11 := kH14.cl c11 (by simp)
        obtain ⟨vH15, H15, kdH15, eH15, dH15, ac2, kbH15⟩ := heap_append_manyA (P := Try.prog) (lo := lo) (H := H14) (f := H10.next) (t1 := 60) (m := 1) se60 u60 (c14.sl (Nat.le_refl 1)) rfl (by decide) rfl (by rw [ouc_len, List.length_map, List.length_take]; omega) (by omega) (hac.keep kacc) (by omega) (by omega)
        refine wN_memh (k := kdH15) rfl (by rcases hac with ⟨_, _, rfl⟩ | ⟨_, rfl, _⟩ <;> kernel_rfl) (eH15 _ _ _ _ _ _ _ rfl rfl) (fun b q => absurd q (dH15 b)) ?_
        rw [show [iv (y.to + 1), iv y.m, iv y.s, iv y.a, iv y.c] = (shO y).f from by first | (rw [shO_pos (by omega)]; done) | (rw [shO_neg (by omega)]; done), ← ouc_map1 hy] at ac2
        have kI := kbH15.keep kI (Nat.le_refl _)
        have mH15 := kbH15.1
        refine wN_mov (v := vH15) rfl ?_
        refine wN_end ?_
        first | refine wN_reg ?_ | refine wN_blk ?_ | refine wN_bseq ?_ | (refine wOps_nil ?_; refine wN_reg ?_)
        refine wN_add (a := (j : Int)) (b := 1) rfl rfl ⟨by omega, by omega⟩ ?_
        refine wN_mov (v := iv ((j : Int) + 1)) rfl ?_
        refine wN_end ?_
        exact ⟨kk - 1, (j + 1, vH15), by omega, ⟨by simp only; omega, kI, ac2⟩, rfl, rfl, rfl, rfl, rfl, rfl, rfl, rfl, rfl, rfl, rfl, rfl, trivial⟩
       ·have q5 : ¬ (y.to ≥ 0) := of_decide_eq_false q5
        first | refine wN_skip ?_ | skip
        first | refine wN_reg ?_ | refine wN_blk ?_ | refine wN_bseq ?_ | (refine wOps_nil ?_; refine wN_reg ?_)
        refine wN_mov (v := ov) rfl ?_
        refine wN_lda (b := L2.next) (o := 0) rfl c11.rd (show row 5 _ _ = some [iv y.to, iv y.m, iv y.s, iv y.a, iv y.c] from rfl) ?_
        obtain ⟨H16, hH16⟩ : ∃ H16, H12.new (.cells [iv y.to, iv y.m, iv y.s, iv y.a, iv y.c] 59 false) = H16 := ⟨_, rfl⟩
        refine wN_memh (H' := H16) (k := .heavy) rfl (by kernel_rfl) ((heap_build1 (v := .agg #[iv y.to, iv y.m, iv y.s, iv y.a, iv y.c]) se60 z59 rfl rfl rfl (by decide)).trans (by rw [← hH16]; rfl)) (fun b e => by cases e) ?_
        obtain ⟨kH16, nH16, c16⟩ := new_facts hH16; clear hH16
        have c16 : Cl H16 H12.next [iv y.to, iv y.m, iv y.s, iv y.a, iv y.c] := c16
        have mH16 := kH16.1
        have kI := kI.trans kH16
        have kacc := kacc.trans kH16
        have c11 := kH16.cl c11 (by simp)
        obtain ⟨vH17, H17, kdH17, eH17, dH17, ac2, kbH17⟩ := heap_append_manyA (P := Try.prog) (lo := lo) (H := H16) (f := H10.next) (t1 := 60) (m := 1) se60 u60 (c16.sl (Nat.le_refl 1)) rfl (by decide) rfl (by rw [ouc_len, List.length_map, List.length_take]; omega) (by omega) (hac.keep kacc) (by omega) (by omega)
        refine wN_memh (k := kdH17) rfl (by rcases hac with ⟨_, _, rfl⟩ | ⟨_, rfl, _⟩ <;> kernel_rfl) (eH17 _ _ _ _ _ _ _ rfl rfl) (fun b q => absurd q (dH17 b)) ?_
        rw [show [iv y.to, iv y.m, iv y.s, iv y.a, iv y.c] = (shO y).f from by first | (rw [shO_pos (by omega)]; done) | (rw [shO_neg (by omega)]; done), ← ouc_map1 hy] at ac2
        have kI := kbH17.keep kI (Nat.le_refl _)
        have mH17 := kbH17.1
        refine wN_mov (v := vH17) rfl ?_
        refine wN_end ?_
        first | refine wN_reg ?_ | refine wN_blk ?_ | refine wN_bseq ?_ | (refine wOps_nil ?_; refine wN_reg ?_)
        refine wN_add (a := (j : Int)) (b := 1) rfl rfl ⟨by omega, by omega⟩ ?_
        refine wN_mov (v := iv ((j : Int) + 1)) rfl ?_
        refine wN_end ?_
        exact ⟨kk - 1, (j + 1, vH17), by omega, ⟨by simp only; omega, kI, ac2⟩, rfl, rfl, rfl, rfl, rfl, rfl, rfl, rfl, rfl, rfl, rfl, rfl, trivial⟩
      ·have q4 : ¬ ((j : Int) < (x.n : Int)) := of_decide_eq_false q4
       have ej : j = x.n := by omega
       subst ej
       rw [List.take_of_length_le (show x.l.length ≤ x.n by omega)] at hac
       obtain ⟨oa, oc, rfl, so, hfy⟩ := hac.own
       have kB := kB.trans kI
       have ro1 : Rw1 L2 ⟨oa, x.n, oc, x.l.map shO⟩ := ⟨so, by rw [List.length_map]; exact hxl, hfy⟩
       first | (refine wN_exit ?_; show wC _ _ _ _ _ _ _ _ _) | skip
       first | refine wN_reg ?_ | refine wN_blk ?_ | refine wN_bseq ?_ | (refine wOps_nil ?_; refine wN_reg ?_)
       refine wN_mov (v := wv) rfl ?_
       refine wN_mov (v := .slice oa x.n oc) rfl ?_
       refine wN_pur (v := .agg #[.slice oa x.n oc]) rfl (by kernel_rfl) ?_
       obtain ⟨H18, hH18⟩ : ∃ H18, L2.new (.cells [.slice oa x.n oc] 62 false) = H18 := ⟨_, rfl⟩
       refine wN_memh (H' := H18) (k := .heavy) rfl (by kernel_rfl) ((heap_build1 (v := .agg #[.slice oa x.n oc]) se22 z62 rfl rfl rfl (by decide)).trans (by rw [← hH18]; rfl)) (fun b e => by cases e) ?_
       obtain ⟨kH18, nH18, c18⟩ := new_facts hH18; clear hH18
       have c18 : Cl H18 L2.next [.slice oa x.n oc] := c18
       have mH18 := kH18.1
       have kB := kB.trans kH18
       have ro1 := ro1.ke (KE.of (t := 62) (f := 0) kH18) (by decide)
       have ln := lnO.keep kB
       obtain ⟨vH19, H19, kdH19, eH19, dH19, ln2, keH19⟩ := ln.append (r := ⟨oa, x.n, oc, x.l.map shO⟩) ro1 (c18.sl (Nat.le_refl 1)) (by omega) (by omega) (by omega)
       refine wN_memh (k := kdH19) rfl (by obtain ⟨_, _, rfl, _⟩ := ln; kernel_rfl) (eH19 _ _ _ _ _ _ _ rfl rfl) (fun b q => absurd q (dH19 b)) ?_
       have mH19 := keH19.nx
       have mO := hkO.1
       have kbb := keH19.kb (by omega)
       have hk := keH19.keep (hkO.trans kB) (by omega)
       have hr := hr0.keep hk (by simp)
       have c4 := kbb.cl (kB.cl c4O (by simp)) (by omega)
       have sL := kbb.sc (kB.sc sLO (by simp)) (by omega)
       have ln := ln2
       have hRm2 : mss (RS ++ [⟨oa, x.n, oc, x.l.map shO⟩]) = [pipO n] :: ((mss rs).take (i + 1)).map (List.map shO) := by
        rw [mss_app, hRm, List.take_add_one, show (mss rs)[i]? = some x.l from by show (rs.map Mc.l)[i]? = _; rw [List.getElem?_map, hx]; rfl, List.map_append]; rfl
       refine wN_mov (v := vH19) rfl ?_
       refine wN_end ?_
       first | refine wN_reg ?_ | refine wN_blk ?_ | refine wN_bseq ?_ | (refine wOps_nil ?_; refine wN_reg ?_)
       refine wN_add (a := (i : Int)) (b := 1) rfl rfl ⟨by omega, by omega⟩ ?_
       refine wN_mov (v := iv ((i : Int) + 1)) rfl ?_
       refine wN_end ?_
       exact ⟨k - 1, (i + 1, vH19), by omega, ⟨by simp only; omega, by omega, hk, c4, sL, ⟨_, ln, by rw [List.length_append, hRl]; rfl, hRm2⟩⟩, rfl, rfl, rfl, rfl, rfl, rfl, rfl, rfl, trivial⟩
     ·have q3 : ¬ ((i : Int) < (n : Int)) := of_decide_eq_false q3
      have ei : n = i := by omega
      subst ei
      rw [List.take_of_length_le (show (mss rs).length ≤ n by omega)] at hRm
      have hRm : mss RS = lng (mss rs) := by rw [hRm]; unfold lng; rw [hml]
      have hpl : pok (mss RS) = true := by rw [hRm]; exact pok_lng hpk (by omega)
      have hsh := lnR.short hpl
      obtain ⟨lb, rfl, hmc⟩ := lnR.mcs
      rw [hRl] at hmc
      have hRl2 : RS.length = n + 1 := hRl
      first | (refine wN_exit ?_; show wC _ _ _ _ _ _ _ _ _) | skip
      refine wN_seq ?_
      refine wN_mov (v := .slice (some ⟨lb, 0, none⟩) RS.length RS.length) rfl ?_
      refine wN_lda (b := H.next) (o := 0) rfl c4.rd (show row 4 (qc s) 0 = some (qc s) from rfl) ?_
      obtain ⟨aA, H20, fH20, kH20, laA, sA⟩ := run17_ok (kn := kn) (lo := lo) (H := L1) (s := s) hmc hsh (by omega) (by omega) (by omega) (rok_of hok hpl)
      skip
      refine wN_callf (vs := [.slice (some ⟨lb, 0, none⟩) RS.length RS.length, .agg (qc s).toArray]) rfl (callX_args (by rw [hRl2]; exact fH20)) ?_
      have mH20 := kH20.1
      have hk := hk.trans kH20
      have hr := hr.keep kH20 (by simp)
      have c4 := kH20.cl c4 (by simp)
      have sL := kH20.sc sL (by simp)
      have hmc := hmc.keep kH20 (by simp)
      have lt0A := sA.lt
      rw [hRm, show cc (rnA (lng (mss rs)) s) 16 = cc (rnA (mss rs) s) 16 from cc_congr fun r hr => lng_rnA (fun q hq => ⟨((pok_t hpk).2 q hq).h1, fun k hk => by rcases (((pok_t hpk).2 q hq).o k hk).1 with z | z <;> omega⟩) hr] at sA
      refine wN_mov (v := .tuple #[.slice (some ⟨aA, 0, none⟩) 16 16, iv 0]) rfl ?_
      refine wN_pur (v := .slice (some ⟨aA, 0, none⟩) 16 16) rfl (by kernel_rfl) ?_
      refine wN_pur (v := iv 0) rfl (by kernel_rfl) ?_
      refine wN_mov (v := .slice (some ⟨aA, 0, none⟩) 16 16) rfl ?_
      refine wN_mov (v := iv 0) rfl ?_
      refine wN_end ?_
      refine wN_seq ?_
      refine wN_mov (v := iv 0) rfl ?_
      refine wN_b_neq (a := 0) (b := 0) rfl rfl ?_
      intro t6 g6; obtain rfl : t6 = false := by rw [← g6]; rfl
      refine wN_mov (v := .bool false) rfl ?_
      refine wN_g rfl (wN_mov (v := .slice (some ⟨aA, 0, none⟩) 16 16) rfl ?_)
      refine wN_g rfl (wN_mov (v := .slice (some ⟨aL, 0, none⟩) 16 16) rfl ?_)
      obtain ⟨H21, fH21, kH21⟩ := same23_ok (kn := kn) (lo := lo) (H := H20) (C := (rnA (mss rs) s)) (m := 16) (sA.cl.sl (Nat.le_refl 16)) (sL.cl.sl (Nat.le_refl 16)) (Nat.le_refl _) (by omega)
      refine wN_g rfl (wN_callf (vs := [slv aA 16 16, slv aL 16 16]) rfl (callX_args fH21) ?_)
      have mH21 := kH21.1
      have hk := hk.trans kH21
      have hr := hr.keep kH21 (by simp)
      have c4 := kH21.cl c4 (by simp)
      have sL := kH21.sc sL (by simp)
      have sA := kH21.sc sA (by simp)
      refine wN_g rfl (wN_pur (v := .bool false) rfl rfl ?_)
      refine wN_pur (v := .bool false) rfl rfl ?_
      refine wN_end ?_
      refine condF ?_
      first | refine wN_skip ?_ | skip
      refine wN_seq ?_
      refine wN_mov (v := .slice ma n mcap) rfl ?_
      refine wN_len (m := n) rfl ?_
      refine wN_c_eql (a := (n : Int)) (b := 0) rfl rfl ?_
      refine wN_end ?_
      refine And.intro (fun q7 => ?_) (fun q7 => ?_)
      ·have q7 : (n : Int) = 0 := by simpa using q7
       refine wN_seq ?_
       refine wN_callf (vs := []) rfl (callX_known hkn) ?_
       refine wN_mov (v := .bool true) rfl ?_
       refine wN_end ?_
       exact And.intro trivial (Exists.intro _ (And.intro rfl rfl))
      ·have q7 : ¬ ((n : Int) = 0) := by simpa using q7
       first | refine wN_skip ?_ | skip
       refine wN_seq ?_
       rcases hrb with h0 | ⟨x0, ema, hx0, hg0⟩
       ·omega
       have hcap : n ≤ mcap := by rcases hr0.r with ⟨_, z, _⟩ | ⟨_, _, _, _, _, _, z, _⟩ <;> omega
       obtain ⟨H22, hH22⟩ : ∃ H22, H21.new (.cells [] 62 false) = H22 := ⟨_, rfl⟩
       refine wN_memh (H' := H22) (k := .heavy) rfl (by kernel_rfl) ((heap_build0 se22 z62).trans (by rw [hH22])) (fun b e => by cases e) ?_
       have gH22 := new_get hH22
       obtain ⟨kH22, nH22, _⟩ := new_facts hH22
       have mH22 := kH22.1
       have hk := hk.trans kH22
       have hr := hr.keep kH22 (by simp)
       have c4 := kH22.cl c4 (by simp)
       have sL := kH22.sc sL (by simp)
       have sA := kH22.sc sA (by simp)
       have hgx : H22.t.get x0 = some (.ro (mcc rs)) := by rw [hk.2 x0 hx0 (by simp)]; exact hg0
       obtain ⟨FC, hFC⟩ : ∃ FC, FC = H21.next := ⟨_, rfl⟩
       refine wN_mov (v := .slice ma n mcap) rfl ?_
       refine wN_mov (v := .slice ma n mcap) rfl ?_
       refine wN_len (m := n) rfl ?_
       refine wN_sub (a := (n : Int)) (b := 1) rfl rfl ⟨by omega, by omega⟩ ?_
       refine wN_memh (k := .read x0) rfl (by kernel_rfl) (heap_pre (lo := lo) (k := n - 1) hgx (by omega) (by omega) hcap _ _ _ _ _ _ _ (by rw [← ema]; rfl) rfl) (fun b e => by cases e; omega) ?_
       obtain ⟨vH23, H23, kdH23, eH23, dH23, lc, kH23⟩ := heap_cut (lo := lo) (f := FC) (H := H22) (k := n - 1) (cap := mcap) gH22 (by omega) (by omega) (by omega) hgx hrl (by omega) (by omega) hr.rw1
       refine wN_memh (k := kdH23) rfl (by kernel_rfl) (eH23 _ _ _ _ _ _ _ rfl rfl) (fun b q => absurd q (dH23 b)) ?_
       have mH23 := kH23.1
       have hk := hk.trans kH23
       have hr := hr.keep kH23 (by simp)
       have c4 := kH23.cl c4 (by simp)
       have sL := kH23.sc sL (by simp)
       have sA := kH23.sc sA (by simp)
       refine wN_mov (v := .int .u8 t) rfl ?_
       refine wN_pur (v := iv t) rfl (conv_5 t (by omega) (by omega) rfl) ?_
       refine wN_rem (a := t) (b := 16) rfl rfl (by omega) (by omega) ⟨by omega, by omega⟩ ⟨by omega, by omega⟩ ?_
       refine wN_sub (a := -1) (b := t % 16) rfl rfl ⟨by omega, by omega⟩ ?_
       refine wN_pur (v := .agg #[iv ((-1) - (t % 16)), iv 0, iv 0, iv 0, iv 0]) rfl (by kernel_rfl) ?_
       obtain ⟨H24, hH24⟩ : ∃ H24, H23.new (.cells [iv ((-1) - (t % 16)), iv 0, iv 0, iv 0, iv 0] 59 false) = H24 := ⟨_, rfl⟩
       refine wN_memh (H' := H24) (k := .heavy) rfl (by kernel_rfl) ((heap_build1 (v := .agg #[iv ((-1) - (t % 16)), iv 0, iv 0, iv 0, iv 0]) se60 z59 rfl rfl rfl (by decide)).trans (by rw [← hH24]; rfl)) (fun b e => by cases e) ?_
       have c114 := new_sc hH24
       obtain ⟨kH24, nH24, _⟩ := new_facts hH24
       have mH24 := kH24.1
       have hk := hk.trans kH24
       have hr := hr.keep kH24 (by simp)
       have c4 := kH24.cl c4 (by simp)
       have sL := kH24.sc sL (by simp)
       have sA := kH24.sc sA (by simp)
       have lc := lc.keep kH24
       refine wN_pur (v := .agg #[.slice (some ⟨H23.next, 0, none⟩) 1 1]) rfl (by kernel_rfl) ?_
       obtain ⟨H25, hH25⟩ : ∃ H25, H24.new (.cells [.slice (some ⟨H23.next, 0, none⟩) 1 1] 62 false) = H25 := ⟨_, rfl⟩
       refine wN_memh (H' := H25) (k := .heavy) rfl (by kernel_rfl) ((heap_build1 (v := .agg #[.slice (some ⟨H23.next, 0, none⟩) 1 1]) se22 z62 rfl rfl rfl (by decide)).trans (by rw [← hH25]; rfl)) (fun b e => by cases e) ?_
       obtain ⟨kH25, nH25, c25⟩ := new_facts hH25; clear hH25
       have c25 : Cl H25 H24.next [.slice (some ⟨H23.next, 0, none⟩) 1 1] := c25
       have mH25 := kH25.1
       have hk := hk.trans kH25
       have hr := hr.keep kH25 (by simp)
       have c4 := kH25.cl c4 (by simp)
       have sL := kH25.sc sL (by simp)
       have sA := kH25.sc sA (by simp)
       have lc := lc.keep kH25
       have c114 := kH25.sc c114 (by simp)
       have ro2 : Rw1 H25 ⟨some ⟨H23.next, 0, none⟩, 1, 1, [⟨(-1 - t % 16), 0, 0, 0, 0⟩]⟩ := ⟨c114.cl.sl (Nat.le_refl 1), rfl, fun x e => by cases e; exact c114.fy⟩
       obtain ⟨vH26, H26, kdH26, eH26, dH26, ld, keH26⟩ := lc.append (r := ⟨some ⟨H23.next, 0, none⟩, 1, 1, [⟨(-1 - t % 16), 0, 0, 0, 0⟩]⟩) ro2 (c25.sl (Nat.le_refl 1)) (by rw [List.length_take]; omega) (by omega) (by omega)
       refine wN_memh (k := kdH26) rfl (by obtain ⟨_, _, rfl, _⟩ := lc; kernel_rfl) (eH26 _ _ _ _ _ _ _ rfl rfl) (fun b q => absurd q (dH26 b)) ?_
       have mH26 := keH26.nx
       have kbb := keH26.kb (by omega)
       have hk := keH26.keep hk (by omega)
       have hr := hr0.keep hk (by simp)
       have c4 := kbb.cl c4 (by omega)
       have sL := kbb.sc sL (by omega)
       have hl1 : mss (rs.take (n - 1) ++ [⟨some ⟨H23.next, 0, none⟩, 1, 1, [⟨(-1 - t % 16), 0, 0, 0, 0⟩]⟩]) = lst1 (mss rs) (-1 - t % 16) := by rw [mss_app, mss_take]; unfold lst1; rw [hml]; rfl
       have ht1 : -16 ≤ (-1 - t % 16) ∧ (-1 - t % 16) < 0 := by omega
       have hp1 := pok_lst1 (t := (-1 - t % 16)) hpk (by omega) ht1
       have hp2 := hp1
       rw [← hl1] at hp2
       have hsh2 := ld.short hp2
       skip
       have hl2 : (rs.take (n - 1) ++ [(⟨some ⟨H23.next, 0, none⟩, 1, 1, [⟨(-1 - t % 16), 0, 0, 0, 0⟩]⟩ : Mc)]).length = n := by rw [List.length_append, List.length_take, hrl]; show min (n - 1) n + 1 = n; omega
       obtain ⟨lb2, elb2, hmc2⟩ := ld.mcs
       rw [hl2] at hmc2 elb2
       subst elb2
       refine wN_mov (v := .slice (some ⟨lb2, 0, none⟩) n n) rfl ?_
       refine wN_end ?_
       refine wN_seq ?_
       refine wN_mov (v := .slice (some ⟨lb2, 0, none⟩) n n) rfl ?_
       refine wN_lda (b := H.next) (o := 0) rfl c4.rd (show row 4 (qc s) 0 = some (qc s) from rfl) ?_
       obtain ⟨aC, H27, fH27, kH27, laC, sC⟩ := run17_ok (kn := kn) (lo := lo) (H := H26) (s := s) hmc2 hsh2 (by omega) (by omega) (by omega) (rok_of hok hp2)
       refine wN_callf (vs := [slv lb2 n n, .agg (qc s).toArray]) rfl (callX_args fH27) ?_
       have mH27 := kH27.1
       have hk := hk.trans kH27
       have hr := hr.keep kH27 (by simp)
       have c4 := kH27.cl c4 (by simp)
       have sL := kH27.sc sL (by simp)
       have hmc2 := hmc2.keep kH27 (by simp)
       have lt0C := sC.lt
       rw [hl1] at sC
       refine wN_mov (v := .tuple #[.slice (some ⟨aC, 0, none⟩) 16 16, iv 0]) rfl ?_
       refine wN_pur (v := .slice (some ⟨aC, 0, none⟩) 16 16) rfl (by kernel_rfl) ?_
       refine wN_pur (v := iv 0) rfl (by kernel_rfl) ?_
       refine wN_mov (v := .slice (some ⟨aC, 0, none⟩) 16 16) rfl ?_
       refine wN_mov (v := iv 0) rfl ?_
       refine wN_end ?_
       refine wN_seq ?_
       refine wN_mov (v := iv 0) rfl ?_
       refine wN_b_neq (a := 0) (b := 0) rfl rfl ?_
       intro t8 g8; obtain rfl : t8 = false := by rw [← g8]; rfl
       refine wN_mov (v := .bool false) rfl ?_
       refine wN_g rfl (wN_mov (v := .slice (some ⟨aC, 0, none⟩) 16 16) rfl ?_)
       refine wN_g rfl (wN_len (m := 16) rfl ?_)
       refine wN_g rfl (wN_mov (v := .slice (some ⟨aL, 0, none⟩) 16 16) rfl ?_)
       refine wN_g rfl (wN_len (m := 16) rfl ?_)
       refine wN_g rfl (wN_b_neq (a := 16) (b := 16) rfl rfl ?_)
       intro t9 g9; obtain rfl : t9 = false := by rw [← g9]; rfl
       refine wN_pur (v := .bool false) rfl rfl ?_
       refine wN_end ?_
       refine condF ?_
       first | refine wN_skip ?_ | skip
       refine wN_seq ?_
       refine wN_mov (v := iv 0) rfl ?_
       refine wN_mov (v := iv 0) rfl ?_
       refine wN_end ?_
       refine wN_seq ?_
       refine wN_mov (v := .slice (some ⟨aL, 0, none⟩) 16 16) rfl ?_
       refine wN_len (m := 16) rfl ?_
       refine wN_mov (v := iv 0) rfl ?_
       refine wN_end ?_
       have hsay := fun j => fun hj : j < 4 => lst1_says (t := (-1 - t % 16)) (j := j) hpk (by omega) ht1 hS0 hj
       have hb1 := fun r => fun hr : r < 16 => rnA_bnd (j := 0) hpk hS0 hr (by decide)
       have hb2 := fun r => fun hr : r < 16 => rnA_bnd (j := 0) hp1 hS0 hr (by decide)
       have hs40 := (hS 0 (by decide)).2
       refine loop_low (fn := Try.f8) E8_3 N8 L8x3 (fun q : Nat => [(2, .int .u8 t), (7, .slice (some ⟨aL, 0, none⟩) 16 16), (19, .slice (some ⟨aC, 0, none⟩) 16 16), (21, iv (sm (fun r => (rnA (mss rs) s) r 0) q)), (22, iv (sm (fun r => (rnA (lst1 (mss rs) (-1 - t % 16)) s) r 0) q)), (133, .slice (some ⟨aL, 0, none⟩) 16 16), (134, iv 16), (135, iv (q : Int))])
        (fun k q H' => q + k = 16 ∧ Keep H H' [] ∧ Sc H' aL (cc (rnA (mss rs) s) 16) ∧ Sc H' aC (cc (rnA (lst1 (mss rs) (-1 - t % 16)) s) 16)) 16 0 ⟨by omega, hk, sL, sC⟩ ⟨rfl, rfl, rfl, rfl, rfl, rfl, rfl, rfl, trivial⟩ ?_
       rintro k q L3 ⟨hqk, hk, sL, sC⟩
       have mki := hk.1
       have ltL := sL.lt
       have ltC := sC.lt
       refine wN_seq ?_
       refine wN_c_lss (a := (q : Int)) (b := 16) rfl rfl ?_
       refine wN_end ?_
       refine And.intro (fun q10 => ?_) (fun q10 => ?_)
       ·have q10 : (q : Int) < 16 := of_decide_eq_true q10
        have hq : q < 16 := by omega
        have g1 := hb1 q hq
        have g2 := hb2 q hq
        have u1 := sm_bnd (f := fun r => (rnA (mss rs) s) r 0) (m := s 0) (n := q) fun r hr => hb1 r (by omega)
        have u2 := sm_bnd (f := fun r => (rnA (lst1 (mss rs) (-1 - t % 16)) s) r 0) (m := s 0) (n := q) fun r hr => hb2 r (by omega)
        have hms : (q : Int) * s 0 ≤ 16 * 1099511627776 := Int.mul_le_mul (by omega) hs40 (by omega) (by omega)
        first | refine wN_skip ?_ | skip
        refine wN_seq ?_
        refine wN_mov (v := iv (q : Int)) rfl ?_
        refine wN_mov (v := iv (q : Int)) rfl ?_
        refine wN_end ?_
        refine wD_seq ?_
        refine wD_mov (v := iv (sm (fun r => (rnA (mss rs) s) r 0) q)) rfl ?_
        refine wD_mov (v := .slice (some ⟨aL, 0, none⟩) 16 16) rfl ?_
        refine wD_mov (v := iv (q : Int)) rfl ?_
        refine wD_idx (b := aL) (o := 0) (k := q) (j := (q : Int)) rfl rfl rfl hq ?_
        refine wD_addo (b := aL) (o := 0 + q * 4) rfl ?_
        refine wD_ld (b := aL) (o := 0 + q * 4) (v := iv ((rnA (mss rs) s) q 0)) rfl sL.cl.rd (cc_at (j := 0) hq rfl) ?_
        refine wD_add (a := (sm (fun r => (rnA (mss rs) s) r 0) q)) (b := ((rnA (mss rs) s) q 0)) rfl rfl ⟨by omega, by omega⟩ ?_
        refine wD_mov (v := iv (sm (fun r => (rnA (lst1 (mss rs) (-1 - t % 16)) s) r 0) q)) rfl ?_
        refine wD_mov (v := .slice (some ⟨aC, 0, none⟩) 16 16) rfl ?_
        refine wD_mov (v := iv (q : Int)) rfl ?_
        refine wD_idx (b := aC) (o := 0) (k := q) (j := (q : Int)) rfl rfl rfl hq ?_
        refine wD_addo (b := aC) (o := 0 + q * 4) rfl ?_
        refine wD_ld (b := aC) (o := 0 + q * 4) (v := iv ((rnA (lst1 (mss rs) (-1 - t % 16)) s) q 0)) rfl sC.cl.rd (cc_at (j := 0) hq rfl) ?_
        refine wD_add (a := (sm (fun r => (rnA (lst1 (mss rs) (-1 - t % 16)) s) r 0) q)) (b := ((rnA (lst1 (mss rs) (-1 - t % 16)) s) q 0)) rfl rfl ⟨by omega, by omega⟩ ?_
        refine wD_mov (v := iv ((sm (fun r => (rnA (mss rs) s) r 0) q) + ((rnA (mss rs) s) q 0))) rfl ?_
        refine wD_mov (v := iv ((sm (fun r => (rnA (lst1 (mss rs) (-1 - t % 16)) s) r 0) q) + ((rnA (lst1 (mss rs) (-1 - t % 16)) s) q 0))) rfl ?_
        refine wD_end (by repeat' first | exact True.intro | exact (fun h => h) | refine And.intro ?_ ?_ | (intro h; have h : (_ : Nat) = _ := h; omega)) ?_
        refine wD_seq ?_
        refine wD_mov (v := iv (q : Int)) rfl ?_
        refine wD_mov (v := .int .u8 t) rfl ?_
        refine wD_pur (v := iv t) rfl (conv_5 t (by omega) (by omega) rfl) ?_
        refine wD_rem (a := t) (b := 16) rfl rfl (by omega) (by omega) ⟨by omega, by omega⟩ ⟨by omega, by omega⟩ ?_
        refine wD_b_neq (a := (q : Int)) (b := t % 16) rfl rfl ?_
        intro t11 g11; cases t11
        ·have g11 : ¬ ((q : Int) ≠ (t % 16)) := by simpa using g11
         refine wD_mov (v := .bool false) rfl ?_
         refine wD_gs rfl ?_
         refine wD_gs rfl ?_
         refine wD_gs rfl ?_
         refine wD_gs rfl ?_
         refine wD_gs rfl ?_
         refine wD_gs rfl ?_
         refine wD_gs rfl ?_
         refine wD_gs rfl ?_
         refine wD_gs rfl ?_
         refine wD_gs rfl ?_
         refine wD_gs rfl ?_
         refine wD_pur (v := .bool false) rfl rfl ?_
         refine wD_end (by repeat' first | exact True.intro | exact (fun h => h) | refine And.intro ?_ ?_ | (intro h; have h : (_ : Nat) = _ := h; omega)) ?_
         refine condF ?_
         first | refine wN_skip ?_ | skip
         first | refine wN_reg ?_ | refine wN_blk ?_ | refine wN_bseq ?_ | (refine wOps_nil ?_; refine wN_reg ?_)
         refine wN_add (a := (q : Int)) (b := 1) rfl rfl ⟨by omega, by omega⟩ ?_
         refine wN_mov (v := iv ((q : Int) + 1)) rfl ?_
         refine wN_end ?_
         exact ⟨k - 1, q + 1, by omega, ⟨by omega, hk, sL, sC⟩, rfl, rfl, rfl, rfl, rfl, rfl, rfl, rfl, trivial⟩
        ·have g11 : (q : Int) ≠ (t % 16) := by simpa using g11
         refine wD_mov (v := .bool true) rfl ?_
         refine wD_g rfl (wD_mov (v := .slice (some ⟨aC, 0, none⟩) 16 16) rfl ?_)
         refine wD_g rfl (wD_mov (v := iv (q : Int)) rfl ?_)
         refine wD_g rfl (wD_idx (b := aC) (o := 0) (k := q) (j := (q : Int)) rfl rfl rfl hq ?_)
         refine wD_g rfl (wD_addo (b := aC) (o := 0 + q * 4) rfl ?_)
         refine wD_g rfl (wD_ld (b := aC) (o := 0 + q * 4) (v := iv ((rnA (lst1 (mss rs) (-1 - t % 16)) s) q 0)) rfl sC.cl.rd (cc_at (j := 0) hq rfl) ?_)
         refine wD_g rfl (wD_mov (v := .slice (some ⟨aL, 0, none⟩) 16 16) rfl ?_)
         refine wD_g rfl (wD_mov (v := iv (q : Int)) rfl ?_)
         refine wD_g rfl (wD_idx (b := aL) (o := 0) (k := q) (j := (q : Int)) rfl rfl rfl hq ?_)
         refine wD_g rfl (wD_addo (b := aL) (o := 0 + q * 4) rfl ?_)
         refine wD_g rfl (wD_ld (b := aL) (o := 0 + q * 4) (v := iv ((rnA (mss rs) s) q 0)) rfl sL.cl.rd (cc_at (j := 0) hq rfl) ?_)
         refine wD_g rfl (wD_b_gtr (a := ((rnA (lst1 (mss rs) (-1 - t % 16)) s) q 0)) (b := ((rnA (mss rs) s) q 0)) rfl rfl ?_)
         intro t12 g12; cases t12
         ·have g12 : ¬ (((rnA (lst1 (mss rs) (-1 - t % 16)) s) q 0) > ((rnA (mss rs) s) q 0)) := of_decide_eq_false g12
          refine wD_pur (v := .bool false) rfl rfl ?_
          refine wD_end (by repeat' first | exact True.intro | exact (fun h => h) | refine And.intro ?_ ?_ | (intro h; have h : (_ : Nat) = _ := h; omega)) ?_
          refine condF ?_
          first | refine wN_skip ?_ | skip
          first | refine wN_reg ?_ | refine wN_blk ?_ | refine wN_bseq ?_ | (refine wOps_nil ?_; refine wN_reg ?_)
          refine wN_add (a := (q : Int)) (b := 1) rfl rfl ⟨by omega, by omega⟩ ?_
          refine wN_mov (v := iv ((q : Int) + 1)) rfl ?_
          refine wN_end ?_
          exact ⟨k - 1, q + 1, by omega, ⟨by omega, hk, sL, sC⟩, rfl, rfl, rfl, rfl, rfl, rfl, rfl, rfl, trivial⟩
         ·have g12 : ((rnA (lst1 (mss rs) (-1 - t % 16)) s) q 0) > ((rnA (mss rs) s) q 0) := of_decide_eq_true g12
          exact absurd ((hsay 0 (by decide)).1 q (by unfold ix; rw [if_pos ht1.2]; omega)) (by omega)
       ·have q10 : ¬ ((q : Int) < 16) := of_decide_eq_false q10
        have eq : q = 16 := by omega
        subst eq
        first | (refine wN_exit ?_; show wC _ _ _ _ _ _ _ _ _) | skip
        refine wN_seq ?_
        refine wN_mov (v := iv (sm (fun r => (rnA (mss rs) s) r 0) 16)) rfl ?_
        refine wN_mov (v := iv (sm (fun r => (rnA (lst1 (mss rs) (-1 - t % 16)) s) r 0) 16)) rfl ?_
        refine wN_b_eql (a := (sm (fun r => (rnA (mss rs) s) r 0) 16)) (b := (sm (fun r => (rnA (lst1 (mss rs) (-1 - t % 16)) s) r 0) 16)) rfl rfl ?_
        intro t13 g13; cases t13
        ·have g13 : ¬ ((sm (fun r => (rnA (mss rs) s) r 0) 16) = (sm (fun r => (rnA (lst1 (mss rs) (-1 - t % 16)) s) r 0) 16)) := by simpa using g13
         exact absurd (hsay 0 (by decide)).2.symm g13
        ·have g13 : (sm (fun r => (rnA (mss rs) s) r 0) 16) = (sm (fun r => (rnA (lst1 (mss rs) (-1 - t % 16)) s) r 0) 16) := by simpa using g13
         refine wN_mov (v := .bool true) rfl ?_
         refine wN_g rfl (wN_callf (vs := []) rfl (callX_known hkn) ?_)
         refine wN_pur (v := .bool true) rfl rfl ?_
         refine wN_mov (v := .bool true) rfl ?_
         refine wN_end ?_
         exact And.intro trivial (Exists.intro _ (And.intro rfl rfl))
    ·have q2 : ¬ ((n : Int) = 0) := by simpa using q2
     first | refine wN_skip ?_ | skip
     refine wN_seq ?_
     refine wN_lda (b := H4.next) (o := 0) rfl c5.rd (show row 1 _ _ = some [.slice (some ⟨H3.next, 0, none⟩) 1 1] from rfl) ?_
     obtain ⟨H28, hH28⟩ : ∃ H28, H6.new (.cells [.slice (some ⟨H3.next, 0, none⟩) 1 1] 62 false) = H28 := ⟨_, rfl⟩
     refine wN_memh (H' := H28) (k := .heavy) rfl (by kernel_rfl) ((heap_build1 (v := .agg #[.slice (some ⟨H3.next, 0, none⟩) 1 1]) se22 z62 rfl rfl rfl (by decide)).trans (by rw [← hH28]; rfl)) (fun b e => by cases e) ?_
     have gH28 := new_get hH28
     obtain ⟨kH28, nH28, _⟩ := new_facts hH28
     have mH28 := kH28.1
     have hk := hk.trans kH28
     have hr := hr.keep kH28 (by simp)
     have c1 := kH28.cl c1 (by simp)
     have sL := kH28.sc sL (by simp)
     have c42 := kH28.sc c42 (by simp)
     have c5 := kH28.cl c5 (by simp)
     obtain ⟨FB, hFB⟩ : ∃ FB, FB = H6.next := ⟨_, rfl⟩
     have ln : ∃ RS, Lng lo FB H28 (.slice (some ⟨H6.next, 0, none⟩) 1 1) RS ∧ RS.length = 0 + 1 ∧ mss RS = [pipO n] :: ((mss rs).take 0).map (List.map shO) := by
      have ep : (pipO n).f = [iv 1, iv 3, iv 5, iv 0, iv 0] := by unfold pipO; first | rw [if_pos (by omega)] | rw [if_neg (by omega)]
      refine ⟨[⟨some ⟨H3.next, 0, none⟩, 1, 1, [pipO n]⟩], ⟨H6.next, false, rfl, by omega, by omega, by omega, gH28, (fun e => by cases e), fun r hr => ?_⟩, rfl, rfl⟩
      rw [List.mem_singleton] at hr; subst hr
      have c2 : Sc H28 H3.next (ouc [pipO n]) := by show Sc _ _ ((pipO n).f ++ []); rw [ep]; exact c42
      exact ⟨c2.cl.sl (Nat.le_refl 1), rfl, fun x e => by cases e; exact c2.fy⟩
     refine wN_mov (v := .slice (some ⟨H6.next, 0, none⟩) 1 1) rfl ?_
     refine wN_end ?_
     refine wN_seq ?_
     refine wN_mov (v := .slice ma n mcap) rfl ?_
     refine wN_len (m := n) rfl ?_
     refine wN_mov (v := iv 0) rfl ?_
     refine wN_end ?_
     refine loop_low (fn := Try.f8) E8_1 N8 L8x1 (fun z : Nat × Value => [(0, .slice ma n mcap), (2, .int .u8 t), (4, pt H.next), (7, .slice (some ⟨aL, 0, none⟩) 16 16), (10, z.2), (53, .slice ma n mcap), (54, iv (n : Int)), (55, iv (z.1 : Int))])
      (fun k z H' => z.1 + k = n ∧ FB ≤ H'.next ∧ Keep H H' [] ∧ Cl H' H.next (qc s) ∧ Sc H' aL (cc (rnA (mss rs) s) 16) ∧ (∃ RS, Lng lo FB H' z.2 RS ∧ RS.length = z.1 + 1 ∧ mss RS = [pipO n] :: ((mss rs).take z.1).map (List.map shO))) n (0, .slice (some ⟨H6.next, 0, none⟩) 1 1) ⟨by omega, by omega, hk, c1, sL, ln⟩ ⟨rfl, rfl, rfl, rfl, rfl, rfl, rfl, rfl, trivial⟩ ?_
     rintro k ⟨i, wv⟩ L1 ⟨hik, hFL, hk, c4, sL, lnq⟩
     simp only at hik lnq ⊢
     obtain ⟨RS, lnR, hRl, hRm⟩ := lnq
     have hr := hr0.keep hk (by simp)
     have mki := hk.1
     have ltL := sL.lt
     refine wN_seq ?_
     refine wN_c_lss (a := (i : Int)) (b := (n : Int)) rfl rfl ?_
     refine wN_end ?_
     refine And.intro (fun q14 => ?_) (fun q14 => ?_)
     ·have q14 : (i : Int) < (n : Int) := of_decide_eq_true q14
      obtain ⟨mb, mo, mcs, x, hx, ema, hrd, hbf, hnc, hcell, hmem⟩ := hr.opn (i := i) (by omega)
      have hx8 := hm8 x hmem
      obtain ⟨hxs, hxl, hxo⟩ := hr.ri x hmem
      have hxg := mss_get hx
      have hMk := (pok_t hpk).2 i (by omega)
      rw [hxg, hml] at hMk
      have hkO := hk
      have c4O := c4
      have sLO := sL
      have lnO := lnR
      have kB := Keep.refl L1 []
      have fs := hxs.old
      first | refine wN_skip ?_ | skip
      refine wN_seq ?_
      refine wN_idx (b := mb) (o := mo) (k := i) (j := (i : Int)) (by rw [← ema]; rfl) rfl rfl (by omega) ?_
      refine wN_lda (b := mb) (o := mo + i * 1) rfl hrd (row1_of hcell) ?_
      refine wN_alc ?_
      intro H29 kH29 nH29 c29
      have c29 : Cl H29 L1.next [.slice none 0 0] := c29
      have mH29 := kH29.1
      have kB := kB.trans kH29
      have hxs := kH29.sl0 hxs
      refine wN_sta (b := L1.next) (o := 0) rfl rfl c29 (by omega) rfl rfl (by simp) ?_
      intro H30 kH30 nH30 sH30
      have mH30 := kH30.1
      have kB := kB.new kH30 (fun b hb => by simp at hb ⊢; omega)
      have hxs := kH30.sl hxs (fun b e => by have := fs b e; first | (simp; done) | (simp; omega))
      have c29 : Cl H30 L1.next [.slice x.ra x.n x.cap] := sH30
      refine wN_end ?_
      refine wN_seq ?_
      refine wN_mov (v := .slice none 0 0) rfl ?_
      refine wN_end ?_
      refine wN_seq ?_
      refine wN_addo (b := L1.next) (o := 0) rfl ?_
      refine wN_ld (b := L1.next) (o := 0) (v := .slice x.ra x.n x.cap) rfl c29.rd rfl ?_
      refine wN_len (m := x.n) rfl ?_
      refine wN_mov (v := iv 0) rfl ?_
      refine wN_end ?_
      have mB := kB.1
      have kI := Keep.refl H30 []
      have hxsI := hxs
      refine loop_low (fn := Try.f8) E8_2 N8 L8x2 (fun z : Nat × Value => [(0, .slice ma n mcap), (2, .int .u8 t), (4, pt H.next), (7, .slice (some ⟨aL, 0, none⟩) 16 16), (10, wv), (13, z.2), (53, .slice ma n mcap), (54, iv (n : Int)), (55, iv (i : Int)), (60, .slice x.ra x.n x.cap), (61, iv (x.n : Int)), (62, iv (z.1 : Int))])
       (fun k z H' => z.1 + k = x.n ∧ Keep H30 H' [] ∧ Acc lo H30.next 59 H' z.2 z.1 (ouc ((x.l.take z.1).map shO))) x.n (0, Value.slice none 0 0) ⟨by omega, kI, .inl ⟨rfl, rfl, rfl⟩⟩ ⟨rfl, rfl, rfl, rfl, rfl, rfl, rfl, rfl, rfl, rfl, rfl, rfl, trivial⟩ ?_
      rintro kk ⟨j, ov⟩ L2 ⟨hij, kI, hac⟩
      simp only at hij hac ⊢
      have kacc := Keep.refl L2 []
      have mI := kI.1
      have hxs := kI.sl0 hxsI
      refine wN_seq ?_
      refine wN_c_lss (a := (j : Int)) (b := (x.n : Int)) rfl rfl ?_
      refine wN_end ?_
      refine And.intro (fun q15 => ?_) (fun q15 => ?_)
      ·have q15 : (j : Int) < (x.n : Int) := of_decide_eq_true q15
       obtain ⟨y, hy⟩ := get_some (l := x.l) (i := j) (by omega)
       rcases id hxs with ⟨_, h0, _⟩ | ⟨xb, ex, rx, _⟩
       ·omega
       have lxb := rx.lt
       have hyT := (hMk.o j (by omega)).1
       rw [show x.l.getD j Ou.z = y from by rw [List.getD_eq_getElem?_getD, hy]; rfl] at hyT
       first | refine wN_skip ?_ | skip
       refine wN_seq ?_
       refine wN_idx (b := xb) (o := 0) (k := j) (j := (j : Int)) (by rw [← ex]; rfl) rfl rfl (by omega) ?_
       refine wN_lda (b := xb) (o := 0 + j * 5) rfl rx (ouc_row hy) ?_
       refine wN_alc ?_
       intro H31 kH31 nH31 c31
       have c31 : Cl H31 L2.next [iv 0, iv 0, iv 0, iv 0, iv 0] := c31
       have mH31 := kH31.1
       have kI := kI.trans kH31
       have kacc := kacc.trans kH31
       have rx := kH31.rd rx (by simp)
       refine wN_sta (b := L2.next) (o := 0) rfl rfl c31 (by omega) rfl rfl (by simp) ?_
       intro H32 kH32 nH32 sH32
       have mH32 := kH32.1
       have kI := kI.new kH32 (fun b hb => by simp at hb ⊢; omega)
       have kacc := kacc.new kH32 (fun b hb => by simp at hb ⊢; omega)
       have rx := kH32.rd rx (by simp <;> omega)
       have c31 : Cl H32 L2.next [iv y.to, iv y.m, iv y.s, iv y.a, iv y.c] := sH32
       refine wN_end ?_
       refine wN_seq ?_
       refine wN_addo (b := L2.next) (o := 0) rfl ?_
       refine wN_ld (b := L2.next) (o := 0) (v := iv y.to) rfl c31.rd rfl ?_
       refine wN_c_geq (a := y.to) (b := 0) rfl rfl ?_
       refine wN_end ?_
       refine And.intro (fun q16 => ?_) (fun q16 => ?_)
       ·have q16 : y.to ≥ 0 := of_decide_eq_true q16
        refine wN_seq ?_
        refine wN_addo (b := L2.next) (o := 0) rfl ?_
        refine wN_ld (b := L2.next) (o := 0) (v := iv y.to) rfl c31.rd rfl ?_
        refine wN_add (a := y.to) (b := 1) rfl rfl ⟨by omega, by omega⟩ ?_
        refine wN_addo (b := L2.next) (o := 0) rfl ?_
        refine wN_st (b := L2.next) (o := 0) rfl rfl c31 (by omega) rfl rfl (by simp) ?_
        intro H33 kH33 nH33 sH33
        have mH33 := kH33.1
        have kI := kI.new kH33 (fun b hb => by simp at hb ⊢; omega)
        have kacc := kacc.new kH33 (fun b hb => by simp at hb ⊢; omega)
        have rx := kH33.rd rx (by simp <;> omega)
        have c31 : Cl H33 L2.next [iv (y.to + 1), iv y.m, iv y.s, iv y.a, iv y.c] := sH33
        refine wN_end ?_
        first | refine wN_reg ?_ | refine wN_blk ?_ | refine wN_bseq ?_ | (refine wOps_nil ?_; refine wN_reg ?_)
        refine wN_mov (v := ov) rfl ?_
        refine wN_lda (b := L2.next) (o := 0) rfl c31.rd (show row 5 _ _ = some [iv (y.to + 1), iv y.m, iv y.s, iv y.a, iv y.c] from rfl) ?_
        obtain ⟨H34, hH34⟩ : ∃ H34, H33.new (.cells [iv (y.to + 1), iv y.m, iv y.s, iv y.a, iv y.c] 59 false) = H34 := ⟨_, rfl⟩
        refine wN_memh (H' := H34) (k := .heavy) rfl (by kernel_rfl) ((heap_build1 (v := .agg #[iv (y.to + 1), iv y.m, iv y.s, iv y.a, iv y.c]) se60 z59 rfl rfl rfl (by decide)).trans (by rw [← hH34]; rfl)) (fun b e => by cases e) ?_
        obtain ⟨kH34, nH34, c34⟩ := new_facts hH34; clear hH34
        have c34 : Cl H34 H33.next [iv (y.to + 1), iv y.m, iv y.s, iv y.a, iv y.c] := c34
        have mH34 := kH34.1
        have kI := kI.trans kH34
        have kacc := kacc.trans kH34
        have c31 := kH34.cl c31 (by simp)
        obtain ⟨vH35, H35, kdH35, eH35, dH35, ac2, kbH35⟩ := heap_append_manyA (P := Try.prog) (lo := lo) (H := H34) (f := H30.next) (t1 := 60) (m := 1) se60 u60 (c34.sl (Nat.le_refl 1)) rfl (by decide) rfl (by rw [ouc_len, List.length_map, List.length_take]; omega) (by omega) (hac.keep kacc) (by omega) (by omega)
        refine wN_memh (k := kdH35) rfl (by rcases hac with ⟨_, _, rfl⟩ | ⟨_, rfl, _⟩ <;> kernel_rfl) (eH35 _ _ _ _ _ _ _ rfl rfl) (fun b q => absurd q (dH35 b)) ?_
        rw [show [iv (y.to + 1), iv y.m, iv y.s, iv y.a, iv y.c] = (shO y).f from by first | (rw [shO_pos (by omega)]; done) | (rw [shO_neg (by omega)]; done), ← ouc_map1 hy] at ac2
        have kI := kbH35.keep kI (Nat.le_refl _)
        have mH35 := kbH35.1
        refine wN_mov (v := vH35) rfl ?_
        refine wN_end ?_
        first | refine wN_reg ?_ | refine wN_blk ?_ | refine wN_bseq ?_ | (refine wOps_nil ?_; refine wN_reg ?_)
        refine wN_add (a := (j : Int)) (b := 1) rfl rfl ⟨by omega, by omega⟩ ?_
        refine wN_mov (v := iv ((j : Int) + 1)) rfl ?_
        refine wN_end ?_
        exact ⟨kk - 1, (j + 1, vH35), by omega, ⟨by simp only; omega, kI, ac2⟩, rfl, rfl, rfl, rfl, rfl, rfl, rfl, rfl, rfl, rfl, rfl, rfl, trivial⟩
       ·have q16 : ¬ (y.to ≥ 0) := of_decide_eq_false q16
        first | refine wN_skip ?_ | skip
        first | refine wN_reg ?_ | refine wN_blk ?_ | refine wN_bseq ?_ | (refine wOps_nil ?_; refine wN_reg ?_)
        refine wN_mov (v := ov) rfl ?_
        refine wN_lda (b := L2.next) (o := 0) rfl c31.rd (show row 5 _ _ = some [iv y.to, iv y.m, iv y.s, iv y.a, iv y.c] from rfl) ?_
        obtain ⟨H36, hH36⟩ : ∃ H36, H32.new (.cells [iv y.to, iv y.m, iv y.s, iv y.a, iv y.c] 59 false) = H36 := ⟨_, rfl⟩
        refine wN_memh (H' := H36) (k := .heavy) rfl (by kernel_rfl) ((heap_build1 (v := .agg #[iv y.to, iv y.m, iv y.s, iv y.a, iv y.c]) se60 z59 rfl rfl rfl (by decide)).trans (by rw [← hH36]; rfl)) (fun b e => by cases e) ?_
        obtain ⟨kH36, nH36, c36⟩ := new_facts hH36; clear hH36
        have c36 : Cl H36 H32.next [iv y.to, iv y.m, iv y.s, iv y.a, iv y.c] := c36
        have mH36 := kH36.1
        have kI := kI.trans kH36
        have kacc := kacc.trans kH36
        have c31 := kH36.cl c31 (by simp)
        obtain ⟨vH37, H37, kdH37, eH37, dH37, ac2, kbH37⟩ := heap_append_manyA (P := Try.prog) (lo := lo) (H := H36) (f := H30.next) (t1 := 60) (m := 1) se60 u60 (c36.sl (Nat.le_refl 1)) rfl (by decide) rfl (by rw [ouc_len, List.length_map, List.length_take]; omega) (by omega) (hac.keep kacc) (by omega) (by omega)
        refine wN_memh (k := kdH37) rfl (by rcases hac with ⟨_, _, rfl⟩ | ⟨_, rfl, _⟩ <;> kernel_rfl) (eH37 _ _ _ _ _ _ _ rfl rfl) (fun b q => absurd q (dH37 b)) ?_
        rw [show [iv y.to, iv y.m, iv y.s, iv y.a, iv y.c] = (shO y).f from by first | (rw [shO_pos (by omega)]; done) | (rw [shO_neg (by omega)]; done), ← ouc_map1 hy] at ac2
        have kI := kbH37.keep kI (Nat.le_refl _)
        have mH37 := kbH37.1
        refine wN_mov (v := vH37) rfl ?_
        refine wN_end ?_
        first | refine wN_reg ?_ | refine wN_blk ?_ | refine wN_bseq ?_ | (refine wOps_nil ?_; refine wN_reg ?_)
        refine wN_add (a := (j : Int)) (b := 1) rfl rfl ⟨by omega, by omega⟩ ?_
        refine wN_mov (v := iv ((j : Int) + 1)) rfl ?_
        refine wN_end ?_
        exact ⟨kk - 1, (j + 1, vH37), by omega, ⟨by simp only; omega, kI, ac2⟩, rfl, rfl, rfl, rfl, rfl, rfl, rfl, rfl, rfl, rfl, rfl, rfl, trivial⟩
      ·have q15 : ¬ ((j : Int) < (x.n : Int)) := of_decide_eq_false q15
       have ej : j = x.n := by omega
       subst ej
       rw [List.take_of_length_le (show x.l.length ≤ x.n by omega)] at hac
       obtain ⟨oa, oc, rfl, so, hfy⟩ := hac.own
       have kB := kB.trans kI
       have ro1 : Rw1 L2 ⟨oa, x.n, oc, x.l.map shO⟩ := ⟨so, by rw [List.length_map]; exact hxl, hfy⟩
       first | (refine wN_exit ?_; show wC _ _ _ _ _ _ _ _ _) | skip
       first | refine wN_reg ?_ | refine wN_blk ?_ | refine wN_bseq ?_ | (refine wOps_nil ?_; refine wN_reg ?_)
       refine wN_mov (v := wv) rfl ?_
       refine wN_mov (v := .slice oa x.n oc) rfl ?_
       refine wN_pur (v := .agg #[.slice oa x.n oc]) rfl (by kernel_rfl) ?_
       obtain ⟨H38, hH38⟩ : ∃ H38, L2.new (.cells [.slice oa x.n oc] 62 false) = H38 := ⟨_, rfl⟩
       refine wN_memh (H' := H38) (k := .heavy) rfl (by kernel_rfl) ((heap_build1 (v := .agg #[.slice oa x.n oc]) se22 z62 rfl rfl rfl (by decide)).trans (by rw [← hH38]; rfl)) (fun b e => by cases e) ?_
       obtain ⟨kH38, nH38, c38⟩ := new_facts hH38; clear hH38
       have c38 : Cl H38 L2.next [.slice oa x.n oc] := c38
       have mH38 := kH38.1
       have kB := kB.trans kH38
       have ro1 := ro1.ke (KE.of (t := 62) (f := 0) kH38) (by decide)
       have ln := lnO.keep kB
       obtain ⟨vH39, H39, kdH39, eH39, dH39, ln2, keH39⟩ := ln.append (r := ⟨oa, x.n, oc, x.l.map shO⟩) ro1 (c38.sl (Nat.le_refl 1)) (by omega) (by omega) (by omega)
       refine wN_memh (k := kdH39) rfl (by obtain ⟨_, _, rfl, _⟩ := ln; kernel_rfl) (eH39 _ _ _ _ _ _ _ rfl rfl) (fun b q => absurd q (dH39 b)) ?_
       have mH39 := keH39.nx
       have mO := hkO.1
       have kbb := keH39.kb (by omega)
       have hk := keH39.keep (hkO.trans kB) (by omega)
       have hr := hr0.keep hk (by simp)
       have c4 := kbb.cl (kB.cl c4O (by simp)) (by omega)
       have sL := kbb.sc (kB.sc sLO (by simp)) (by omega)
       have ln := ln2
       have hRm2 : mss (RS ++ [⟨oa, x.n, oc, x.l.map shO⟩]) = [pipO n] :: ((mss rs).take (i + 1)).map (List.map shO) := by
        rw [mss_app, hRm, List.take_add_one, show (mss rs)[i]? = some x.l from by show (rs.map Mc.l)[i]? = _; rw [List.getElem?_map, hx]; rfl, List.map_append]; rfl
       refine wN_mov (v := vH39) rfl ?_
       refine wN_end ?_
       first | refine wN_reg ?_ | refine wN_blk ?_ | refine wN_bseq ?_ | (refine wOps_nil ?_; refine wN_reg ?_)
       refine wN_add (a := (i : Int)) (b := 1) rfl rfl ⟨by omega, by omega⟩ ?_
       refine wN_mov (v := iv ((i : Int) + 1)) rfl ?_
       refine wN_end ?_
       exact ⟨k - 1, (i + 1, vH39), by omega, ⟨by simp only; omega, by omega, hk, c4, sL, ⟨_, ln, by rw [List.length_append, hRl]; rfl, hRm2⟩⟩, rfl, rfl, rfl, rfl, rfl, rfl, rfl, rfl, trivial⟩
     ·have q14 : ¬ ((i : Int) < (n : Int)) := of_decide_eq_false q14
      have ei : n = i := by omega
      subst ei
      rw [List.take_of_length_le (show (mss rs).length ≤ n by omega)] at hRm
      have hRm : mss RS = lng (mss rs) := by rw [hRm]; unfold lng; rw [hml]
      have hpl : pok (mss RS) = true := by rw [hRm]; exact pok_lng hpk (by omega)
      have hsh := lnR.short hpl
      obtain ⟨lb, rfl, hmc⟩ := lnR.mcs
      rw [hRl] at hmc
      have hRl2 : RS.length = n + 1 := hRl
      first | (refine wN_exit ?_; show wC _ _ _ _ _ _ _ _ _) | skip
      refine wN_seq ?_
      refine wN_mov (v := .slice (some ⟨lb, 0, none⟩) RS.length RS.length) rfl ?_
      refine wN_lda (b := H.next) (o := 0) rfl c4.rd (show row 4 (qc s) 0 = some (qc s) from rfl) ?_
      obtain ⟨aA, H40, fH40, kH40, laA, sA⟩ := run17_ok (kn := kn) (lo := lo) (H := L1) (s := s) hmc hsh (by omega) (by omega) (by omega) (rok_of hok hpl)
      skip
      refine wN_callf (vs := [.slice (some ⟨lb, 0, none⟩) RS.length RS.length, .agg (qc s).toArray]) rfl (callX_args (by rw [hRl2]; exact fH40)) ?_
      have mH40 := kH40.1
      have hk := hk.trans kH40
      have hr := hr.keep kH40 (by simp)
      have c4 := kH40.cl c4 (by simp)
      have sL := kH40.sc sL (by simp)
      have hmc := hmc.keep kH40 (by simp)
      have lt0A := sA.lt
      rw [hRm, show cc (rnA (lng (mss rs)) s) 16 = cc (rnA (mss rs) s) 16 from cc_congr fun r hr => lng_rnA (fun q hq => ⟨((pok_t hpk).2 q hq).h1, fun k hk => by rcases (((pok_t hpk).2 q hq).o k hk).1 with z | z <;> omega⟩) hr] at sA
      refine wN_mov (v := .tuple #[.slice (some ⟨aA, 0, none⟩) 16 16, iv 0]) rfl ?_
      refine wN_pur (v := .slice (some ⟨aA, 0, none⟩) 16 16) rfl (by kernel_rfl) ?_
      refine wN_pur (v := iv 0) rfl (by kernel_rfl) ?_
      refine wN_mov (v := .slice (some ⟨aA, 0, none⟩) 16 16) rfl ?_
      refine wN_mov (v := iv 0) rfl ?_
      refine wN_end ?_
      refine wN_seq ?_
      refine wN_mov (v := iv 0) rfl ?_
      refine wN_b_neq (a := 0) (b := 0) rfl rfl ?_
      intro t17 g17; obtain rfl : t17 = false := by rw [← g17]; rfl
      refine wN_mov (v := .bool false) rfl ?_
      refine wN_g rfl (wN_mov (v := .slice (some ⟨aA, 0, none⟩) 16 16) rfl ?_)
      refine wN_g rfl (wN_mov (v := .slice (some ⟨aL, 0, none⟩) 16 16) rfl ?_)
      obtain ⟨H41, fH41, kH41⟩ := same23_ok (kn := kn) (lo := lo) (H := H40) (C := (rnA (mss rs) s)) (m := 16) (sA.cl.sl (Nat.le_refl 16)) (sL.cl.sl (Nat.le_refl 16)) (Nat.le_refl _) (by omega)
      refine wN_g rfl (wN_callf (vs := [slv aA 16 16, slv aL 16 16]) rfl (callX_args fH41) ?_)
      have mH41 := kH41.1
      have hk := hk.trans kH41
      have hr := hr.keep kH41 (by simp)
      have c4 := kH41.cl c4 (by simp)
      have sL := kH41.sc sL (by simp)
      have sA := kH41.sc sA (by simp)
      refine wN_g rfl (wN_pur (v := .bool false) rfl rfl ?_)
      refine wN_pur (v := .bool false) rfl rfl ?_
      refine wN_end ?_
      refine condF ?_
      first | refine wN_skip ?_ | skip
      refine wN_seq ?_
      refine wN_mov (v := .slice ma n mcap) rfl ?_
      refine wN_len (m := n) rfl ?_
      refine wN_c_eql (a := (n : Int)) (b := 0) rfl rfl ?_
      refine wN_end ?_
      refine And.intro (fun q18 => ?_) (fun q18 => ?_)
      ·have q18 : (n : Int) = 0 := by simpa using q18
       refine wN_seq ?_
       refine wN_callf (vs := []) rfl (callX_known hkn) ?_
       refine wN_mov (v := .bool true) rfl ?_
       refine wN_end ?_
       exact And.intro trivial (Exists.intro _ (And.intro rfl rfl))
      ·have q18 : ¬ ((n : Int) = 0) := by simpa using q18
       first | refine wN_skip ?_ | skip
       refine wN_seq ?_
       rcases hrb with h0 | ⟨x0, ema, hx0, hg0⟩
       ·omega
       have hcap : n ≤ mcap := by rcases hr0.r with ⟨_, z, _⟩ | ⟨_, _, _, _, _, _, z, _⟩ <;> omega
       obtain ⟨H42, hH42⟩ : ∃ H42, H41.new (.cells [] 62 false) = H42 := ⟨_, rfl⟩
       refine wN_memh (H' := H42) (k := .heavy) rfl (by kernel_rfl) ((heap_build0 se22 z62).trans (by rw [hH42])) (fun b e => by cases e) ?_
       have gH42 := new_get hH42
       obtain ⟨kH42, nH42, _⟩ := new_facts hH42
       have mH42 := kH42.1
       have hk := hk.trans kH42
       have hr := hr.keep kH42 (by simp)
       have c4 := kH42.cl c4 (by simp)
       have sL := kH42.sc sL (by simp)
       have sA := kH42.sc sA (by simp)
       have hgx : H42.t.get x0 = some (.ro (mcc rs)) := by rw [hk.2 x0 hx0 (by simp)]; exact hg0
       obtain ⟨FC, hFC⟩ : ∃ FC, FC = H41.next := ⟨_, rfl⟩
       refine wN_mov (v := .slice ma n mcap) rfl ?_
       refine wN_mov (v := .slice ma n mcap) rfl ?_
       refine wN_len (m := n) rfl ?_
       refine wN_sub (a := (n : Int)) (b := 1) rfl rfl ⟨by omega, by omega⟩ ?_
       refine wN_memh (k := .read x0) rfl (by kernel_rfl) (heap_pre (lo := lo) (k := n - 1) hgx (by omega) (by omega) hcap _ _ _ _ _ _ _ (by rw [← ema]; rfl) rfl) (fun b e => by cases e; omega) ?_
       obtain ⟨vH43, H43, kdH43, eH43, dH43, lc, kH43⟩ := heap_cut (lo := lo) (f := FC) (H := H42) (k := n - 1) (cap := mcap) gH42 (by omega) (by omega) (by omega) hgx hrl (by omega) (by omega) hr.rw1
       refine wN_memh (k := kdH43) rfl (by kernel_rfl) (eH43 _ _ _ _ _ _ _ rfl rfl) (fun b q => absurd q (dH43 b)) ?_
       have mH43 := kH43.1
       have hk := hk.trans kH43
       have hr := hr.keep kH43 (by simp)
       have c4 := kH43.cl c4 (by simp)
       have sL := kH43.sc sL (by simp)
       have sA := kH43.sc sA (by simp)
       refine wN_mov (v := .int .u8 t) rfl ?_
       refine wN_pur (v := iv t) rfl (conv_5 t (by omega) (by omega) rfl) ?_
       refine wN_rem (a := t) (b := 16) rfl rfl (by omega) (by omega) ⟨by omega, by omega⟩ ⟨by omega, by omega⟩ ?_
       refine wN_sub (a := -1) (b := t % 16) rfl rfl ⟨by omega, by omega⟩ ?_
       refine wN_pur (v := .agg #[iv ((-1) - (t % 16)), iv 0, iv 0, iv 0, iv 0]) rfl (by kernel_rfl) ?_
       obtain ⟨H44, hH44⟩ : ∃ H44, H43.new (.cells [iv ((-1) - (t % 16)), iv 0, iv 0, iv 0, iv 0] 59 false) = H44 := ⟨_, rfl⟩
       refine wN_memh (H' := H44) (k := .heavy) rfl (by kernel_rfl) ((heap_build1 (v := .agg #[iv ((-1) - (t % 16)), iv 0, iv 0, iv 0, iv 0]) se60 z59 rfl rfl rfl (by decide)).trans (by rw [← hH44]; rfl)) (fun b e => by cases e) ?_
       have c114 := new_sc hH44
       obtain ⟨kH44, nH44, _⟩ := new_facts hH44
       have mH44 := kH44.1
       have hk := hk.trans kH44
       have hr := hr.keep kH44 (by simp)
       have c4 := kH44.cl c4 (by simp)
       have sL := kH44.sc sL (by simp)
       have sA := kH44.sc sA (by simp)
       have lc := lc.keep kH44
       refine wN_pur (v := .agg #[.slice (some ⟨H43.next, 0, none⟩) 1 1]) rfl (by kernel_rfl) ?_
       obtain ⟨H45, hH45⟩ : ∃ H45, H44.new (.cells [.slice (some ⟨H43.next, 0, none⟩) 1 1] 62 false) = H45 := ⟨_, rfl⟩
       refine wN_memh (H' := H45) (k := .heavy) rfl (by kernel_rfl) ((heap_build1 (v := .agg #[.slice (some ⟨H43.next, 0, none⟩) 1 1]) se22 z62 rfl rfl rfl (by decide)).trans (by rw [← hH45]; rfl)) (fun b e => by cases e) ?_
       obtain ⟨kH45, nH45, c45⟩ := new_facts hH45; clear hH45
       have c45 : Cl H45 H44.next [.slice (some ⟨H43.next, 0, none⟩) 1 1] := c45
       have mH45 := kH45.1
       have hk := hk.trans kH45
       have hr := hr.keep kH45 (by simp)
       have c4 := kH45.cl c4 (by simp)
       have sL := kH45.sc sL (by simp)
       have sA := kH45.sc sA (by simp)
       have lc := lc.keep kH45
       have c114 := kH45.sc c114 (by simp)
       have ro2 : Rw1 H45 ⟨some ⟨H43.next, 0, none⟩, 1, 1, [⟨(-1 - t % 16), 0, 0, 0, 0⟩]⟩ := ⟨c114.cl.sl (Nat.le_refl 1), rfl, fun x e => by cases e; exact c114.fy⟩
       obtain ⟨vH46, H46, kdH46, eH46, dH46, ld, keH46⟩ := lc.append (r := ⟨some ⟨H43.next, 0, none⟩, 1, 1, [⟨(-1 - t % 16), 0, 0, 0, 0⟩]⟩) ro2 (c45.sl (Nat.le_refl 1)) (by rw [List.length_take]; omega) (by omega) (by omega)
       refine wN_memh (k := kdH46) rfl (by obtain ⟨_, _, rfl, _⟩ := lc; kernel_rfl) (eH46 _ _ _ _ _ _ _ rfl rfl) (fun b q => absurd q (dH46 b)) ?_
       have mH46 := keH46.nx
       have kbb := keH46.kb (by omega)
       have hk := keH46.keep hk (by omega)
       have hr := hr0.keep hk (by simp)
       have c4 := kbb.cl c4 (by omega)
       have sL := kbb.sc sL (by omega)
       have hl1 : mss (rs.take (n - 1) ++ [⟨some ⟨H43.next, 0, none⟩, 1, 1, [⟨(-1 - t % 16), 0, 0, 0, 0⟩]⟩]) = lst1 (mss rs) (-1 - t % 16) := by rw [mss_app, mss_take]; unfold lst1; rw [hml]; rfl
       have ht1 : -16 ≤ (-1 - t % 16) ∧ (-1 - t % 16) < 0 := by omega
       have hp1 := pok_lst1 (t := (-1 - t % 16)) hpk (by omega) ht1
       have hp2 := hp1
       rw [← hl1] at hp2
       have hsh2 := ld.short hp2
       skip
       have hl2 : (rs.take (n - 1) ++ [(⟨some ⟨H43.next, 0, none⟩, 1, 1, [⟨(-1 - t % 16), 0, 0, 0, 0⟩]⟩ : Mc)]).length = n := by rw [List.length_append, List.length_take, hrl]; show min (n - 1) n + 1 = n; omega
       obtain ⟨lb2, elb2, hmc2⟩ := ld.mcs
       rw [hl2] at hmc2 elb2
       subst elb2
       refine wN_mov (v := .slice (some ⟨lb2, 0, none⟩) n n) rfl ?_
       refine wN_end ?_
       refine wN_seq ?_
       refine wN_mov (v := .slice (some ⟨lb2, 0, none⟩) n n) rfl ?_
       refine wN_lda (b := H.next) (o := 0) rfl c4.rd (show row 4 (qc s) 0 = some (qc s) from rfl) ?_
       obtain ⟨aC, H47, fH47, kH47, laC, sC⟩ := run17_ok (kn := kn) (lo := lo) (H := H46) (s := s) hmc2 hsh2 (by omega) (by omega) (by omega) (rok_of hok hp2)
       refine wN_callf (vs := [slv lb2 n n, .agg (qc s).toArray]) rfl (callX_args fH47) ?_
       have mH47 := kH47.1
       have hk := hk.trans kH47
       have hr := hr.keep kH47 (by simp)
       have c4 := kH47.cl c4 (by simp)
       have sL := kH47.sc sL (by simp)
       have hmc2 := hmc2.keep kH47 (by simp)
       have lt0C := sC.lt
       rw [hl1] at sC
       refine wN_mov (v := .tuple #[.slice (some ⟨aC, 0, none⟩) 16 16, iv 0]) rfl ?_
       refine wN_pur (v := .slice (some ⟨aC, 0, none⟩) 16 16) rfl (by kernel_rfl) ?_
       refine wN_pur (v := iv 0) rfl (by kernel_rfl) ?_
       refine wN_mov (v := .slice (some ⟨aC, 0, none⟩) 16 16) rfl ?_
       refine wN_mov (v := iv 0) rfl ?_
       refine wN_end ?_
       refine wN_seq ?_
       refine wN_mov (v := iv 0) rfl ?_
       refine wN_b_neq (a := 0) (b := 0) rfl rfl ?_
       intro t19 g19; obtain rfl : t19 = false := by rw [← g19]; rfl
       refine wN_mov (v := .bool false) rfl ?_
       refine wN_g rfl (wN_mov (v := .slice (some ⟨aC, 0, none⟩) 16 16) rfl ?_)
       refine wN_g rfl (wN_len (m := 16) rfl ?_)
       refine wN_g rfl (wN_mov (v := .slice (some ⟨aL, 0, none⟩) 16 16) rfl ?_)
       refine wN_g rfl (wN_len (m := 16) rfl ?_)
       refine wN_g rfl (wN_b_neq (a := 16) (b := 16) rfl rfl ?_)
       intro t20 g20; obtain rfl : t20 = false := by rw [← g20]; rfl
       refine wN_pur (v := .bool false) rfl rfl ?_
       refine wN_end ?_
       refine condF ?_
       first | refine wN_skip ?_ | skip
       refine wN_seq ?_
       refine wN_mov (v := iv 0) rfl ?_
       refine wN_mov (v := iv 0) rfl ?_
       refine wN_end ?_
       refine wN_seq ?_
       refine wN_mov (v := .slice (some ⟨aL, 0, none⟩) 16 16) rfl ?_
       refine wN_len (m := 16) rfl ?_
       refine wN_mov (v := iv 0) rfl ?_
       refine wN_end ?_
       have hsay := fun j => fun hj : j < 4 => lst1_says (t := (-1 - t % 16)) (j := j) hpk (by omega) ht1 hS0 hj
       have hb1 := fun r => fun hr : r < 16 => rnA_bnd (j := 0) hpk hS0 hr (by decide)
       have hb2 := fun r => fun hr : r < 16 => rnA_bnd (j := 0) hp1 hS0 hr (by decide)
       have hs40 := (hS 0 (by decide)).2
       refine loop_low (fn := Try.f8) E8_3 N8 L8x3 (fun q : Nat => [(2, .int .u8 t), (7, .slice (some ⟨aL, 0, none⟩) 16 16), (19, .slice (some ⟨aC, 0, none⟩) 16 16), (21, iv (sm (fun r => (rnA (mss rs) s) r 0) q)), (22, iv (sm (fun r => (rnA (lst1 (mss rs) (-1 - t % 16)) s) r 0) q)), (133, .slice (some ⟨aL, 0, none⟩) 16 16), (134, iv 16), (135, iv (q : Int))])
        (fun k q H' => q + k = 16 ∧ Keep H H' [] ∧ Sc H' aL (cc (rnA (mss rs) s) 16) ∧ Sc H' aC (cc (rnA (lst1 (mss rs) (-1 - t % 16)) s) 16)) 16 0 ⟨by omega, hk, sL, sC⟩ ⟨rfl, rfl, rfl, rfl, rfl, rfl, rfl, rfl, trivial⟩ ?_
       rintro k q L3 ⟨hqk, hk, sL, sC⟩
       have mki := hk.1
       have ltL := sL.lt
       have ltC := sC.lt
       refine wN_seq ?_
       refine wN_c_lss (a := (q : Int)) (b := 16) rfl rfl ?_
       refine wN_end ?_
       refine And.intro (fun q21 => ?_) (fun q21 => ?_)
       ·have q21 : (q : Int) < 16 := of_decide_eq_true q21
        have hq : q < 16 := by omega
        have g1 := hb1 q hq
        have g2 := hb2 q hq
        have u1 := sm_bnd (f := fun r => (rnA (mss rs) s) r 0) (m := s 0) (n := q) fun r hr => hb1 r (by omega)
        have u2 := sm_bnd (f := fun r => (rnA (lst1 (mss rs) (-1 - t % 16)) s) r 0) (m := s 0) (n := q) fun r hr => hb2 r (by omega)
        have hms : (q : Int) * s 0 ≤ 16 * 1099511627776 := Int.mul_le_mul (by omega) hs40 (by omega) (by omega)
        first | refine wN_skip ?_ | skip
        refine wN_seq ?_
        refine wN_mov (v := iv (q : Int)) rfl ?_
        refine wN_mov (v := iv (q : Int)) rfl ?_
        refine wN_end ?_
        refine wD_seq ?_
        refine wD_mov (v := iv (sm (fun r => (rnA (mss rs) s) r 0) q)) rfl ?_
        refine wD_mov (v := .slice (some ⟨aL, 0, none⟩) 16 16) rfl ?_
        refine wD_mov (v := iv (q : Int)) rfl ?_
        refine wD_idx (b := aL) (o := 0) (k := q) (j := (q : Int)) rfl rfl rfl hq ?_
        refine wD_addo (b := aL) (o := 0 + q * 4) rfl ?_
        refine wD_ld (b := aL) (o := 0 + q * 4) (v := iv ((rnA (mss rs) s) q 0)) rfl sL.cl.rd (cc_at (j := 0) hq rfl) ?_
        refine wD_add (a := (sm (fun r => (rnA (mss rs) s) r 0) q)) (b := ((rnA (mss rs) s) q 0)) rfl rfl ⟨by omega, by omega⟩ ?_
        refine wD_mov (v := iv (sm (fun r => (rnA (lst1 (mss rs) (-1 - t % 16)) s) r 0) q)) rfl ?_
        refine wD_mov (v := .slice (some ⟨aC, 0, none⟩) 16 16) rfl ?_
        refine wD_mov (v := iv (q : Int)) rfl ?_
        refine wD_idx (b := aC) (o := 0) (k := q) (j := (q : Int)) rfl rfl rfl hq ?_
        refine wD_addo (b := aC) (o := 0 + q * 4) rfl ?_
        refine wD_ld (b := aC) (o := 0 + q * 4) (v := iv ((rnA (lst1 (mss rs) (-1 - t % 16)) s) q 0)) rfl sC.cl.rd (cc_at (j := 0) hq rfl) ?_
        refine wD_add (a := (sm (fun r => (rnA (lst1 (mss rs) (-1 - t % 16)) s) r 0) q)) (b := ((rnA (lst1 (mss rs) (-1 - t % 16)) s) q 0)) rfl rfl ⟨by omega, by omega⟩ ?_
        refine wD_mov (v := iv ((sm (fun r => (rnA (mss rs) s) r 0) q) + ((rnA (mss rs) s) q 0))) rfl ?_
        refine wD_mov (v := iv ((sm (fun r => (rnA (lst1 (mss rs) (-1 - t % 16)) s) r 0) q) + ((rnA (lst1 (mss rs) (-1 - t % 16)) s) q 0))) rfl ?_
        refine wD_end (by repeat' first | exact True.intro | exact (fun h => h) | refine And.intro ?_ ?_ | (intro h; have h : (_ : Nat) = _ := h; omega)) ?_
        refine wD_seq ?_
        refine wD_mov (v := iv (q : Int)) rfl ?_
        refine wD_mov (v := .int .u8 t) rfl ?_
        refine wD_pur (v := iv t) rfl (conv_5 t (by omega) (by omega) rfl) ?_
        refine wD_rem (a := t) (b := 16) rfl rfl (by omega) (by omega) ⟨by omega, by omega⟩ ⟨by omega, by omega⟩ ?_
        refine wD_b_neq (a := (q : Int)) (b := t % 16) rfl rfl ?_
        intro t22 g22; cases t22
        ·have g22 : ¬ ((q : Int) ≠ (t % 16)) := by simpa using g22
         refine wD_mov (v := .bool false) rfl ?_
         refine wD_gs rfl ?_
         refine wD_gs rfl ?_
         refine wD_gs rfl ?_
         refine wD_gs rfl ?_
         refine wD_gs rfl ?_
         refine wD_gs rfl ?_
         refine wD_gs rfl ?_
         refine wD_gs rfl ?_
         refine wD_gs rfl ?_
         refine wD_gs rfl ?_
         refine wD_gs rfl ?_
         refine wD_pur (v := .bool false) rfl rfl ?_
         refine wD_end (by repeat' first | exact True.intro | exact (fun h => h) | refine And.intro ?_ ?_ | (intro h; have h : (_ : Nat) = _ := h; omega)) ?_
         refine condF ?_
         first | refine wN_skip ?_ | skip
         first | refine wN_reg ?_ | refine wN_blk ?_ | refine wN_bseq ?_ | (refine wOps_nil ?_; refine wN_reg ?_)
         refine wN_add (a := (q : Int)) (b := 1) rfl rfl ⟨by omega, by omega⟩ ?_
         refine wN_mov (v := iv ((q : Int) + 1)) rfl ?_
         refine wN_end ?_
         exact ⟨k - 1, q + 1, by omega, ⟨by omega, hk, sL, sC⟩, rfl, rfl, rfl, rfl, rfl, rfl, rfl, rfl, trivial⟩
        ·have g22 : (q : Int) ≠ (t % 16) := by simpa using g22
         refine wD_mov (v := .bool true) rfl ?_
         refine wD_g rfl (wD_mov (v := .slice (some ⟨aC, 0, none⟩) 16 16) rfl ?_)
         refine wD_g rfl (wD_mov (v := iv (q : Int)) rfl ?_)
         refine wD_g rfl (wD_idx (b := aC) (o := 0) (k := q) (j := (q : Int)) rfl rfl rfl hq ?_)
         refine wD_g rfl (wD_addo (b := aC) (o := 0 + q * 4) rfl ?_)
         refine wD_g rfl (wD_ld (b := aC) (o := 0 + q * 4) (v := iv ((rnA (lst1 (mss rs) (-1 - t % 16)) s) q 0)) rfl sC.cl.rd (cc_at (j := 0) hq rfl) ?_)
         refine wD_g rfl (wD_mov (v := .slice (some ⟨aL, 0, none⟩) 16 16) rfl ?_)
         refine wD_g rfl (wD_mov (v := iv (q : Int)) rfl ?_)
         refine wD_g rfl (wD_idx (b := aL) (o := 0) (k := q) (j := (q : Int)) rfl rfl rfl hq ?_)
         refine wD_g rfl (wD_addo (b := aL) (o := 0 + q * 4) rfl ?_)
         refine wD_g rfl (wD_ld (b := aL) (o := 0 + q * 4) (v := iv ((rnA (mss rs) s) q 0)) rfl sL.cl.rd (cc_at (j := 0) hq rfl) ?_)
         refine wD_g rfl (wD_b_gtr (a := ((rnA (lst1 (mss rs) (-1 - t % 16)) s) q 0)) (b := ((rnA (mss rs) s) q 0)) rfl rfl ?_)
         intro t23 g23; cases t23
         ·have g23 : ¬ (((rnA (lst1 (mss rs) (-1 - t % 16)) s) q 0) > ((rnA (mss rs) s) q 0)) := of_decide_eq_false g23
          refine wD_pur (v := .bool false) rfl rfl ?_
          refine wD_end (by repeat' first | exact True.intro | exact (fun h => h) | refine And.intro ?_ ?_ | (intro h; have h : (_ : Nat) = _ := h; omega)) ?_
          refine condF ?_
          first | refine wN_skip ?_ | skip
          first | refine wN_reg ?_ | refine wN_blk ?_ | refine wN_bseq ?_ | (refine wOps_nil ?_; refine wN_reg ?_)
          refine wN_add (a := (q : Int)) (b := 1) rfl rfl ⟨by omega, by omega⟩ ?_
          refine wN_mov (v := iv ((q : Int) + 1)) rfl ?_
          refine wN_end ?_
          exact ⟨k - 1, q + 1, by omega, ⟨by omega, hk, sL, sC⟩, rfl, rfl, rfl, rfl, rfl, rfl, rfl, rfl, trivial⟩
         ·have g23 : ((rnA (lst1 (mss rs) (-1 - t % 16)) s) q 0) > ((rnA (mss rs) s) q 0) := of_decide_eq_true g23
          exact absurd ((hsay 0 (by decide)).1 q (by unfold ix; rw [if_pos ht1.2]; omega)) (by omega)
       ·have q21 : ¬ ((q : Int) < 16) := of_decide_eq_false q21
        have eq : q = 16 := by omega
        subst eq
        first | (refine wN_exit ?_; show wC _ _ _ _ _ _ _ _ _) | skip
        refine wN_seq ?_
        refine wN_mov (v := iv (sm (fun r => (rnA (mss rs) s) r 0) 16)) rfl ?_
        refine wN_mov (v := iv (sm (fun r => (rnA (lst1 (mss rs) (-1 - t % 16)) s) r 0) 16)) rfl ?_
        refine wN_b_eql (a := (sm (fun r => (rnA (mss rs) s) r 0) 16)) (b := (sm (fun r => (rnA (lst1 (mss rs) (-1 - t % 16)) s) r 0) 16)) rfl rfl ?_
        intro t24 g24; cases t24
        ·have g24 : ¬ ((sm (fun r => (rnA (mss rs) s) r 0) 16) = (sm (fun r => (rnA (lst1 (mss rs) (-1 - t % 16)) s) r 0) 16)) := by simpa using g24
         exact absurd (hsay 0 (by decide)).2.symm g24
        ·have g24 : (sm (fun r => (rnA (mss rs) s) r 0) 16) = (sm (fun r => (rnA (lst1 (mss rs) (-1 - t % 16)) s) r 0) 16) := by simpa using g24
         refine wN_mov (v := .bool true) rfl ?_
         refine wN_g rfl (wN_callf (vs := []) rfl (callX_known hkn) ?_)
         refine wN_pur (v := .bool true) rfl rfl ?_
         refine wN_mov (v := .bool true) rfl ?_
         refine wN_end ?_
         exact And.intro trivial (Exists.intro _ (And.intro rfl rfl))
  ·have g1 : (n : Int) ≥ 12 := of_decide_eq_true g1
   refine wN_pur (v := .bool true) rfl rfl ?_
   refine wN_end ?_
   refine condT ?_
   refine wN_seq ?_
   refine wN_callf (vs := []) rfl (callX_known hkn) ?_
   refine wN_mov (v := .bool true) rfl ?_
   refine wN_end ?_
   exact And.intro trivial (Exists.intro _ (And.intro rfl rfl))
 ·refine wN_mov (v := .bool true) rfl ?_
  refine wN_gs rfl ?_
  refine wN_gs rfl ?_
  refine wN_gs rfl ?_
  refine wN_pur (v := .bool true) rfl rfl ?_
  refine wN_end ?_
  refine condT ?_
  refine wN_seq ?_
  refine wN_callf (vs := []) rfl (callX_known hkn) ?_
  refine wN_mov (v := .bool true) rfl ?_
  refine wN_end ?_
  exact And.intro trivial (Exists.intro _ (And.intro rfl rfl))
end
end Go.Ax

namespace Go.Ax
open Go Go.RowKit Go.Proofs Go.ChangeShapes Go.WideShapes Go.Deep

/-- A type whose cells are whole numbers. -/
def IntT (P : Program) (t : TypeId) : Prop := ∀ (H : Type) (enc : TypeId × Value → H) (w : World) (base : Nat) (spare : Nat → Bool) (held : Bool) (fuel : Nat) (cs : List Value) (x : DataW H × List MemPlace),
  DataW.trod enc P w base spare held fuel t cs = some x → cs.length = P.cellsOf t ∧ ∀ j, j < cs.length → ∃ n, cs[j]? = some (.int .i64 n)
theorem IntT.int {P : Program} {t : TypeId} (ht : P.underlying t = some (.int .i64)) (hc : P.cellsOf t = 1) : IntT P t := by
  intro H enc w base spare held fuel cs x h
  obtain ⟨n, rfl, _⟩ := DataW.trod_int ht h
  refine ⟨by rw [hc]; rfl, fun j hj => ⟨n, ?_⟩⟩
  have : j = 0 := by simp at hj; omega
  subst this; rfl
theorem IntT.struct {P : Program} {t : TypeId} {fs : Array Field} (ht : P.underlying t = some (.struct fs)) (hf : ∀ f ∈ fs.toList, IntT P f.type)
    (hcov : ((List.range (P.cellsOf t)).all fun j => fs.toList.any fun f => decide (f.offset ≤ j) && decide (j < f.offset + P.cellsOf f.type)) = true) : IntT P t := by
  intro H enc w base spare held fuel cs x h
  obtain ⟨xs, n, _, _, hlen, hxl, hg⟩ := DataW.trod_struct ht h
  refine ⟨hlen, fun j hj => ?_⟩
  have h1 := List.all_eq_true.1 hcov j (List.mem_range.2 (by omega))
  obtain ⟨f, hfm, h2⟩ := List.any_eq_true.1 h1
  simp only [Bool.and_eq_true, decide_eq_true_eq] at h2
  obtain ⟨i, hi, hfi⟩ := List.getElem_of_mem hfm
  have hfs : fs[i]? = some f := by
    rw [← Array.getElem?_toList, List.getElem?_eq_getElem hi, hfi]
  have hi2 : i < xs.length := by simpa [hxl] using hi
  have h3 := hg i f hfs
  rw [List.getElem?_eq_getElem hi2] at h3
  obtain ⟨h4, h5⟩ := hf f hfm _ _ _ _ _ _ _ _ _ h3
  obtain ⟨m, hm⟩ := h5 (j - f.offset) (by omega)
  refine ⟨m, ?_⟩
  rw [List.getElem?_take] at hm
  split at hm
  · rw [List.getElem?_drop, show f.offset + (j - f.offset) = j by omega] at hm; exact hm
  · cases hm

/-- A slice of rows of whole numbers, as it is given. -/
structure Given {α : Type} (w : World) (v : Value) (f : α → List Value) (l : List α) (x : Imp) : Prop where
  ok : ∀ (i : Nat) u, x.cs[i]? = some u → w.cell? ⟨x.blk, x.off + i, none⟩ = some u ∧ flat1 u = true
  cs : x.cs = l.flatMap f
  v : (v = .slice none 0 0 ∧ l = []) ∨ ∃ cap, v = .slice (some ⟨x.blk, x.off, none⟩) l.length cap ∧ l.length ≤ cap
theorem flat_get {α : Type} {f : α → List Value} {k : Nat} (hk : 0 < k) : ∀ {l : List α} (_ : ∀ x ∈ l, (f x).length = k) (i : Nat) (u : Value), (l.flatMap f)[i]? = some u → ∃ x, l[i / k]? = some x ∧ (f x)[i % k]? = some u
  | [], _, i, u, h => by simp at h
  | y :: r, hl, i, u, h => by
    have hy := hl y (List.mem_cons_self ..)
    rw [List.flatMap_cons, List.getElem?_append] at h
    split at h
    · rename_i q
      rw [hy] at q
      refine ⟨y, ?_, ?_⟩
      · rw [Nat.div_eq_of_lt q]; rfl
      · rw [Nat.mod_eq_of_lt q]; exact h
    · rename_i q
      rw [hy] at q h
      obtain ⟨x, h1, h2⟩ := flat_get hk (fun x hx => hl x (List.mem_cons_of_mem _ hx)) _ u h
      refine ⟨x, ?_, ?_⟩
      · rw [Nat.div_eq_sub_div hk (by omega)]; exact h1
      · rw [Nat.mod_eq_sub_mod (by omega)]; exact h2
theorem Given.rel {α : Type} {w : World} {v : Value} {f : α → List Value} {l : List α} {x : Imp} (g : Given w v f l x) {r : Ren} {H : Hp} {b : Nat} (hr : r b = some ⟨x.blk, x.off, none⟩) (hb : b < H.next) (hc : cellsOf H b = some x.cs) (hro : H.t.get b = some (.ro x.cs)) :
    ∃ a cap, VR r (.slice a l.length cap) v ∧ Sl H a l.length cap (l.flatMap f) ∧ ∀ b, a = some ⟨b, 0, none⟩ → H.t.get b = some (.ro (l.flatMap f)) := by
  rcases g.v with ⟨rfl, rfl⟩ | ⟨cap, rfl, hl⟩
  · exact ⟨none, 0, .nilSlice, .inl ⟨.inl rfl, rfl, rfl, rfl⟩, fun b e => by cases e⟩
  · refine ⟨some ⟨b, 0, none⟩, cap, ?_, .inr ⟨b, rfl, ⟨hb, by rw [hc, g.cs]⟩, hl⟩, fun b' e => by cases e; rw [hro, g.cs]⟩
    have := VR.slice (o := 0) (n := l.length) (c := cap) hr rfl hl
    simpa using this
end Go.Ax

/-! Slices of rows of plain cells, as arguments. -/
namespace Go.Ax
open Go Go.RowKit Go.Proofs Go.ChangeShapes Go.WideShapes Go.Deep

theorem IntT.row {α : Type} {P : Program} {t : TypeId} {k : Nat} {f : α → List Value} {mk : (Nat → Int) → α} (h : IntT P t) (hc : P.cellsOf t = k) (hmk : ∀ N : Nat → Int, f (mk N) = (List.range k).map fun j => Value.int .i64 (N j))
    {H : Type} {enc : TypeId × Value → H} {w : World} {base : Nat} {spare : Nat → Bool} {held : Bool} (fuel : Nat) (cs : List Value) (x : DataW H × List MemPlace) (hx : DataW.trod enc P w base spare held fuel t cs = some x) : ∃ y : α, cs = f y ∧ True := by
  obtain ⟨h1, h2⟩ := h _ _ _ _ _ _ _ _ _ hx
  have : ∃ N : Nat → Int, ∀ j, j < cs.length → cs[j]? = some (.int .i64 (N j)) := by
    refine ⟨fun j => match cs[j]? with | some (.int _ n) => n | _ => 0, fun j hj => ?_⟩
    obtain ⟨n, hn⟩ := h2 j hj
    simp [hn]
  obtain ⟨N, hN⟩ := this
  refine ⟨mk N, ?_, trivial⟩
  rw [hmk]
  apply List.ext_getElem?
  intro j
  by_cases hj : j < k
  · rw [hN j (by omega), List.getElem?_map, List.getElem?_range hj]; rfl
  · rw [List.getElem?_eq_none (by omega), List.getElem?_eq_none (by simp; omega)]
theorem spot_of {w : World} {a : Addr} {v : Value} (h : w.cell? a = some v) : a.spot = none := by
  unfold World.cell? at h
  split at h
  · cases hs : a.spot with
    | none => rfl
    | some x => rw [hs] at h; simp at h
  · cases h
theorem add_zero' (a : Addr) : a.add 0 = a := by unfold Addr.add; simp
theorem add_plain (b o n : Nat) : (⟨b, o, none⟩ : Addr).add n = ⟨b, o + n, none⟩ := by
  unfold Addr.add
  by_cases q : n = 0
  · simp [q]
  · simp [q]
/-- A slice of rows, as it is read; Q: what else is known of a row. -/
theorem rows_read {H : Type} {enc : TypeId × Value → H} {P : Program} {w : World} {base : Nat} {held : Bool} {α : Type} {f : α → List Value} {Q : α → Prop} {k : Nat} {t e : TypeId} {fuel : Nat} {v : Value} {x : DataW H × List MemPlace}
    (ht : P.underlying t = some (.slice e)) (hR : ∀ (fuel : Nat) (cs : List Value) (x : DataW H × List MemPlace), DataW.trod enc P w base (fun _ => true) held fuel e cs = some x → ∃ y : α, cs = f y ∧ Q y) (hc : P.cellsOf e = k) (hk : 0 < k) (hfk : ∀ y, (f y).length = k)
    (h : DataW.trod enc P w base (fun _ => true) held fuel t [v] = some x) : ∃ (l : List α), l.length ≤ maxLen ∧ (∀ y ∈ l, Q y) ∧
      (((v = .slice none 0 0 ∨ ∃ a', v = .slice (some a') 0 0) ∧ l = []) ∨ ∃ blk off cap, v = .slice (some ⟨blk, off, none⟩) l.length cap ∧ l.length ≤ cap ∧ ∀ (i : Nat) u, (l.flatMap f)[i]? = some u → w.cell? ⟨blk, off + i, none⟩ = some u) := by
  rcases open_slice ht h with ⟨h0, _⟩ | ⟨a, len, cap, m, n, D, Pl, hcs, hb, hl, hm, hmm, hx, hi⟩
  · cases h0
    exact ⟨[], by simp, fun y hy => by simp at hy, .inl ⟨.inl rfl, rfl⟩⟩
  cases hcs
  simp only [if_true] at hmm
  subst hmm
  rcases Nat.eq_zero_or_pos m with h0 | h0
  · subst h0
    have : len = 0 := by omega
    subst this
    exact ⟨[], by simp, fun y hy => by simp at hy, .inl ⟨.inr ⟨_, rfl⟩, rfl⟩⟩
  obtain ⟨blk, off, spot⟩ := a
  have hs : spot = none := by
    obtain ⟨cs', h1, h2⟩ := hi 0 h0
    obtain ⟨y, hy, _⟩ := hR _ _ _ h2
    obtain ⟨_, h5, h6⟩ := World.cells?_some h1
    have h7 := h6 0 (by omega)
    rw [Nat.zero_mul, add_zero', add_zero'] at h7
    have h8 : cs'[0]? = some (cs'[0]'(by omega)) := List.getElem?_eq_getElem _
    rw [h8] at h7
    exact spot_of h7
  subst hs
  have hrow : ∀ i, i < len → ∃ y : α, Q y ∧ ∀ j, j < k → ∃ u, (f y)[j]? = some u ∧ w.cell? ⟨blk, off + (i * k + j), none⟩ = some u := by
    intro i hil
    obtain ⟨cs', h1, h2⟩ := hi i (by omega)
    obtain ⟨y, rfl, hq⟩ := hR _ _ _ h2
    obtain ⟨_, h5, h6⟩ := World.cells?_some h1
    refine ⟨y, hq, fun j hj => ?_⟩
    have h7 := h6 j (by omega)
    have h8 : (f y)[j]? = some ((f y)[j]'(by rw [hfk]; exact hj)) := List.getElem?_eq_getElem _
    rw [h8, hc, add_plain, add_plain, Nat.add_assoc] at h7
    exact ⟨_, h8, h7⟩
  have key : ∀ n, n ≤ len → ∃ l : List α, l.length = n ∧ (∀ y ∈ l, Q y) ∧ ∀ (i : Nat) y, l[i]? = some y → ∀ j, j < k → ∃ u, (f y)[j]? = some u ∧ w.cell? ⟨blk, off + (i * k + j), none⟩ = some u := by
    intro n
    induction n with
    | zero => intro _; exact ⟨[], rfl, fun y hy => by simp at hy, fun i y e => by simp at e⟩
    | succ n ih =>
      intro hn
      obtain ⟨l, h1, hq, h2⟩ := ih (by omega)
      obtain ⟨y, hyq, hy⟩ := hrow n (by omega)
      refine ⟨l ++ [y], by simp [h1], fun z hz => ?_, fun i z e => ?_⟩
      · simp only [List.mem_append, List.mem_singleton] at hz
        rcases hz with hz | rfl
        · exact hq z hz
        · exact hyq
      rw [List.getElem?_append] at e
      split at e
      · exact h2 i z e
      · rename_i q
        have : i = n := by have := get_lt e; simp at this; omega
        subst this
        rw [h1, Nat.sub_self] at e
        simp at e; subst e
        exact hy
  obtain ⟨l, hl1, hq, hl2⟩ := key len (Nat.le_refl _)
  refine ⟨l, by omega, hq, .inr ⟨blk, off, m, by rw [hl1], by omega, fun i u hu => ?_⟩⟩
  obtain ⟨y, h1, h2⟩ := flat_get hk (fun y _ => hfk y) i u hu
  have hj : i % k < k := Nat.mod_lt _ hk
  obtain ⟨u', e1, e2⟩ := hl2 _ y h1 _ hj
  rw [h2] at e1; cases e1
  rw [Nat.div_add_mod'] at e2
  exact e2
end Go.Ax

/-! Arguments that point to what points: inner slices, rows of slices. -/
namespace Go.Ax
open Go Go.RowKit Go.Proofs Go.ChangeShapes Go.WideShapes Go.Deep

def renOf (imps : List Imp) : Ren := fun b => (imps[b]?).map fun x => ⟨x.blk, x.off, none⟩
theorem imports3 {P : Program} (imps outs : List Imp) (w : World) (h : ∀ x ∈ imps, ∀ (i : Nat) v, x.cs[i]? = some v → w.cell? ⟨x.blk, x.off + i, none⟩ = some v ∧ flat1 v = true)
    (hcs : ∀ x ∈ outs, ∀ (i : Nat) v, x.cs[i]? = some v → ∃ v', w.cell? ⟨x.blk, x.off + i, none⟩ = some v' ∧ VR (renOf imps) v v') :
    ∃ (r : Ren) (H : Hp), Rel P r w.heap.size H w ∧ H.next = (imps ++ outs).length ∧ (∀ b loc, r b = some loc → b < H.next) ∧ Ren.Le (renOf imps) r ∧ ∀ (b : Nat) x, (imps ++ outs)[b]? = some x → r b = some ⟨x.blk, x.off, none⟩ ∧ H.t.get b = some (.ro x.cs) := by
  have hall : ∀ x ∈ imps ++ outs, ∀ (i : Nat) v, x.cs[i]? = some v → ∃ v', w.cell? ⟨x.blk, x.off + i, none⟩ = some v' ∧ VR (renOf imps) v v' := by
    intro x hx i v hv
    rcases List.mem_append.1 hx with hx | hx
    · obtain ⟨h1, h2⟩ := h x hx i v hv
      exact ⟨v, h1, flat1_vr h2⟩
    · exact hcs x hx i v hv
  obtain ⟨t, ht⟩ := tr_of (fun b => ((imps ++ outs)[b]?).map fun x => .ro x.cs) (imps ++ outs).length
  have hle : Ren.Le (renOf imps) (fun b => ((imps ++ outs)[b]?).map fun x => ⟨x.blk, x.off, none⟩) := fun b loc e => by
    unfold renOf at e
    have hlt : b < imps.length := by
      rcases Nat.lt_or_ge b imps.length with q | q
      · exact q
      · rw [List.getElem?_eq_none q] at e; cases e
    show ((imps ++ outs)[b]?).map _ = _
    rw [List.getElem?_append_left hlt]; exact e
  have hr : ∀ (b : Nat) loc, ((imps ++ outs)[b]?).map (fun x => (⟨x.blk, x.off, none⟩ : Loc)) = some loc → ∃ x, (imps ++ outs)[b]? = some x ∧ b < (imps ++ outs).length ∧ loc = ⟨x.blk, x.off, none⟩ ∧ t.get b = some (.ro x.cs) := by
    intro b loc e
    cases hx : (imps ++ outs)[b]? with
    | none => rw [hx] at e; cases e
    | some x =>
      rw [hx] at e
      simp at e
      have hlt := get_lt hx
      exact ⟨x, rfl, hlt, e.symm, by rw [ht, if_pos hlt, hx]; rfl⟩
  have low : ∀ {g o : Nat} {v : Value}, w.cell? ⟨g, o, none⟩ = some v → g < w.heap.size := fun {g o v} hv => by
    unfold World.cell? at hv
    rcases Nat.lt_or_ge g w.heap.size with q | q
    · exact q
    · rw [Array.getElem?_eq_none q] at hv; cases hv
  refine ⟨fun b => ((imps ++ outs)[b]?).map fun x => ⟨x.blk, x.off, none⟩, { next := (imps ++ outs).length, t }, ⟨?_, ?_, ?_, Nat.le_refl _⟩, rfl, ?_, hle, ?_⟩
  · intro b loc e
    obtain ⟨x, hx, hlt, rfl, hg⟩ := hr b loc e
    refine ⟨hlt, ?_⟩
    show Dm _ _ _ (t.get b)
    rw [hg]
    cases hc : x.cs with
    | nil => exact .inl rfl
    | cons v l =>
      obtain ⟨v', h1, _⟩ := hall x (List.mem_of_getElem? hx) 0 v (by rw [hc]; rfl)
      exact .inr (low h1)
  · intro b loc o e eo
    obtain ⟨x, hx, hlt, rfl, hg⟩ := hr b loc e
    rw [hg] at eo; cases eo
    refine ⟨rfl, fun i v ev => ?_⟩
    obtain ⟨v', h1, h2⟩ := hall x (List.mem_of_getElem? hx) i v ev
    unfold World.cell? at h1
    simp only at h1
    split at h1
    · rename_i C e' f hC
      exact ⟨C, e', f, v', hC, by simpa using h1, h2.mono hle⟩
    · cases h1
  · intro b b' loc loc' e e' _ hl _
    obtain ⟨x, hx, hlt, rfl, hg⟩ := hr b loc e
    obtain ⟨o, h1, h2, h3⟩ := hl
    have : t.get b = some o := h1
    rw [hg] at this; cases this
    cases h3
  · intro b loc e
    obtain ⟨x, hx, hlt, rfl, hg⟩ := hr b loc e
    exact hlt
  · intro b x hx
    have hlt := get_lt hx
    refine ⟨by simp only [hx, Option.map_some], ?_⟩
    show t.get b = _
    rw [ht, if_pos hlt, hx]; rfl

/-- An inner slice, as it is given: an empty one may have any address. -/
structure GivI {α : Type} (w : World) (v : Value) (f : α → List Value) (l : List α) (x : Imp) : Prop where
  ok : ∀ (i : Nat) u, x.cs[i]? = some u → w.cell? ⟨x.blk, x.off + i, none⟩ = some u ∧ flat1 u = true
  cs : x.cs = l.flatMap f
  v : ((v = .slice none 0 0 ∨ ∃ a', v = .slice (some a') 0 0) ∧ l = []) ∨ ∃ cap, v = .slice (some ⟨x.blk, x.off, none⟩) l.length cap ∧ l.length ≤ cap
theorem givI_of {H : Type} {enc : TypeId × Value → H} {P : Program} {w : World} {base : Nat} {held : Bool} {α : Type} {f : α → List Value} {Q : α → Prop} {k : Nat} {t e : TypeId} {fuel : Nat} {v : Value} {x : DataW H × List MemPlace}
    (ht : P.underlying t = some (.slice e)) (hR : ∀ (fuel : Nat) (cs : List Value) (x : DataW H × List MemPlace), DataW.trod enc P w base (fun _ => true) held fuel e cs = some x → ∃ y : α, cs = f y ∧ Q y) (hc : P.cellsOf e = k) (hk : 0 < k) (hfk : ∀ y, (f y).length = k) (hflat : ∀ y u, u ∈ f y → flat1 u = true)
    (h : DataW.trod enc P w base (fun _ => true) held fuel t [v] = some x) : ∃ (l : List α) (y : Imp), GivI w v f l y := by
  obtain ⟨l, h1, h2, ⟨h3, rfl⟩ | ⟨blk, off, cap, h3, h4, h5⟩⟩ := rows_read ht hR hc hk hfk h
  · exact ⟨[], ⟨0, 0, []⟩, ⟨fun i u e => by simp at e, rfl, .inl ⟨h3, rfl⟩⟩⟩
  · refine ⟨l, ⟨blk, off, l.flatMap f⟩, ⟨fun i u hu => ⟨h5 i u hu, ?_⟩, rfl, .inr ⟨cap, h3, h4⟩⟩⟩
    obtain ⟨y, hy, hu'⟩ := List.mem_flatMap.1 (List.mem_of_getElem? hu)
    exact hflat y u hu'
theorem GivI.rel {α : Type} {w : World} {v : Value} {f : α → List Value} {l : List α} {x : Imp} (g : GivI w v f l x) {r : Ren} {b : Nat} (hr : r b = some ⟨x.blk, x.off, none⟩) :
    ∃ a cap, VR r (.slice a l.length cap) v ∧ (∀ y, a = some ⟨y, 0, none⟩ → y = b) ∧ ∀ H : Hp, b < H.next → H.t.get b = some (.ro x.cs) → Sl H a l.length cap (l.flatMap f) := by
  rcases g.v with ⟨rfl | ⟨a', rfl⟩, rfl⟩ | ⟨cap, rfl, hl⟩
  · exact ⟨none, 0, .nilSlice, fun y e => by (cases e), fun H _ _ => .inl ⟨.inl rfl, rfl, rfl, rfl⟩⟩
  · exact ⟨some ⟨0, 0, some 0⟩, 0, .weird, fun y e => by (cases e), fun H _ _ => .inl ⟨.inr rfl, rfl, rfl, rfl⟩⟩
  · refine ⟨some ⟨b, 0, none⟩, cap, ?_, fun y e => by (cases e; rfl), fun H hb hc => .inr ⟨b, rfl, ⟨hb, by unfold cellsOf; rw [hc, g.cs]⟩, hl⟩⟩
    have := VR.slice (o := 0) (n := l.length) (c := cap) hr rfl hl
    simpa using this
/-- A list of rows that point elsewhere, as it is given. -/
structure GivO {α : Type} (w : World) (v : Value) (f : α → List Value) (l : List α) (x : Imp) : Prop where
  cs : ∀ (i : Nat) u, (l.flatMap f)[i]? = some u → w.cell? ⟨x.blk, x.off + i, none⟩ = some u
  v : ((v = .slice none 0 0 ∨ ∃ a', v = .slice (some a') 0 0) ∧ l = []) ∨ ∃ cap, v = .slice (some ⟨x.blk, x.off, none⟩) l.length cap ∧ l.length ≤ cap
theorem givO_of {w : World} {α : Type} {f : α → List Value} {Q : α → Prop} {v : Value} {l : List α} (h : ((v = .slice none 0 0 ∨ ∃ a', v = .slice (some a') 0 0) ∧ l = []) ∨ ∃ blk off cap, v = .slice (some ⟨blk, off, none⟩) l.length cap ∧ l.length ≤ cap ∧ ∀ (i : Nat) u, (l.flatMap f)[i]? = some u → w.cell? ⟨blk, off + i, none⟩ = some u) : ∃ x : Imp, GivO w v f l x := by
  rcases h with ⟨h1, rfl⟩ | ⟨blk, off, cap, h1, h2, h3⟩
  · exact ⟨⟨0, 0, []⟩, fun i u e => by simp at e, .inl ⟨h1, rfl⟩⟩
  · exact ⟨⟨blk, off, []⟩, h3, .inr ⟨cap, h1, h2⟩⟩
structure RV where
  rv : Value
  l : List Int
  x : Imp
def RV.f (r : RV) : List Value := [r.rv]
def RV.Q (w : World) (r : RV) : Prop := GivI w r.rv (fun n : Int => [iv n]) r.l r.x
end Go.Ax

/-! Machines and what is flat as arguments. -/
namespace Go.Ax
open Go Go.RowKit Go.Proofs Go.ChangeShapes Go.WideShapes Go.Deep

/-- A machine, as it is given. -/
structure MV where
  rv : Value
  l : List Ou
  x : Imp
def MV.f (r : MV) : List Value := [r.rv]
def MV.Q (w : World) (r : MV) : Prop := GivI w r.rv Ou.f r.l r.x
theorem rows_abs {w : World} {imps : List Imp} : ∀ (L : List MV) (pre post : List Imp), imps = pre ++ L.map MV.x ++ post → (∀ b ∈ L, b.Q w) → ∃ bs : List Mc, bs.length = L.length ∧ LR (renOf imps) (mcc bs) (L.flatMap MV.f) ∧
    ∀ (H : Hp) (f : Nat), imps.length ≤ f → (∀ (b : Nat) x, imps[b]? = some x → b < H.next ∧ H.t.get b = some (.ro x.cs)) → ∀ b ∈ bs, Sl H b.ra b.n b.cap (ouc b.l) ∧ b.l.length = b.n ∧ ∀ x, b.ra = some ⟨x, 0, none⟩ → x < f ∧ Fy H x (ouc b.l)
  | [], _, _, _, _ => ⟨[], rfl, .nil, fun _ _ _ _ b hb => by simp at hb⟩
  | b :: L, pre, post, he, hq => by
    obtain ⟨bs, e1, e2, e3⟩ := rows_abs (imps := imps) L (pre ++ [b.x]) post (by rw [he]; simp) (fun x hx => hq x (List.mem_cons_of_mem _ hx))
    have q := hq b (List.mem_cons_self ..)
    have i1 : imps[pre.length]? = some b.x := by rw [he]; simp
    obtain ⟨a1, c1, r1, y1, l1⟩ := GivI.rel q (r := renOf imps) (b := pre.length) (by unfold renOf; rw [i1]; rfl)
    refine ⟨⟨a1, b.l.length, c1, b.l⟩ :: bs, by simp [e1], ?_, fun H f hf hH x hx => ?_⟩
    · show LR (renOf imps) (.slice a1 b.l.length c1 :: mcc bs) (b.rv :: L.flatMap MV.f)
      exact .cons r1 e2
    · simp only [List.mem_cons] at hx
      rcases hx with rfl | hx
      · obtain ⟨b1, d1⟩ := hH _ _ i1
        exact ⟨l1 H b1 d1, rfl, fun x e => by
          have e2 := y1 x e; have := get_lt i1; subst e2
          exact ⟨by omega, b1, .inl (by rw [d1, q.cs]; rfl)⟩⟩
      · exact e3 H f hf hH x hx
/-- Some plain lists, and a list of rows. -/
theorem imports_rows {P : Program} (pre : List Imp) {w : World} {s2 : Value} {L2 : List MV} {x2 : Imp} (g2 : GivO w s2 MV.f L2 x2) (q2 : ∀ b ∈ L2, b.Q w) (h : ∀ x ∈ pre, ∀ (i : Nat) v, x.cs[i]? = some v → w.cell? ⟨x.blk, x.off + i, none⟩ = some v ∧ flat1 v = true) :
    ∃ (r : Ren) (H : Hp) (ra : Option Addr) (rn rcap : Nat) (rs : List Mc), Rel P r w.heap.size H w ∧ (∀ b loc, r b = some loc → b < H.next) ∧ (∀ (b : Nat) x, pre[b]? = some x → b < H.next ∧ r b = some ⟨x.blk, x.off, none⟩ ∧ H.t.get b = some (.ro x.cs)) ∧ Mcs H H.next ra rn rcap rs ∧
      VR r (.slice ra rn rcap) s2 ∧ (rn = 0 ∨ ∃ x, ra = some ⟨x, 0, none⟩ ∧ x < H.next ∧ H.t.get x = some (.ro (mcc rs))) := by
  obtain ⟨rs, r1, r2, r3⟩ := rows_abs (w := w) (imps := pre ++ L2.map MV.x) L2 pre [] (by simp) q2
  obtain ⟨imps, himps⟩ : ∃ imps, imps = pre ++ L2.map MV.x := ⟨_, rfl⟩
  rw [← himps] at r2 r3
  have himp : ∀ x ∈ imps, ∀ (i : Nat) v, x.cs[i]? = some v → w.cell? ⟨x.blk, x.off + i, none⟩ = some v ∧ flat1 v = true := by
    intro x hx
    rw [himps] at hx
    simp only [List.mem_append, List.mem_map] at hx
    rcases hx with hx | ⟨y, hy, rfl⟩
    · exact h x hx
    · exact (q2 y hy).ok
  obtain ⟨r, H, h1, h2, h3, h4, h5⟩ := imports3 (P := P) imps [⟨x2.blk, x2.off, mcc rs⟩] w himp (by
    intro x hx i u hu
    simp only [List.mem_cons, List.not_mem_nil, or_false] at hx
    subst hx
    have hlt := get_lt hu
    have hlt2 : i < (L2.flatMap MV.f).length := by rw [← r2.1]; exact hlt
    have hu2 := List.getElem?_eq_getElem hlt2
    exact ⟨_, g2.cs i _ hu2, r2.2 i u _ hu hu2⟩)
  have hnx : H.next = imps.length + 1 := by rw [h2]; simp
  have hg5 : ∀ (b : Nat) x, imps[b]? = some x → r b = some ⟨x.blk, x.off, none⟩ ∧ H.t.get b = some (.ro x.cs) := fun b x hx => h5 b x (by rw [List.getElem?_append_left (get_lt hx)]; exact hx)
  have hH : ∀ (b : Nat) x, imps[b]? = some x → b < H.next ∧ H.t.get b = some (.ro x.cs) := fun b x hx => ⟨by have := get_lt hx; omega, (hg5 b x hx).2⟩
  obtain ⟨o1, p1⟩ := h5 imps.length ⟨x2.blk, x2.off, mcc rs⟩ (by simp)
  refine ⟨r, H, ?_⟩
  have hlen : L2.length = rs.length := r1.symm
  have rows := r3 H H.next (by omega) hH
  have pres : ∀ (b : Nat) x, pre[b]? = some x → b < H.next ∧ r b = some ⟨x.blk, x.off, none⟩ ∧ H.t.get b = some (.ro x.cs) := fun b x hx => by
    have hx2 : imps[b]? = some x := by rw [himps, List.getElem?_append_left (get_lt hx)]; exact hx
    exact ⟨(hH b x hx2).1, hg5 b x hx2⟩
  rcases g2.v with ⟨rfl | ⟨a', rfl⟩, e⟩ | ⟨cap, rfl, hl⟩
  · have e2 : rs = [] := List.eq_nil_of_length_eq_zero (by rw [r1, e]; rfl)
    subst e2
    exact ⟨none, 0, 0, [], h1, h3, pres, ⟨.inl ⟨.inl rfl, rfl, rfl⟩, rfl, fun r hr => by simp at hr⟩, .nilSlice, .inl rfl⟩
  · have e2 : rs = [] := List.eq_nil_of_length_eq_zero (by rw [r1, e]; rfl)
    subst e2
    exact ⟨some ⟨0, 0, some 0⟩, 0, 0, [], h1, h3, pres, ⟨.inl ⟨.inr rfl, rfl, rfl⟩, rfl, fun r hr => by simp at hr⟩, .weird, .inl rfl⟩
  · have hb : imps.length < H.next := by omega
    refine ⟨some ⟨imps.length, 0, none⟩, rs.length, cap, rs, h1, h3, pres, ⟨.inr ⟨imps.length, 0, mcc rs, rfl, ⟨hb, by unfold cellsOf; rw [p1]⟩, hb, by omega, fun i r hr => by have := mcc_row hr; simpa using this⟩, rfl, rows⟩, ?_, .inr ⟨_, rfl, hb, p1⟩⟩
    have := VR.slice (o := 0) (n := L2.length) (c := cap) o1 rfl hl
    rw [hlen] at this
    simpa [hlen] using this
end Go.Ax


import Derived.Test.YtbgdbnnbfankeaaMb
import Derived.Test.YtbgdbnnbfankeaaChecked
import Derived.Test.YtbgdbnnbfankeaaAxO
import Derived.Deep.Slices
import Derived.Deep.Fields
import Derived.ChangeSame
set_option linter.all false
/-
  Plant: the program's freezer: Frozen (written by program).
-/
namespace Go.Ax
open Go Go.RowKit Go.Proofs

section
variable {kn : FuncId → Option Bool} {lo : Nat} {H : Hp}
end
end Go.Ax

/-
  Plant: Blend; the document's Tanks, Recipe, Right (written by program).
-/
namespace Go.Ax
open Go Go.RowKit Go.Proofs

def sp3 (s t a c : Int) : Bool := decide (a ≤ s) && decide (s ≤ t) && decide (t ≤ c)
theorem sp3_mix (s u a c : Int) : sp3 s s (u * a) (u * c) = mixB s u a c := by unfold sp3 mixB; rw [decide_eq_true (show s ≤ s from Int.le_refl _), Bool.and_true]
def blE (us : List Tn) (r : Rc) : Int := if us.length > 5 then 3 else if (us.all Tn.ok && r.ok) = true then (if (bestB us r).isSome = true then 0 else 4) else 1
def blB (us : List Tn) (r : Rc) : Bl := (bestB us r).getD bz
def blN (us : List Tn) (r : Rc) : Nat := if blE us r = 0 then us.length else 0
def blC (us : List Tn) (r : Rc) : Int := if blE us r = 0 then cosB us (blB us r) else 0
theorem blE0 {us : List Tn} {r : Rc} (h : blE us r = 0 ∨ blE us r = 4) : us.length ≤ 5 ∧ us.all Tn.ok = true ∧ r.ok = true ∧ (bestB us r).isSome = decide (blE us r = 0) := by
  unfold blE at h ⊢
  split at h
  · omega
  · rename_i h5
    split at h
    · rename_i ho
      rw [Bool.and_eq_true] at ho
      refine ⟨by omega, ho.1, ho.2, ?_⟩
      rw [if_neg h5, if_pos (by rw [ho.1, ho.2]; rfl)]
      cases (bestB us r).isSome <;> simp
    · omega
theorem mulR {a b : Int} (h0 : 0 ≤ a) (h1 : a ≤ 2000000) (h2 : 0 ≤ b) (h3 : b ≤ 1000) : -9223372036854775808 ≤ a * b ∧ a * b < 9223372036854775808 := by
  have := Int.mul_nonneg h0 h2
  have := Int.mul_le_mul h1 h3 h2 (by decide)
  omega
theorem in3s : ∃ i, Try.prog.info? 3 = some i ∧ i.size = 1 := by
  have h : (Try.prog.info? 3).map (fun i => Nat.beq i.size 1) = some true := by kernel_rfl
  cases e : Try.prog.info? 3 with
  | none => rw [e] at h; cases h
  | some i => rw [e] at h; exact ⟨i, rfl, by simpa using h⟩
theorem u89 : Try.prog.underlying 89 = some (.array 5 3) := by kernel_rfl
theorem bc_take {b : Bl} {n : Nat} (h : n ≤ 5) : (bc b).take n = nf b n := by
  match n, h with
  | 0, _ => rfl
  | 1, _ => rfl
  | 2, _ => rfl
  | 3, _ => rfl
  | 4, _ => rfl
  | 5, _ => rfl
  | n + 6, h => exact absurd h (by omega)
theorem wN_boxS {P : Program} {kn : FuncId → Option Bool} {lo n : Nat} {r : List RO} {S : Rg} {H : Hp} {K : Rg → Hp → Prop} {d : Option Nat} {x : Operand} {e : TypeId} {v : Value} (hx : evS S x = some v) (h : ∀ H1, Keep H H1 [] → H1.next = H.next + 1 → Sc H1 H.next v.cells.toList → wOps P kn lo n r (putS S d (.pointer (some ⟨H.next, 0, none⟩))) H1 K) : wOps P kn lo n (⟨d, none, .box e x⟩ :: r) S H K := by
  simp only [wOps, wRO, wRI, hx]
  intro H1 hH1
  obtain ⟨k1, n1, _⟩ := new_facts hH1
  exact h H1 k1 n1 (new_sc hH1)
theorem heap_arr5 {lo n : Nat} {S : Rg} {H : Hp} {d : Option Tmp} {ty : TypeId} {x y : Operand} {p : String} {b k : Nat} {c : Bl} (h0 : Sc H b (bc c)) (hk : k ≤ 5) (hx : evS S x = some (pt b)) (hy : evS S y = some (iv (k : Int))) :
    heapOp Try.prog lo (frS n S) H ⟨d, .slice 89 x none (some y) none, ty, p, #[], none⟩ = some (.val (.slice (some ⟨b, 0, none⟩) k 5) H, .read b) := by
  obtain ⟨i, hi, hs⟩ := in3s
  obtain ⟨_, e, h2⟩ := h0
  have b0 : boundOf (frS n S) 5 (some y) = some k := by unfold boundOf; simp only [ev_frS, hy]
  have b1 : boundOf (frS n S) 0 none = some 0 := rfl
  unfold heapOp
  simp only [ev_frS, hx, u89, hi, b0, b1, h2, hs, add_none, Nat.mul_one, Nat.add_zero, Nat.ble_eq_true_of_le hk, Nat.ble_eq_true_of_le (Nat.zero_le k), Bool.and_self, cond_true]
  rfl
theorem heap_app5 {lo n : Nat} {S : Rg} {H : Hp} {d : Option Tmp} {ty : TypeId} {x y : Operand} {p : String} {b k : Nat} {c : Bl} (h0 : Cl H b (bc c)) (hk0 : 0 < k) (hk : k ≤ 5) (hx : evS S x = some (.slice none 0 0)) (hy : evS S y = some (.slice (some ⟨b, 0, none⟩) k 5)) :
    heapOp Try.prog lo (frS n S) H ⟨d, .call ⟨.builtin .append, #[x, y], #[42, 42]⟩, ty, p, #[], none⟩ = some (.val (.slice (some ⟨H.next, 0, none⟩) k k) (H.new (.cells (nf c k) 3 true)), .heavy) := by
  have hm : row (k * 1) (bc c) 0 = some (nf c k) := by
    rw [← bc_take hk]
    unfold row
    simp only [List.drop_zero, Nat.mul_one, beq_eq, List.length_take, List.length_cons, List.length_nil, Nat.zero_add, Nat.reduceAdd, Nat.min_eq_left hk, decide_true, cond_true]
  have hsr : srcCells H 1 (.slice (some ⟨b, 0, none⟩) k 5) = some (k, nf c k) := by simp only [srcCells, h0.rd.of, hm]
  have h1 : Nat.beq k 0 = false := by rw [beq_eq]; simp; omega
  unfold heapOp
  simp only [evs, ev_frS, hx, hy, builtinV, List.getElem?_toArray, List.getElem?_cons_zero, List.getElem?_cons_succ, se42, u42, hsr, appendV, h1, Nat.ble_eq_true_of_le (show k ≤ 1048576 by omega), Nat.beq_refl, Bool.and_true, cond_true, cond_false]
  rfl
theorem heap_app0 {lo n : Nat} {S : Rg} {H : Hp} {d : Option Tmp} {ty : TypeId} {x y : Operand} {p : String} {b : Nat} {c : Bl} (h0 : Cl H b (bc c)) (hx : evS S x = some (.slice none 0 0)) (hy : evS S y = some (.slice (some ⟨b, 0, none⟩) 0 5)) :
    heapOp Try.prog lo (frS n S) H ⟨d, .call ⟨.builtin .append, #[x, y], #[42, 42]⟩, ty, p, #[], none⟩ = some (.val (.slice none 0 0) H, .pure) := by
  have hm : row (0 * 1) (bc c) 0 = some [] := rfl
  have hsr : srcCells H 1 (.slice (some ⟨b, 0, none⟩) 0 5) = some (0, []) := by simp only [srcCells, h0.rd.of, hm]
  unfold heapOp
  simp only [evs, ev_frS, hx, hy, builtinV, List.getElem?_toArray, List.getElem?_cons_zero, List.getElem?_cons_succ, se42, u42, hsr, appendV, Nat.beq_refl, Bool.and_true, cond_true, cond_false]
  rfl
theorem heap_list {lo : Nat} {H : Hp} {b k : Nat} {c : Bl} (h0 : Cl H b (bc c)) (hk : k ≤ 5) : ∃ a c' H1 kd, (∀ (n : Nat) (S : Rg) (d : Option Tmp) (x y : Operand) (ty : TypeId) (p : String), evS S x = some (.slice none 0 0) → evS S y = some (.slice (some ⟨b, 0, none⟩) k 5) → heapOp Try.prog lo (frS n S) H ⟨d, .call ⟨.builtin .append, #[x, y], #[42, 42]⟩, ty, p, #[], none⟩ = some (.val (.slice a k c') H1, kd)) ∧ (∀ x, kd ≠ .read x) ∧ Keep H H1 [] ∧ Sl H1 a k c' (nf c k) := by
  rcases Nat.eq_zero_or_pos k with rfl | hp
  · exact ⟨none, 0, H, .pure, fun n S d x y ty p hx hy => heap_app0 h0 hx hy, (fun x e => by cases e), Keep.refl _ _, .inl ⟨.inl rfl, rfl, rfl, rfl⟩⟩
  · exact ⟨some ⟨H.next, 0, none⟩, k, _, .heavy, fun n S d x y ty p hx hy => heap_app5 h0 hp hk hx hy, (fun x e => by cases e), (new_facts rfl).1, .inr ⟨H.next, rfl, ⟨(new_facts rfl).2.2.1, by unfold cellsOf; rw [new_get rfl]⟩, Nat.le_refl _⟩⟩
section
variable {kn : FuncId → Option Bool} {lo : Nat} {H : Hp}
theorem list54_ok {b : Bl} {sa : Option Addr} {cap : Nat} {us : List Tn} (hn : us.length ≤ 5) (hlo : lo ≤ H.next) : ∃ a c H', FnX Try.prog kn lo 54 [.agg (bc b).toArray, .slice sa us.length cap] H (.slice a us.length c) H' ∧ Keep H H' [] ∧ Sl H' a us.length c (nf b us.length) := by
  have key := fnX_low (kn := kn) (lo := lo) (H := H) (args := [.agg (bc b).toArray, .slice sa us.length cap]) (Q := fun w H' => ∃ a c, w = .slice a us.length c ∧ Keep H H' [] ∧ Sl H' a us.length c (nf b us.length)) Try.func54 B54 N54 Z54 L54 (by simp) ?_
  · obtain ⟨w, H', h, a, c, rfl, q⟩ := key; exact ⟨a, c, H', h, q⟩
  have hk := Keep.refl H []
  refine wN_seq ?_
  refine wN_boxS (v := .agg (bc b).toArray) rfl ?_
  intro H1 k1 n1 cb
  have cb : Sc H1 H.next (bc b) := cb
  have mH1 := k1.1
  have hk := hk.trans k1
  refine wN_mov (v := .slice none 0 0) rfl ?_
  refine wN_end ?_
  refine wN_seq ?_
  refine wN_mov (v := .slice sa us.length cap) rfl ?_
  refine wN_len (m := us.length) rfl ?_
  refine wN_memh (k := .read H.next) rfl (by kernel_rfl) (heap_arr5 cb hn rfl rfl) (fun x e => by cases e; exact cb.lt) ?_
  obtain ⟨a, c, H2, kd, eH2, dH2, kH2, sl⟩ := heap_list (lo := lo) cb.cl hn
  refine wN_memh (k := kd) rfl (by kernel_rfl) (eH2 _ _ _ _ _ _ _ rfl rfl) (fun x e => absurd e (dH2 x)) ?_
  have mH2 := kH2.1
  have hk := hk.trans kH2
  refine wN_mov (v := .slice a us.length c) rfl ?_
  refine wN_end ?_
  exact And.intro trivial (Exists.intro _ (And.intro rfl ⟨a, c, rfl, hk, sl⟩))
theorem blB_in {us : List Tn} {r : Rc} (hA : us.all Tn.ok = true) (hr : 1 ≤ r.un) : ∀ i, 0 ≤ blB us r i ∧ blB us r i ≤ 12 := by
  have h := bestB_says (us := us) (r := r) (by omega)
  unfold blB
  cases e : bestB us r with
  | none => intro i; exact ⟨Int.le_refl _, (by decide : (0 : Int) ≤ 12)⟩
  | some b =>
    rw [e] at h
    intro i
    show 0 ≤ b i ∧ b i ≤ 12
    rcases Nat.lt_or_ge i us.length with q | q
    · have a := h.1.un i q
      have c := (Tn.ok_t (tn_at hA q)).1
      unfold unF at a
      omega
    · rw [h.1.z i q]; exact ⟨Int.le_refl _, by decide⟩
/-- Blend -/
theorem blend_ok {r : Rc} {sa : Option Addr} {cap : Nat} {us : List Tn} (hs : Sl H sa us.length cap (tnc us)) (hf : ∀ b, sa = some ⟨b, 0, none⟩ → Ft H b (tnc us)) (hn2 : us.length ≤ 1000000) (hlo : lo ≤ H.next) : ∃ a c H', FnX Try.prog kn lo 25 [.slice sa us.length cap, .agg (Rc.f r).toArray] H (.tuple #[.slice a (blN us r) c, iv (blC us r), iv (blE us r)]) H' ∧ Keep H H' [] ∧ Sl H' a (blN us r) c (nf (blB us r) (blN us r)) := by
  have key := fnX_low (kn := kn) (lo := lo) (H := H) (args := [.slice sa us.length cap, .agg (Rc.f r).toArray]) (Q := fun w H' => ∃ a c, w = .tuple #[.slice a (blN us r) c, iv (blC us r), iv (blE us r)] ∧ Keep H H' [] ∧ Sl H' a (blN us r) c (nf (blB us r) (blN us r))) Try.func25 B25 N25 Z25 L25 (by simp) ?_
  · obtain ⟨w, H', h, a, c, rfl, q⟩ := key; exact ⟨a, c, H', h, q⟩
  have hk := Keep.refl H []
  have fs := hs.old
  refine wN_seq ?_
  refine wN_box (v := .agg (Rc.f r).toArray) rfl ?_
  intro H1 kH1 nH1 c1
  have c1 : Cl H1 H.next [iv r.un, iv r.s1, iv r.s2, iv r.a1, iv r.a2, iv r.c1, iv r.c2] := c1
  have mH1 := kH1.1
  have hk := hk.trans kH1
  have hs := kH1.sl0 hs
  refine wN_mov (v := .slice none 0 0) rfl ?_
  refine wN_mov (v := iv 0) rfl ?_
  refine wN_mov (v := iv 0) rfl ?_
  refine wN_end ?_
  refine wN_seq ?_
  refine wN_mov (v := .slice sa us.length cap) rfl ?_
  refine wN_len (m := us.length) rfl ?_
  refine wN_c_gtr (a := (us.length : Int)) (b := 5) rfl rfl ?_
  refine wN_end ?_
  refine And.intro (fun q1 => ?_) (fun q1 => ?_)
  · have q1 : (us.length : Int) > 5 := of_decide_eq_true q1
    refine wN_seq ?_
    refine wN_mov (v := .slice none 0 0) rfl ?_
    refine wN_mov (v := iv 0) rfl ?_
    refine wN_mov (v := iv 3) rfl ?_
    refine wN_end ?_
    have e : blE us r = 3 := by unfold blE; rw [if_pos (by omega)]
    have e2 : blN us r = 0 := by unfold blN; rw [if_neg (by omega)]
    have e3 : blC us r = 0 := by unfold blC; rw [if_neg (by omega)]
    exact And.intro trivial (Exists.intro _ (And.intro rfl ⟨none, 0, by rw [e, e2, e3]; rfl, hk, by rw [e2]; exact .inl ⟨.inl rfl, rfl, rfl, rfl⟩⟩))
  · have q1 : ¬ ((us.length : Int) > 5) := of_decide_eq_false q1
    first | refine wN_skip ?_ | skip
    refine wN_seq ?_
    refine wN_mov (v := .slice sa us.length cap) rfl ?_
    obtain ⟨H2, fH2, kH2⟩ := vtanks_ok (kn := kn) (lo := lo) (H := H1) hs rfl (by omega) (by omega)
    rw [decide_eq_true (Nat.zero_le _), decide_eq_true (show us.length ≤ 5 by omega), Bool.true_and, Bool.true_and] at fH2
    have mH2 := kH2.1
    have hk := hk.trans kH2
    have hs := kH2.sl0 hs
    have c1 := kH2.cl c1 (by simp)
    cases hA : us.all Tn.ok
    · rw [hA] at fH2
      refine wN_callf (vs := [.slice sa us.length cap]) rfl (callX_args fH2) ?_
      refine wN_pur (v := .bool true) rfl rfl ?_
      refine wN_mov (v := .bool true) rfl ?_
      refine wN_gs rfl ?_
      refine wN_gs rfl ?_
      refine wN_gs rfl ?_
      refine wN_pur (v := .bool true) rfl rfl ?_
      refine wN_end ?_
      refine condT ?_
      refine wN_seq ?_
      refine wN_mov (v := .slice none 0 0) rfl ?_
      refine wN_mov (v := iv 0) rfl ?_
      refine wN_mov (v := iv 1) rfl ?_
      refine wN_end ?_
      have e : blE us r = 1 := by unfold blE; rw [if_neg (by omega), if_neg (by simp [hA]; try simp [hR])]
      have e2 : blN us r = 0 := by unfold blN; rw [if_neg (by omega)]
      have e3 : blC us r = 0 := by unfold blC; rw [if_neg (by omega)]
      exact And.intro trivial (Exists.intro _ (And.intro rfl ⟨none, 0, by rw [e, e2, e3]; rfl, hk, by rw [e2]; exact .inl ⟨.inl rfl, rfl, rfl, rfl⟩⟩))
    · rw [hA] at fH2
      refine wN_callf (vs := [.slice sa us.length cap]) rfl (callX_args fH2) ?_
      refine wN_pur (v := .bool false) rfl rfl ?_
      refine wN_mov (v := .bool false) rfl ?_
      refine wN_g rfl (wN_lda (b := H.next) (o := 0) rfl c1.rd (show row 7 _ _ = some [iv r.un, iv r.s1, iv r.s2, iv r.a1, iv r.a2, iv r.c1, iv r.c2] from rfl) ?_)
      obtain ⟨H3, fH3, kH3⟩ := vrecipe_ok (kn := kn) (lo := lo) (H := H2) (r := r) (by omega)
      have mH3 := kH3.1
      have hk := hk.trans kH3
      have hs := kH3.sl0 hs
      have c1 := kH3.cl c1 (by simp)
      cases hR : r.ok
      · rw [hR] at fH3
        refine wN_g rfl (wN_callf (vs := [.agg (Rc.f r).toArray]) rfl (callX_args fH3) ?_)
        refine wN_g rfl (wN_pur (v := .bool true) rfl rfl ?_)
        refine wN_pur (v := .bool true) rfl rfl ?_
        refine wN_end ?_
        refine condT ?_
        refine wN_seq ?_
        refine wN_mov (v := .slice none 0 0) rfl ?_
        refine wN_mov (v := iv 0) rfl ?_
        refine wN_mov (v := iv 1) rfl ?_
        refine wN_end ?_
        have e : blE us r = 1 := by unfold blE; rw [if_neg (by omega), if_neg (by simp [hA]; try simp [hR])]
        have e2 : blN us r = 0 := by unfold blN; rw [if_neg (by omega)]
        have e3 : blC us r = 0 := by unfold blC; rw [if_neg (by omega)]
        exact And.intro trivial (Exists.intro _ (And.intro rfl ⟨none, 0, by rw [e, e2, e3]; rfl, hk, by rw [e2]; exact .inl ⟨.inl rfl, rfl, rfl, rfl⟩⟩))
      · rw [hR] at fH3
        refine wN_g rfl (wN_callf (vs := [.agg (Rc.f r).toArray]) rfl (callX_args fH3) ?_)
        refine wN_g rfl (wN_pur (v := .bool false) rfl rfl ?_)
        refine wN_pur (v := .bool false) rfl rfl ?_
        refine wN_end ?_
        refine condF ?_
        first | refine wN_skip ?_ | skip
        refine wN_seq ?_
        refine wN_mov (v := .slice sa us.length cap) rfl ?_
        refine wN_lda (b := H.next) (o := 0) rfl c1.rd (show row 7 _ _ = some [iv r.un, iv r.s1, iv r.s2, iv r.a1, iv r.a2, iv r.c1, iv r.c2] from rfl) ?_
        obtain ⟨H4, fH4, kH4⟩ := cheap_ok (kn := kn) (lo := lo) (H := H3) (r := r) hs (fun b e => hk.ft (hf b e) (by simp)) (by omega) hA hR (by omega)
        have mH4 := kH4.1
        have hk := hk.trans kH4
        have hs := kH4.sl0 hs
        have c1 := kH4.cl c1 (by simp)
        have hbb : ∀ i, 0 ≤ blB us r i ∧ blB us r i ≤ 12 := blB_in hA (Rc.ok_t hR).1.1
        cases hB : (bestB us r).isSome
        · rw [hB] at fH4
          refine wN_callf (vs := [.slice sa us.length cap, .agg (Rc.f r).toArray]) rfl (callX_args fH4) ?_
          refine wN_mov (v := .tuple #[.agg (bc (blB us r)).toArray, .bool false]) rfl ?_
          refine wN_pur (v := .agg (bc (blB us r)).toArray) rfl (by kernel_rfl) ?_
          refine wN_pur (v := .bool false) rfl (by kernel_rfl) ?_
          refine wN_alc ?_
          intro H5 kH5 nH5 c5
          have c5 : Cl H5 H4.next [iv 0, iv 0, iv 0, iv 0, iv 0] := c5
          have mH5 := kH5.1
          have hk := hk.trans kH5
          have hs := kH5.sl0 hs
          have c1 := kH5.cl c1 (by simp)
          refine wN_sta (b := H4.next) (o := 0) rfl rfl c5 (by omega) rfl rfl (by simp) ?_
          intro H6 kH6 nH6 sH6
          have mH6 := kH6.1
          have hk := hk.new kH6 (fun b hb => by simp at hb ⊢; omega)
          have hs := kH6.sl hs (fun b e => by have := fs b e; first | (simp; done) | (simp; omega))
          have c1 := kH6.cl c1 (by first | (simp; done) | (simp; omega))
          have c5 : Cl H6 H4.next [iv ((blB us r) 0), iv ((blB us r) 1), iv ((blB us r) 2), iv ((blB us r) 3), iv ((blB us r) 4)] := sH6
          refine wN_mov (v := .bool false) rfl ?_
          refine wN_end ?_
          refine wN_seq ?_
          refine wN_mov (v := .bool false) rfl ?_
          refine wN_pur (v := .bool true) rfl rfl ?_
          refine wN_end ?_
          refine condT ?_
          refine wN_seq ?_
          refine wN_mov (v := .slice none 0 0) rfl ?_
          refine wN_mov (v := iv 0) rfl ?_
          refine wN_mov (v := iv 4) rfl ?_
          refine wN_end ?_
          have e : blE us r = 4 := by unfold blE; rw [if_neg (by omega), if_pos (by simp [hA, hR]), if_neg (by simp [hB])]
          have e2 : blN us r = 0 := by unfold blN; rw [if_neg (by omega)]
          have e3 : blC us r = 0 := by unfold blC; rw [if_neg (by omega)]
          exact And.intro trivial (Exists.intro _ (And.intro rfl ⟨none, 0, by rw [e, e2, e3]; rfl, hk, by rw [e2]; exact .inl ⟨.inl rfl, rfl, rfl, rfl⟩⟩))
        · rw [hB] at fH4
          refine wN_callf (vs := [.slice sa us.length cap, .agg (Rc.f r).toArray]) rfl (callX_args fH4) ?_
          refine wN_mov (v := .tuple #[.agg (bc (blB us r)).toArray, .bool true]) rfl ?_
          refine wN_pur (v := .agg (bc (blB us r)).toArray) rfl (by kernel_rfl) ?_
          refine wN_pur (v := .bool true) rfl (by kernel_rfl) ?_
          refine wN_alc ?_
          intro H7 kH7 nH7 c7
          have c7 : Cl H7 H4.next [iv 0, iv 0, iv 0, iv 0, iv 0] := c7
          have mH7 := kH7.1
          have hk := hk.trans kH7
          have hs := kH7.sl0 hs
          have c1 := kH7.cl c1 (by simp)
          refine wN_sta (b := H4.next) (o := 0) rfl rfl c7 (by omega) rfl rfl (by simp) ?_
          intro H8 kH8 nH8 sH8
          have mH8 := kH8.1
          have hk := hk.new kH8 (fun b hb => by simp at hb ⊢; omega)
          have hs := kH8.sl hs (fun b e => by have := fs b e; first | (simp; done) | (simp; omega))
          have c1 := kH8.cl c1 (by first | (simp; done) | (simp; omega))
          have c7 : Cl H8 H4.next [iv ((blB us r) 0), iv ((blB us r) 1), iv ((blB us r) 2), iv ((blB us r) 3), iv ((blB us r) 4)] := sH8
          refine wN_mov (v := .bool true) rfl ?_
          refine wN_end ?_
          refine wN_seq ?_
          refine wN_mov (v := .bool true) rfl ?_
          refine wN_pur (v := .bool false) rfl rfl ?_
          refine wN_end ?_
          refine condF ?_
          first | refine wN_skip ?_ | skip
          refine wD_seq ?_
          refine wD_lda (b := H4.next) (o := 0) rfl c7.rd (show row 5 _ _ = some [iv ((blB us r) 0), iv ((blB us r) 1), iv ((blB us r) 2), iv ((blB us r) 3), iv ((blB us r) 4)] from rfl) ?_
          refine wD_mov (v := .slice sa us.length cap) rfl ?_
          obtain ⟨a, c, H9, fH9, kH9, sl⟩ := list54_ok (kn := kn) (lo := H8.next) (H := H8) (b := blB us r) (sa := sa) (cap := cap) (us := us) (by omega) (by omega)
          refine wD_callh (vs := [.agg (bc (blB us r)).toArray, .slice sa us.length cap]) rfl rfl (callX_args fH9) ?_
          have mH9 := kH9.1
          have hk := hk.trans kH9
          have hs := kH9.sl0 hs
          have c1 := kH9.cl c1 (by simp)
          have c7 := kH9.cl c7 (by simp)
          refine wD_lda (b := H4.next) (o := 0) rfl c7.rd (show row 5 _ _ = some [iv ((blB us r) 0), iv ((blB us r) 1), iv ((blB us r) 2), iv ((blB us r) 3), iv ((blB us r) 4)] from rfl) ?_
          refine wD_mov (v := .slice sa us.length cap) rfl ?_
          obtain ⟨H10, fH10, kH10⟩ := cost_ok (kn := kn) (lo := lo) (H := H9) (b := blB us r) hs rfl hbb hA (by omega) (by omega)
          refine wD_callf (vs := [.agg (bc (blB us r)).toArray, .slice sa us.length cap]) rfl (callX_args fH10) ?_
          have mH10 := kH10.1
          have hk := hk.trans kH10
          have hs := kH10.sl0 hs
          have c1 := kH10.cl c1 (by simp)
          have c7 := kH10.cl c7 (by simp)
          have sl := kH10.sl0 sl
          refine wD_mov (v := .slice a us.length c) rfl ?_
          refine wD_mov (v := iv (cosB us (blB us r))) rfl ?_
          refine wD_mov (v := iv 0) rfl ?_
          refine wD_end (by repeat' first | exact True.intro | exact (fun h => h) | refine And.intro ?_ ?_ | (intro h; have h : (_ : Nat) = _ := h; omega)) ?_
          have e : blE us r = 0 := by unfold blE; rw [if_neg (by omega), if_pos (by simp [hA, hR]), if_pos hB]
          have e2 : blN us r = us.length := by unfold blN; rw [if_pos e]
          have e3 : blC us r = cosB us (blB us r) := by unfold blC; rw [if_pos e]
          exact And.intro trivial (Exists.intro _ (And.intro rfl ⟨a, c, by rw [e, e2, e3]; rfl, hk, by rw [e2]; exact sl⟩))
theorem slow_ok {lim : Int} {sa : Option Addr} {cap : Nat} {us : List Tn} (hs : Sl H sa us.length cap (tnc us)) (h0 : 1 ≤ lim) (h9 : lim ≤ 1000000) (hlo : lo ≤ H.next) : ∃ t H', FnX Try.prog kn lo 24 [.slice sa us.length cap, iv lim] H (.bool t) H' ∧ Keep H H' [] ∧ (t = false → us.length ≤ 8) := by
  have key := fnX_low (kn := kn) (lo := lo) (H := H) (args := [.slice sa us.length cap, iv lim]) (Q := fun w H' => ∃ t, w = .bool t ∧ Keep H H' [] ∧ (t = false → us.length ≤ 8)) Try.func24 B24 N24 Z24 L24 (by simp) ?_
  · obtain ⟨w, H', h, t, rfl, q⟩ := key; exact ⟨t, H', h, q⟩
  have hk := Keep.refl H []
  have fs := hs.old
  refine wN_seq ?_
  refine wN_mov (v := .bool false) rfl ?_
  refine wN_end ?_
  refine wN_seq ?_
  refine wN_mov (v := iv 1) rfl ?_
  refine wN_end ?_
  refine wN_seq ?_
  refine wN_mov (v := iv 0) rfl ?_
  refine wN_end ?_
  refine loop_low (fn := Try.f24) E24_1 N24 L24x1 (fun x : Nat × Int => [(0, .slice sa us.length cap), (1, iv lim), (5, iv x.2), (6, iv (x.1 : Int))])
    (fun k x H' => x.1 + k = 8 ∧ 1 ≤ x.2 + 1 ∧ x.2 ≤ lim + 1 ∧ Keep H H' [] ∧ Sl H' sa us.length cap (tnc us)) 8 (0, 1) ⟨by omega, by decide, by omega, hk, hs⟩ ⟨rfl, rfl, rfl, rfl, trivial⟩ ?_
  rintro k ⟨i, q⟩ L1 ⟨hik, h1, h2, hk, hs⟩
  simp only at hik h1 h2 ⊢
  refine wN_seq ?_
  refine wN_mov (v := iv (i : Int)) rfl ?_
  refine wN_mov (v := .slice sa us.length cap) rfl ?_
  refine wN_len (m := us.length) rfl ?_
  refine wN_b_lss (a := (i : Int)) (b := (us.length : Int)) rfl rfl ?_
  intro t1 g1; cases t1
  · have g1 : ¬ ((i : Int) < (us.length : Int)) := of_decide_eq_false g1
    refine wN_mov (v := .bool false) rfl ?_
    refine wN_gs rfl ?_
    refine wN_gs rfl ?_
    refine wN_pur (v := .bool false) rfl rfl ?_
    refine wN_end ?_
    refine condF ?_
    first | (refine wN_exit ?_; show wC _ _ _ _ _ _ _ _ _) | skip
    refine wN_seq ?_
    refine wN_mov (v := iv q) rfl ?_
    refine wN_mov (v := iv lim) rfl ?_
    refine wN_b_gtr (a := q) (b := lim) rfl rfl ?_
    intro t2 g2; cases t2
    · have g2 : ¬ (q > lim) := of_decide_eq_false g2
      refine wN_mov (v := .bool false) rfl ?_
      refine wN_g rfl (wN_mov (v := .slice sa us.length cap) rfl ?_)
      refine wN_g rfl (wN_len (m := us.length) rfl ?_)
      refine wN_g rfl (wN_b_gtr (a := (us.length : Int)) (b := 8) rfl rfl ?_)
      intro t3 g3; cases t3
      · have g3 : ¬ ((us.length : Int) > 8) := of_decide_eq_false g3
        refine wN_pur (v := .bool false) rfl rfl ?_
        refine wN_mov (v := .bool false) rfl ?_
        refine wN_end ?_
        exact And.intro trivial (Exists.intro _ (And.intro rfl ⟨false, rfl, hk, fun e => by first | (cases e; done) | omega⟩))
      · have g3 : (us.length : Int) > 8 := of_decide_eq_true g3
        refine wN_pur (v := .bool true) rfl rfl ?_
        refine wN_mov (v := .bool true) rfl ?_
        refine wN_end ?_
        exact And.intro trivial (Exists.intro _ (And.intro rfl ⟨true, rfl, hk, fun e => by first | (cases e; done) | omega⟩))
    · have g2 : q > lim := of_decide_eq_true g2
      refine wN_mov (v := .bool true) rfl ?_
      refine wN_gs rfl ?_
      refine wN_gs rfl ?_
      refine wN_gs rfl ?_
      refine wN_pur (v := .bool true) rfl rfl ?_
      refine wN_mov (v := .bool true) rfl ?_
      refine wN_end ?_
      exact And.intro trivial (Exists.intro _ (And.intro rfl ⟨true, rfl, hk, fun e => by first | (cases e; done) | omega⟩))
  · have g1 : (i : Int) < (us.length : Int) := of_decide_eq_true g1
    refine wN_mov (v := .bool true) rfl ?_
    refine wN_g rfl (wN_mov (v := iv (i : Int)) rfl ?_)
    refine wN_g rfl (wN_b_lss (a := (i : Int)) (b := 8) rfl rfl ?_)
    intro t4 g4; cases t4
    · have g4 : ¬ ((i : Int) < 8) := of_decide_eq_false g4
      refine wN_pur (v := .bool false) rfl rfl ?_
      refine wN_end ?_
      refine condF ?_
      first | (refine wN_exit ?_; show wC _ _ _ _ _ _ _ _ _) | skip
      refine wN_seq ?_
      refine wN_mov (v := iv q) rfl ?_
      refine wN_mov (v := iv lim) rfl ?_
      refine wN_b_gtr (a := q) (b := lim) rfl rfl ?_
      intro t5 g5; cases t5
      · have g5 : ¬ (q > lim) := of_decide_eq_false g5
        refine wN_mov (v := .bool false) rfl ?_
        refine wN_g rfl (wN_mov (v := .slice sa us.length cap) rfl ?_)
        refine wN_g rfl (wN_len (m := us.length) rfl ?_)
        refine wN_g rfl (wN_b_gtr (a := (us.length : Int)) (b := 8) rfl rfl ?_)
        intro t6 g6; cases t6
        · have g6 : ¬ ((us.length : Int) > 8) := of_decide_eq_false g6
          refine wN_pur (v := .bool false) rfl rfl ?_
          refine wN_mov (v := .bool false) rfl ?_
          refine wN_end ?_
          exact And.intro trivial (Exists.intro _ (And.intro rfl ⟨false, rfl, hk, fun e => by first | (cases e; done) | omega⟩))
        · have g6 : (us.length : Int) > 8 := of_decide_eq_true g6
          refine wN_pur (v := .bool true) rfl rfl ?_
          refine wN_mov (v := .bool true) rfl ?_
          refine wN_end ?_
          exact And.intro trivial (Exists.intro _ (And.intro rfl ⟨true, rfl, hk, fun e => by first | (cases e; done) | omega⟩))
      · have g5 : q > lim := of_decide_eq_true g5
        refine wN_mov (v := .bool true) rfl ?_
        refine wN_gs rfl ?_
        refine wN_gs rfl ?_
        refine wN_gs rfl ?_
        refine wN_pur (v := .bool true) rfl rfl ?_
        refine wN_mov (v := .bool true) rfl ?_
        refine wN_end ?_
        exact And.intro trivial (Exists.intro _ (And.intro rfl ⟨true, rfl, hk, fun e => by first | (cases e; done) | omega⟩))
    · have g4 : (i : Int) < 8 := of_decide_eq_true g4
      refine wN_pur (v := .bool true) rfl rfl ?_
      refine wN_end ?_
      refine condT ?_
      rcases id hs with ⟨_, h0, _⟩ | ⟨sb, es, rs, _⟩
      · omega
      have lsb := rs.lt
      first | refine wN_skip ?_ | skip
      first | refine wN_reg ?_ | refine wN_blk ?_ | refine wN_bseq ?_ | (refine wOps_nil ?_; refine wN_reg ?_)
      refine wN_mov (v := iv q) rfl ?_
      refine wN_mov (v := .slice sa us.length cap) rfl ?_
      refine wN_mov (v := iv (i : Int)) rfl ?_
      refine wN_idx (b := sb) (o := 0) (k := i) (j := (i : Int)) (by rw [← es]; rfl) rfl rfl (by omega) ?_
      refine wN_addo (b := sb) (o := 0 + i * 5) rfl ?_
      refine wN_ld (b := sb) (o := 0 + i * 5) (v := iv ((us.getD i Tn.z).un)) rfl rs (tnc_atF (j := 0) (by omega) rfl) ?_
      refine wN_mm (a := (us.getD i Tn.z).un) (b := 20) rfl rfl ?_
      refine wN_mm (a := 0) (b := min ((us.getD i Tn.z).un) 20) rfl rfl ?_
      refine wN_add (a := 1) (b := max 0 (min ((us.getD i Tn.z).un) 20)) rfl rfl ⟨by omega, by omega⟩ ?_
      refine wN_mul (a := q) (b := 1 + (max 0 (min ((us.getD i Tn.z).un) 20))) rfl rfl (mulR (by omega) (by omega) (by omega) (by omega)) ?_
      have hp0 : 0 ≤ q * (1 + (max 0 (min ((us.getD i Tn.z).un) 20))) := Int.mul_nonneg (by omega) (by omega)
      refine wN_mov (v := iv lim) rfl ?_
      refine wN_add (a := lim) (b := 1) rfl rfl ⟨by omega, by omega⟩ ?_
      refine wN_mm (a := q * (1 + (max 0 (min ((us.getD i Tn.z).un) 20)))) (b := lim + 1) rfl rfl ?_
      refine wN_mov (v := iv (min (q * (1 + (max 0 (min ((us.getD i Tn.z).un) 20)))) (lim + 1))) rfl ?_
      refine wN_end ?_
      first | refine wN_reg ?_ | refine wN_blk ?_ | refine wN_bseq ?_ | (refine wOps_nil ?_; refine wN_reg ?_)
      refine wN_mov (v := iv (i : Int)) rfl ?_
      refine wN_add (a := (i : Int)) (b := 1) rfl rfl ⟨by omega, by omega⟩ ?_
      refine wN_mov (v := iv ((i : Int) + 1)) rfl ?_
      refine wN_end ?_
      exact ⟨k - 1, (i + 1, min (q * (1 + (max 0 (min ((us.getD i Tn.z).un) 20)))) (lim + 1)), by omega, ⟨by simp only; omega, by simp only; omega, by simp only; omega, hk, hs⟩, rfl, rfl, rfl, rfl, trivial⟩
/-- the document's Tanks -/
theorem tanks35_ok {sa : Option Addr} {cap : Nat} {us : List Tn} (hs : Sl H sa us.length cap (tnc us)) (hok : us.all Tn.ok = true) (hn2 : us.length ≤ 1000000) (hlo : lo ≤ H.next) : ∃ H', FnX Try.prog kn lo 35 [.slice sa us.length cap] H (.bool true) H' ∧ Keep H H' [] := by
  have key := fnX_low (kn := kn) (lo := lo) (H := H) (args := [.slice sa us.length cap]) (Q := fun w H' => w = .bool true ∧ Keep H H' []) Try.func35 B35 N35 Z35 L35 (by simp) ?_
  · obtain ⟨w, H', h, rfl, q⟩ := key; exact ⟨H', h, q⟩
  have hk := Keep.refl H []
  have fs := hs.old
  refine wN_seq ?_
  refine wN_mov (v := .bool false) rfl ?_
  refine wN_end ?_
  refine wN_seq ?_
  refine wN_mov (v := iv 0) rfl ?_
  refine wN_end ?_
  refine loop_low (fn := Try.f35) E35_1 N35 L35x1 (fun i : Nat => [(0, .slice sa us.length cap), (3, iv (i : Int))])
    (fun k i H' => i + k = us.length ∧ Keep H H' [] ∧ Sl H' sa us.length cap (tnc us)) us.length 0 ⟨by omega, hk, hs⟩ ⟨rfl, rfl, trivial⟩ ?_
  rintro k i L1 ⟨hik, hk, hs⟩
  have mki := hk.1
  have fs := hs.old
  refine wN_seq ?_
  refine wN_mov (v := iv (i : Int)) rfl ?_
  refine wN_mov (v := .slice sa us.length cap) rfl ?_
  refine wN_len (m := us.length) rfl ?_
  refine wN_c_lss (a := (i : Int)) (b := (us.length : Int)) rfl rfl ?_
  refine wN_end ?_
  refine And.intro (fun q1 => ?_) (fun q1 => ?_)
  · have q1 : (i : Int) < (us.length : Int) := of_decide_eq_true q1
    rcases id hs with ⟨_, h0, _⟩ | ⟨sb, es, rs, _⟩
    · omega
    have lsb := rs.lt
    have ht := Tn.ok_t (tn_at hok (show i < us.length by omega))
    first | refine wN_skip ?_ | skip
    refine wN_seq ?_
    refine wN_mov (v := .slice sa us.length cap) rfl ?_
    refine wN_mov (v := iv (i : Int)) rfl ?_
    refine wN_idx (b := sb) (o := 0) (k := i) (j := (i : Int)) (by rw [← es]; rfl) rfl rfl (by omega) ?_
    refine wN_lda (b := sb) (o := 0 + i * 5) rfl rs (tnc_rowF (by omega)) ?_
    refine wN_alc ?_
    intro H1 kH1 nH1 c1
    have c1 : Cl H1 L1.next [iv 0, iv 0, iv 0, iv 0, iv 0] := c1
    have mH1 := kH1.1
    have hk := hk.trans kH1
    have hs := kH1.sl0 hs
    have rs := kH1.rd rs (by simp)
    refine wN_sta (b := L1.next) (o := 0) rfl rfl c1 (by omega) rfl rfl (by simp) ?_
    intro H2 kH2 nH2 sH2
    have mH2 := kH2.1
    have hk := hk.new kH2 (fun b hb => by simp at hb ⊢; omega)
    have hs := kH2.sl hs (fun b e => by have := fs b e; first | (simp; done) | (simp; omega))
    have rs := kH2.rd rs (by first | (simp; done) | (simp; omega))
    have c1 : Cl H2 L1.next [iv ((us.getD i Tn.z).un), iv ((us.getD i Tn.z).su), iv ((us.getD i Tn.z).ac), iv ((us.getD i Tn.z).co), iv ((us.getD i Tn.z).pr)] := sH2
    refine wN_end ?_
    refine wN_seq ?_
    refine wN_addo (b := L1.next) (o := 0) rfl ?_
    refine wN_ld (b := L1.next) (o := 0) (v := iv ((us.getD i Tn.z).un)) rfl c1.rd rfl ?_
    refine wN_callB rfl (in50_ok) ?_
    intro tH3 H3 hH3 kH3
    have mH3 := kH3.1
    have hk := hk.trans kH3
    have hs := kH3.sl0 hs
    have rs := kH3.rd rs (by simp)
    have c1 := kH3.cl c1 (by simp)
    cases tH3
    · exact absurd (show _ from inB_f hH3) (by have := ht; omega)
    · refine wN_pur (v := .bool false) rfl rfl ?_
      refine wN_mov (v := .bool false) rfl ?_
      refine wN_g rfl (wN_addo (b := L1.next) (o := 0) rfl ?_)
      refine wN_g rfl (wN_ld (b := L1.next) (o := 1) (v := iv ((us.getD i Tn.z).su)) rfl c1.rd rfl ?_)
      refine wN_g rfl (wN_callB rfl (in50_ok) ?_)
      intro tH4 H4 hH4 kH4
      have mH4 := kH4.1
      have hk := hk.trans kH4
      have hs := kH4.sl0 hs
      have rs := kH4.rd rs (by simp)
      have c1 := kH4.cl c1 (by simp)
      cases tH4
      · exact absurd (show _ from inB_f hH4) (by have := ht; omega)
      · refine wN_g rfl (wN_pur (v := .bool false) rfl rfl ?_)
        refine wN_pur (v := .bool false) rfl rfl ?_
        refine wN_mov (v := .bool false) rfl ?_
        refine wN_g rfl (wN_addo (b := L1.next) (o := 0) rfl ?_)
        refine wN_g rfl (wN_ld (b := L1.next) (o := 2) (v := iv ((us.getD i Tn.z).ac)) rfl c1.rd rfl ?_)
        refine wN_g rfl (wN_callB rfl (in50_ok) ?_)
        intro tH5 H5 hH5 kH5
        have mH5 := kH5.1
        have hk := hk.trans kH5
        have hs := kH5.sl0 hs
        have rs := kH5.rd rs (by simp)
        have c1 := kH5.cl c1 (by simp)
        cases tH5
        · exact absurd (show _ from inB_f hH5) (by have := ht; omega)
        · refine wN_g rfl (wN_pur (v := .bool false) rfl rfl ?_)
          refine wN_pur (v := .bool false) rfl rfl ?_
          refine wN_mov (v := .bool false) rfl ?_
          refine wN_g rfl (wN_addo (b := L1.next) (o := 0) rfl ?_)
          refine wN_g rfl (wN_ld (b := L1.next) (o := 3) (v := iv ((us.getD i Tn.z).co)) rfl c1.rd rfl ?_)
          refine wN_g rfl (wN_callB rfl (in50_ok) ?_)
          intro tH6 H6 hH6 kH6
          have mH6 := kH6.1
          have hk := hk.trans kH6
          have hs := kH6.sl0 hs
          have rs := kH6.rd rs (by simp)
          have c1 := kH6.cl c1 (by simp)
          cases tH6
          · exact absurd (show _ from inB_f hH6) (by have := ht; omega)
          · refine wN_g rfl (wN_pur (v := .bool false) rfl rfl ?_)
            refine wN_pur (v := .bool false) rfl rfl ?_
            refine wN_mov (v := .bool false) rfl ?_
            refine wN_g rfl (wN_addo (b := L1.next) (o := 0) rfl ?_)
            refine wN_g rfl (wN_ld (b := L1.next) (o := 4) (v := iv ((us.getD i Tn.z).pr)) rfl c1.rd rfl ?_)
            refine wN_g rfl (wN_callB rfl (in50_ok) ?_)
            intro tH7 H7 hH7 kH7
            have mH7 := kH7.1
            have hk := hk.trans kH7
            have hs := kH7.sl0 hs
            have rs := kH7.rd rs (by simp)
            have c1 := kH7.cl c1 (by simp)
            cases tH7
            · exact absurd (show _ from inB_f hH7) (by have := ht; omega)
            · refine wN_g rfl (wN_pur (v := .bool false) rfl rfl ?_)
              refine wN_pur (v := .bool false) rfl rfl ?_
              refine wN_end ?_
              refine condF ?_
              first | refine wN_skip ?_ | skip
              first | refine wN_reg ?_ | refine wN_blk ?_ | refine wN_bseq ?_ | (refine wOps_nil ?_; refine wN_reg ?_)
              refine wN_mov (v := iv (i : Int)) rfl ?_
              refine wN_add (a := (i : Int)) (b := 1) rfl rfl ⟨by omega, by omega⟩ ?_
              refine wN_mov (v := iv ((i : Int) + 1)) rfl ?_
              refine wN_end ?_
              exact ⟨k - 1, i + 1, by omega, ⟨by omega, hk, hs⟩, rfl, rfl, trivial⟩
  · have q1 : ¬ ((i : Int) < (us.length : Int)) := of_decide_eq_false q1
    first | (refine wN_exit ?_; show wC _ _ _ _ _ _ _ _ _) | skip
    refine wN_seq ?_
    refine wN_mov (v := .bool true) rfl ?_
    refine wN_end ?_
    exact And.intro trivial (Exists.intro _ (And.intro rfl ⟨rfl, hk⟩))
/-- isSpan -/
theorem sp62_ok {s t a c : Int} (hlo : lo ≤ H.next) : ∃ H', FnX Try.prog kn lo 62 [.agg #[iv s, iv t], iv a, iv c] H (.bool (sp3 s t a c)) H' ∧ Keep H H' [] := by
  have key := fnX_low (kn := kn) (lo := lo) (H := H) (args := [.agg #[iv s, iv t], iv a, iv c]) (Q := fun w H' => w = .bool (sp3 s t a c) ∧ Keep H H' []) Try.func62 B62 N62 Z62 L62 (by simp) ?_
  · obtain ⟨w, H', h, rfl, q⟩ := key; exact ⟨H', h, q⟩
  have hk := Keep.refl H []
  refine wN_seq ?_
  refine wN_box (v := .agg #[iv s, iv t]) rfl ?_
  intro H1 kH1 nH1 c1
  have c1 : Cl H1 H.next [iv s, iv t] := c1
  have mH1 := kH1.1
  have hk := hk.trans kH1
  refine wN_mov (v := .bool false) rfl ?_
  refine wN_end ?_
  refine wN_seq ?_
  refine wN_mov (v := iv a) rfl ?_
  refine wN_addo (b := H.next) (o := 0) rfl ?_
  refine wN_ld (b := H.next) (o := 0) (v := iv s) rfl c1.rd rfl ?_
  refine wN_b_leq (a := a) (b := s) rfl rfl ?_
  intro t1 g1; cases t1
  · have g1 : ¬ (a ≤ s) := of_decide_eq_false g1
    refine wN_mov (v := .bool false) rfl ?_
    refine wN_gs rfl ?_
    refine wN_gs rfl ?_
    refine wN_gs rfl ?_
    refine wN_gs rfl ?_
    refine wN_gs rfl ?_
    refine wN_pur (v := .bool false) rfl rfl ?_
    refine wN_mov (v := .bool false) rfl ?_
    refine wN_gs rfl ?_
    refine wN_gs rfl ?_
    refine wN_gs rfl ?_
    refine wN_gs rfl ?_
    refine wN_pur (v := .bool false) rfl rfl ?_
    refine wN_mov (v := .bool false) rfl ?_
    refine wN_end ?_
    exact And.intro trivial (Exists.intro _ (And.intro rfl ⟨congrArg Value.bool (show false = (sp3 s t a c) from (by symm; first | (simp only [sp3, Bool.and_eq_true, Bool.and_eq_false_iff, Bool.or_eq_true, Bool.or_eq_false_iff, Bool.not_eq_true', Bool.not_eq_false', decide_eq_true_eq, decide_eq_false_iff_not]; omega) | (simp [sp3] <;> omega))), hk⟩))
  · have g1 : a ≤ s := of_decide_eq_true g1
    refine wN_mov (v := .bool true) rfl ?_
    refine wN_g rfl (wN_addo (b := H.next) (o := 0) rfl ?_)
    refine wN_g rfl (wN_ld (b := H.next) (o := 0) (v := iv s) rfl c1.rd rfl ?_)
    refine wN_g rfl (wN_addo (b := H.next) (o := 0) rfl ?_)
    refine wN_g rfl (wN_ld (b := H.next) (o := 1) (v := iv t) rfl c1.rd rfl ?_)
    refine wN_g rfl (wN_b_leq (a := s) (b := t) rfl rfl ?_)
    intro t2 g2; cases t2
    · have g2 : ¬ (s ≤ t) := of_decide_eq_false g2
      refine wN_pur (v := .bool false) rfl rfl ?_
      refine wN_mov (v := .bool false) rfl ?_
      refine wN_gs rfl ?_
      refine wN_gs rfl ?_
      refine wN_gs rfl ?_
      refine wN_gs rfl ?_
      refine wN_pur (v := .bool false) rfl rfl ?_
      refine wN_mov (v := .bool false) rfl ?_
      refine wN_end ?_
      exact And.intro trivial (Exists.intro _ (And.intro rfl ⟨congrArg Value.bool (show false = (sp3 s t a c) from (by symm; first | (simp only [sp3, Bool.and_eq_true, Bool.and_eq_false_iff, Bool.or_eq_true, Bool.or_eq_false_iff, Bool.not_eq_true', Bool.not_eq_false', decide_eq_true_eq, decide_eq_false_iff_not]; omega) | (simp [sp3] <;> omega))), hk⟩))
    · have g2 : s ≤ t := of_decide_eq_true g2
      refine wN_pur (v := .bool true) rfl rfl ?_
      refine wN_mov (v := .bool true) rfl ?_
      refine wN_g rfl (wN_addo (b := H.next) (o := 0) rfl ?_)
      refine wN_g rfl (wN_ld (b := H.next) (o := 1) (v := iv t) rfl c1.rd rfl ?_)
      refine wN_g rfl (wN_mov (v := iv c) rfl ?_)
      refine wN_g rfl (wN_b_leq (a := t) (b := c) rfl rfl ?_)
      intro t3 g3; cases t3
      · have g3 : ¬ (t ≤ c) := of_decide_eq_false g3
        refine wN_pur (v := .bool false) rfl rfl ?_
        refine wN_mov (v := .bool false) rfl ?_
        refine wN_end ?_
        exact And.intro trivial (Exists.intro _ (And.intro rfl ⟨congrArg Value.bool (show false = (sp3 s t a c) from (by symm; first | (simp only [sp3, Bool.and_eq_true, Bool.and_eq_false_iff, Bool.or_eq_true, Bool.or_eq_false_iff, Bool.not_eq_true', Bool.not_eq_false', decide_eq_true_eq, decide_eq_false_iff_not]; omega) | (simp [sp3] <;> omega))), hk⟩))
      · have g3 : t ≤ c := of_decide_eq_true g3
        refine wN_pur (v := .bool true) rfl rfl ?_
        refine wN_mov (v := .bool true) rfl ?_
        refine wN_end ?_
        exact And.intro trivial (Exists.intro _ (And.intro rfl ⟨congrArg Value.bool (show true = (sp3 s t a c) from (by symm; first | (simp only [sp3, Bool.and_eq_true, Bool.and_eq_false_iff, Bool.or_eq_true, Bool.or_eq_false_iff, Bool.not_eq_true', Bool.not_eq_false', decide_eq_true_eq, decide_eq_false_iff_not]; omega) | (simp [sp3] <;> omega))), hk⟩))
/-- the document's Recipe -/
theorem recipe36_ok {r : Rc} (hr : r.ok = true) (hlo : lo ≤ H.next) : ∃ H', FnX Try.prog kn lo 36 [.agg (Rc.f r).toArray] H (.bool true) H' ∧ Keep H H' [] := by
  have key := fnX_low (kn := kn) (lo := lo) (H := H) (args := [.agg (Rc.f r).toArray]) (Q := fun w H' => w = .bool true ∧ Keep H H' []) Try.func36 B36 N36 Z36 L36 (by simp) ?_
  · obtain ⟨w, H', h, rfl, q⟩ := key; exact ⟨H', h, q⟩
  have hk := Keep.refl H []
  have hro := Rc.ok_t hr
  refine wN_seq ?_
  refine wN_box (v := .agg (Rc.f r).toArray) rfl ?_
  intro H1 kH1 nH1 c1
  have c1 : Cl H1 H.next [iv r.un, iv r.s1, iv r.s2, iv r.a1, iv r.a2, iv r.c1, iv r.c2] := c1
  have mH1 := kH1.1
  have hk := hk.trans kH1
  refine wN_mov (v := .bool false) rfl ?_
  refine wN_end ?_
  refine wN_seq ?_
  refine wN_addo (b := H.next) (o := 0) rfl ?_
  refine wN_ld (b := H.next) (o := 0) (v := iv r.un) rfl c1.rd rfl ?_
  refine wN_callB rfl (in50_ok) ?_
  intro tH2 H2 hH2 kH2
  have mH2 := kH2.1
  have hk := hk.trans kH2
  have c1 := kH2.cl c1 (by simp)
  cases tH2
  · exact absurd (show _ from inB_f hH2) (by omega)
  · refine wN_mov (v := .bool true) rfl ?_
    refine wN_g rfl (wN_addo (b := H.next) (o := 0) rfl ?_)
    refine wN_g rfl (wN_lda (b := H.next) (o := 1) rfl c1.rd (show row 2 _ _ = some [iv r.s1, iv r.s2] from rfl) ?_)
    obtain ⟨H3, fH3, kH3⟩ := sp62_ok (kn := kn) (lo := lo) (H := H2) (s := r.s1) (t := r.s2) (a := 0) (c := 10000) (by omega)
    rw [show sp3 r.s1 r.s2 0 10000 = true from by unfold sp3; rw [decide_eq_true (by omega), decide_eq_true (by omega), decide_eq_true (by omega)]; rfl] at fH3
    refine wN_g rfl (wN_callf (vs := [.agg #[iv r.s1, iv r.s2], iv 0, iv 10000]) rfl (callX_args fH3) ?_)
    have mH3 := kH3.1
    have hk := hk.trans kH3
    have c1 := kH3.cl c1 (by simp)
    refine wN_pur (v := .bool true) rfl rfl ?_
    refine wN_mov (v := .bool true) rfl ?_
    refine wN_g rfl (wN_addo (b := H.next) (o := 0) rfl ?_)
    refine wN_g rfl (wN_lda (b := H.next) (o := 3) rfl c1.rd (show row 2 _ _ = some [iv r.a1, iv r.a2] from rfl) ?_)
    obtain ⟨H4, fH4, kH4⟩ := sp62_ok (kn := kn) (lo := lo) (H := H3) (s := r.a1) (t := r.a2) (a := 0) (c := 10000) (by omega)
    rw [show sp3 r.a1 r.a2 0 10000 = true from by unfold sp3; rw [decide_eq_true (by omega), decide_eq_true (by omega), decide_eq_true (by omega)]; rfl] at fH4
    refine wN_g rfl (wN_callf (vs := [.agg #[iv r.a1, iv r.a2], iv 0, iv 10000]) rfl (callX_args fH4) ?_)
    have mH4 := kH4.1
    have hk := hk.trans kH4
    have c1 := kH4.cl c1 (by simp)
    refine wN_pur (v := .bool true) rfl rfl ?_
    refine wN_mov (v := .bool true) rfl ?_
    refine wN_g rfl (wN_addo (b := H.next) (o := 0) rfl ?_)
    refine wN_g rfl (wN_lda (b := H.next) (o := 5) rfl c1.rd (show row 2 _ _ = some [iv r.c1, iv r.c2] from rfl) ?_)
    obtain ⟨H5, fH5, kH5⟩ := sp62_ok (kn := kn) (lo := lo) (H := H4) (s := r.c1) (t := r.c2) (a := 0) (c := 10000) (by omega)
    rw [show sp3 r.c1 r.c2 0 10000 = true from by unfold sp3; rw [decide_eq_true (by omega), decide_eq_true (by omega), decide_eq_true (by omega)]; rfl] at fH5
    refine wN_g rfl (wN_callf (vs := [.agg #[iv r.c1, iv r.c2], iv 0, iv 10000]) rfl (callX_args fH5) ?_)
    have mH5 := kH5.1
    have hk := hk.trans kH5
    have c1 := kH5.cl c1 (by simp)
    refine wN_pur (v := .bool true) rfl rfl ?_
    refine wN_mov (v := .bool true) rfl ?_
    refine wN_end ?_
    exact And.intro trivial (Exists.intro _ (And.intro rfl ⟨rfl, hk⟩))
theorem sm_in {g : Nat → Int} (hb : ∀ i, 0 ≤ g i ∧ g i ≤ 12) : ∀ k, 0 ≤ sm g k ∧ sm g k ≤ 12 * k
  | 0 => by show 0 ≤ (0 : Int) ∧ (0 : Int) ≤ 12 * ((0 : Nat) : Int); omega
  | k + 1 => by
    have a := sm_in hb k; have b := hb k
    show 0 ≤ sm g k + g k ∧ sm g k + g k ≤ 12 * ((k + 1 : Nat) : Int)
    omega
/-- the document's Right -/
theorem right38_ok {g : Nat → Int} {r : Rc} {xa : Option Addr} {xc : Nat} {sa : Option Addr} {cap : Nat} {us : List Tn} (hs : Sl H sa us.length cap (tnc us)) (hx : Sl H xa us.length xc (nf g us.length)) (hb : ∀ i, 0 ≤ g i ∧ g i ≤ 12) (hg : ∀ i, i < us.length → g i ≤ (us.getD i Tn.z).un) (hok : us.all Tn.ok = true) (hr : r.ok = true) (hn2 : us.length ≤ 1000000) (hlo : lo ≤ H.next) :
    ∃ H', FnX Try.prog kn lo 38 [.slice sa us.length cap, .agg (Rc.f r).toArray, .slice xa us.length xc] H (.tuple #[.bool (decide (sm g us.length = r.un) && rigB us r g), iv (cosB us g)]) H' ∧ Keep H H' [] := by
  have key := fnX_low (kn := kn) (lo := lo) (H := H) (args := [.slice sa us.length cap, .agg (Rc.f r).toArray, .slice xa us.length xc]) (Q := fun w H' => w = (.tuple #[.bool (decide (sm g us.length = r.un) && rigB us r g), iv (cosB us g)]) ∧ Keep H H' []) Try.func38 B38 N38 Z38 L38 (by simp) ?_
  · obtain ⟨w, H', h, rfl, q⟩ := key; exact ⟨H', h, q⟩
  have hk := Keep.refl H []
  have fs := hs.old
  have fx := hx.old
  have hs0 := hs
  have hx0 := hx
  have hro := Rc.ok_t hr
  have p_s1 : 0 ≤ r.un * r.s1 := Int.mul_nonneg (by omega) (by omega)
  have q_s1 : r.un * r.s1 ≤ 60 * r.s1 := Int.mul_le_mul_of_nonneg_right (by omega) (by omega)
  have p_s2 : 0 ≤ r.un * r.s2 := Int.mul_nonneg (by omega) (by omega)
  have q_s2 : r.un * r.s2 ≤ 60 * r.s2 := Int.mul_le_mul_of_nonneg_right (by omega) (by omega)
  have p_a1 : 0 ≤ r.un * r.a1 := Int.mul_nonneg (by omega) (by omega)
  have q_a1 : r.un * r.a1 ≤ 60 * r.a1 := Int.mul_le_mul_of_nonneg_right (by omega) (by omega)
  have p_a2 : 0 ≤ r.un * r.a2 := Int.mul_nonneg (by omega) (by omega)
  have q_a2 : r.un * r.a2 ≤ 60 * r.a2 := Int.mul_le_mul_of_nonneg_right (by omega) (by omega)
  have p_c1 : 0 ≤ r.un * r.c1 := Int.mul_nonneg (by omega) (by omega)
  have q_c1 : r.un * r.c1 ≤ 60 * r.c1 := Int.mul_le_mul_of_nonneg_right (by omega) (by omega)
  have p_c2 : 0 ≤ r.un * r.c2 := Int.mul_nonneg (by omega) (by omega)
  have q_c2 : r.un * r.c2 ≤ 60 * r.c2 := Int.mul_le_mul_of_nonneg_right (by omega) (by omega)
  refine wN_seq ?_
  refine wN_box (v := .agg (Rc.f r).toArray) rfl ?_
  intro H1 kH1 nH1 c1
  have c1 : Cl H1 H.next [iv r.un, iv r.s1, iv r.s2, iv r.a1, iv r.a2, iv r.c1, iv r.c2] := c1
  have mH1 := kH1.1
  have hk := hk.trans kH1
  have hs := kH1.sl0 hs
  have hx := kH1.sl0 hx
  refine wN_mov (v := .bool false) rfl ?_
  refine wN_mov (v := iv 0) rfl ?_
  refine wN_end ?_
  refine wN_seq ?_
  refine wN_alc ?_
  intro H2 kH2 nH2 c2
  have c2 : Cl H2 H1.next [iv 0, iv 0, iv 0, iv 0, iv 0] := c2
  have mH2 := kH2.1
  have hk := hk.trans kH2
  have hs := kH2.sl0 hs
  have hx := kH2.sl0 hx
  have c1 := kH2.cl c1 (by simp)
  refine wN_end ?_
  refine wN_seq ?_
  refine wN_mov (v := iv 0) rfl ?_
  refine wN_end ?_
  refine loop_low (fn := Try.f38) E38_1 N38 L38x1 (fun i : Nat => [(0, .slice sa us.length cap), (2, .slice xa us.length xc), (4, pt H.next), (8, pt H1.next), (9, iv (i : Int))])
    (fun k i H' => i + k = us.length ∧ Keep H H' [] ∧ H2.next ≤ H'.next ∧ Sl H' sa us.length cap (tnc us) ∧ Sl H' xa us.length xc (nf g us.length) ∧ Cl H' H.next (Rc.f r) ∧ Cl H' H1.next [iv (sm g i), iv (sumB us g Tn.su i), iv (sumB us g Tn.ac i), iv (sumB us g Tn.co i), iv (sumB us g Tn.pr i)]) us.length 0 ⟨by omega, hk, Nat.le_refl _, hs, hx, c1, c2⟩ ⟨rfl, rfl, rfl, rfl, rfl, trivial⟩ ?_
  rintro k i L1 ⟨hik, hk, hnx, hs, hx, c4, c8⟩
  have mki := hk.1
  have fs := hs0.old
  have fx := hx0.old
  refine wN_seq ?_
  refine wN_mov (v := iv (i : Int)) rfl ?_
  refine wN_mov (v := .slice sa us.length cap) rfl ?_
  refine wN_len (m := us.length) rfl ?_
  refine wN_c_lss (a := (i : Int)) (b := (us.length : Int)) rfl rfl ?_
  refine wN_end ?_
  refine And.intro (fun q1 => ?_) (fun q1 => ?_)
  · have q1 : (i : Int) < (us.length : Int) := of_decide_eq_true q1
    rcases id hs with ⟨_, h0, _⟩ | ⟨sb, es, rs, _⟩
    · omega
    have lsb := rs.lt
    rcases id hx with ⟨_, h0, _⟩ | ⟨xb, ex, rx, _⟩
    · omega
    have lxb := rx.lt
    have lsb0 := fs sb es
    have lxb0 := fx xb ex
    have ht := Tn.ok_t (tn_at hok (show i < us.length by omega))
    have hgi := hb i
    have hgu := hg i (by omega)
    have hsg := sm_in hb i
    have s_su := sumB_in (f := Tn.su) (m := 10000) hb (by decide) (fun i hi => by have z := Tn.ok_t (tn_at hok hi); exact ⟨by omega, by omega⟩) i (by omega)
    have p_su : 0 ≤ g i * (us.getD i Tn.z).su := Int.mul_nonneg hgi.1 (by omega)
    have l_su : g i * (us.getD i Tn.z).su ≤ 12 * (us.getD i Tn.z).su := Int.mul_le_mul_of_nonneg_right hgi.2 (by omega)
    have s_ac := sumB_in (f := Tn.ac) (m := 10000) hb (by decide) (fun i hi => by have z := Tn.ok_t (tn_at hok hi); exact ⟨by omega, by omega⟩) i (by omega)
    have p_ac : 0 ≤ g i * (us.getD i Tn.z).ac := Int.mul_nonneg hgi.1 (by omega)
    have l_ac : g i * (us.getD i Tn.z).ac ≤ 12 * (us.getD i Tn.z).ac := Int.mul_le_mul_of_nonneg_right hgi.2 (by omega)
    have s_co := sumB_in (f := Tn.co) (m := 10000) hb (by decide) (fun i hi => by have z := Tn.ok_t (tn_at hok hi); exact ⟨by omega, by omega⟩) i (by omega)
    have p_co : 0 ≤ g i * (us.getD i Tn.z).co := Int.mul_nonneg hgi.1 (by omega)
    have l_co : g i * (us.getD i Tn.z).co ≤ 12 * (us.getD i Tn.z).co := Int.mul_le_mul_of_nonneg_right hgi.2 (by omega)
    have s_pr := sumB_in (f := Tn.pr) (m := 1048576) hb (by decide) (fun i hi => by have z := Tn.ok_t (tn_at hok hi); exact ⟨by omega, by omega⟩) i (by omega)
    have p_pr : 0 ≤ g i * (us.getD i Tn.z).pr := Int.mul_nonneg hgi.1 (by omega)
    have l_pr : g i * (us.getD i Tn.z).pr ≤ 12 * (us.getD i Tn.z).pr := Int.mul_le_mul_of_nonneg_right hgi.2 (by omega)
    first | refine wN_skip ?_ | skip
    refine wD_seq ?_
    refine wD_mov (v := .slice xa us.length xc) rfl ?_
    refine wD_mov (v := iv (i : Int)) rfl ?_
    refine wD_idx (b := xb) (o := 0) (k := i) (j := (i : Int)) (by rw [← ex]; rfl) rfl rfl (by omega) ?_
    refine wD_ld (b := xb) (o := 0 + i * 1) (v := iv (g i)) rfl rx (nf_at (by omega)) ?_
    refine wD_b_lss (a := (g i)) (b := 0) rfl rfl ?_
    intro t2 g2; cases t2
    · have g2 : ¬ ((g i) < 0) := of_decide_eq_false g2
      refine wD_mov (v := .bool false) rfl ?_
      refine wD_g rfl (wD_mov (v := .slice xa us.length xc) rfl ?_)
      refine wD_g rfl (wD_mov (v := iv (i : Int)) rfl ?_)
      refine wD_g rfl (wD_idx (b := xb) (o := 0) (k := i) (j := (i : Int)) (by rw [← ex]; rfl) rfl rfl (by omega) ?_)
      refine wD_g rfl (wD_ld (b := xb) (o := 0 + i * 1) (v := iv (g i)) rfl rx (nf_at (by omega)) ?_)
      refine wD_g rfl (wD_mov (v := .slice sa us.length cap) rfl ?_)
      refine wD_g rfl (wD_mov (v := iv (i : Int)) rfl ?_)
      refine wD_g rfl (wD_idx (b := sb) (o := 0) (k := i) (j := (i : Int)) (by rw [← es]; rfl) rfl rfl (by omega) ?_)
      refine wD_g rfl (wD_addo (b := sb) (o := 0 + i * 5) rfl ?_)
      refine wD_g rfl (wD_ld (b := sb) (o := 0 + i * 5) (v := iv ((us.getD i Tn.z).un)) rfl rs (tnc_atF (j := 0) (by omega) rfl) ?_)
      refine wD_g rfl (wD_b_gtr (a := (g i)) (b := (us.getD i Tn.z).un) rfl rfl ?_)
      intro t3 g3; cases t3
      · have g3 : ¬ ((g i) > ((us.getD i Tn.z).un)) := of_decide_eq_false g3
        refine wD_pur (v := .bool false) rfl rfl ?_
        refine wD_end (by repeat' first | exact True.intro | exact (fun h => h) | refine And.intro ?_ ?_ | (intro h; have h : (_ : Nat) = _ := h; omega)) ?_
        refine condF ?_
        first | refine wN_skip ?_ | skip
        first | refine wD_dreg ?_ | refine wB_dreg ?_ | refine wB_seq ?_ | (refine wOps_nil ?_; refine wD_dreg ?_)
        refine wD_addo (b := H1.next) (o := 0) rfl ?_
        refine wD_ld (b := H1.next) (o := 0) (v := iv (sm g i)) rfl c8.rd rfl ?_
        refine wD_mov (v := .slice xa us.length xc) rfl ?_
        refine wD_mov (v := iv (i : Int)) rfl ?_
        refine wD_idx (b := xb) (o := 0) (k := i) (j := (i : Int)) (by rw [← ex]; rfl) rfl rfl (by omega) ?_
        refine wD_ld (b := xb) (o := 0 + i * 1) (v := iv (g i)) rfl rx (nf_at (by omega)) ?_
        refine wD_add (a := (sm g i)) (b := (g i)) rfl rfl ⟨by omega, by omega⟩ ?_
        refine wD_addo (b := H1.next) (o := 0) rfl ?_
        refine wD_ld (b := H1.next) (o := 1) (v := iv (sumB us g Tn.su i)) rfl c8.rd rfl ?_
        refine wD_mov (v := .slice xa us.length xc) rfl ?_
        refine wD_mov (v := iv (i : Int)) rfl ?_
        refine wD_idx (b := xb) (o := 0) (k := i) (j := (i : Int)) (by rw [← ex]; rfl) rfl rfl (by omega) ?_
        refine wD_ld (b := xb) (o := 0 + i * 1) (v := iv (g i)) rfl rx (nf_at (by omega)) ?_
        refine wD_mov (v := .slice sa us.length cap) rfl ?_
        refine wD_mov (v := iv (i : Int)) rfl ?_
        refine wD_idx (b := sb) (o := 0) (k := i) (j := (i : Int)) (by rw [← es]; rfl) rfl rfl (by omega) ?_
        refine wD_addo (b := sb) (o := 0 + i * 5) rfl ?_
        refine wD_ld (b := sb) (o := 0 + i * 5 + 1) (v := iv ((us.getD i Tn.z).su)) rfl rs (tnc_atF (j := 1) (by omega) rfl) ?_
        refine wD_mul (a := (g i)) (b := (us.getD i Tn.z).su) rfl rfl ⟨by omega, by omega⟩ ?_
        refine wD_add (a := (sumB us g Tn.su i)) (b := (g i) * ((us.getD i Tn.z).su)) rfl rfl ⟨by omega, by omega⟩ ?_
        refine wD_addo (b := H1.next) (o := 0) rfl ?_
        refine wD_ld (b := H1.next) (o := 2) (v := iv (sumB us g Tn.ac i)) rfl c8.rd rfl ?_
        refine wD_mov (v := .slice xa us.length xc) rfl ?_
        refine wD_mov (v := iv (i : Int)) rfl ?_
        refine wD_idx (b := xb) (o := 0) (k := i) (j := (i : Int)) (by rw [← ex]; rfl) rfl rfl (by omega) ?_
        refine wD_ld (b := xb) (o := 0 + i * 1) (v := iv (g i)) rfl rx (nf_at (by omega)) ?_
        refine wD_mov (v := .slice sa us.length cap) rfl ?_
        refine wD_mov (v := iv (i : Int)) rfl ?_
        refine wD_idx (b := sb) (o := 0) (k := i) (j := (i : Int)) (by rw [← es]; rfl) rfl rfl (by omega) ?_
        refine wD_addo (b := sb) (o := 0 + i * 5) rfl ?_
        refine wD_ld (b := sb) (o := 0 + i * 5 + 2) (v := iv ((us.getD i Tn.z).ac)) rfl rs (tnc_atF (j := 2) (by omega) rfl) ?_
        refine wD_mul (a := (g i)) (b := (us.getD i Tn.z).ac) rfl rfl ⟨by omega, by omega⟩ ?_
        refine wD_add (a := (sumB us g Tn.ac i)) (b := (g i) * ((us.getD i Tn.z).ac)) rfl rfl ⟨by omega, by omega⟩ ?_
        refine wD_addo (b := H1.next) (o := 0) rfl ?_
        refine wD_ld (b := H1.next) (o := 3) (v := iv (sumB us g Tn.co i)) rfl c8.rd rfl ?_
        refine wD_mov (v := .slice xa us.length xc) rfl ?_
        refine wD_mov (v := iv (i : Int)) rfl ?_
        refine wD_idx (b := xb) (o := 0) (k := i) (j := (i : Int)) (by rw [← ex]; rfl) rfl rfl (by omega) ?_
        refine wD_ld (b := xb) (o := 0 + i * 1) (v := iv (g i)) rfl rx (nf_at (by omega)) ?_
        refine wD_mov (v := .slice sa us.length cap) rfl ?_
        refine wD_mov (v := iv (i : Int)) rfl ?_
        refine wD_idx (b := sb) (o := 0) (k := i) (j := (i : Int)) (by rw [← es]; rfl) rfl rfl (by omega) ?_
        refine wD_addo (b := sb) (o := 0 + i * 5) rfl ?_
        refine wD_ld (b := sb) (o := 0 + i * 5 + 3) (v := iv ((us.getD i Tn.z).co)) rfl rs (tnc_atF (j := 3) (by omega) rfl) ?_
        refine wD_mul (a := (g i)) (b := (us.getD i Tn.z).co) rfl rfl ⟨by omega, by omega⟩ ?_
        refine wD_add (a := (sumB us g Tn.co i)) (b := (g i) * ((us.getD i Tn.z).co)) rfl rfl ⟨by omega, by omega⟩ ?_
        refine wD_addo (b := H1.next) (o := 0) rfl ?_
        refine wD_ld (b := H1.next) (o := 4) (v := iv (sumB us g Tn.pr i)) rfl c8.rd rfl ?_
        refine wD_mov (v := .slice xa us.length xc) rfl ?_
        refine wD_mov (v := iv (i : Int)) rfl ?_
        refine wD_idx (b := xb) (o := 0) (k := i) (j := (i : Int)) (by rw [← ex]; rfl) rfl rfl (by omega) ?_
        refine wD_ld (b := xb) (o := 0 + i * 1) (v := iv (g i)) rfl rx (nf_at (by omega)) ?_
        refine wD_mov (v := .slice sa us.length cap) rfl ?_
        refine wD_mov (v := iv (i : Int)) rfl ?_
        refine wD_idx (b := sb) (o := 0) (k := i) (j := (i : Int)) (by rw [← es]; rfl) rfl rfl (by omega) ?_
        refine wD_addo (b := sb) (o := 0 + i * 5) rfl ?_
        refine wD_ld (b := sb) (o := 0 + i * 5 + 4) (v := iv ((us.getD i Tn.z).pr)) rfl rs (tnc_atF (j := 4) (by omega) rfl) ?_
        refine wD_mul (a := (g i)) (b := (us.getD i Tn.z).pr) rfl rfl ⟨by omega, by omega⟩ ?_
        refine wD_add (a := (sumB us g Tn.pr i)) (b := (g i) * ((us.getD i Tn.z).pr)) rfl rfl ⟨by omega, by omega⟩ ?_
        refine wD_pur (v := .agg #[iv ((sm g i) + (g i)), iv ((sumB us g Tn.su i) + ((g i) * ((us.getD i Tn.z).su))), iv ((sumB us g Tn.ac i) + ((g i) * ((us.getD i Tn.z).ac))), iv ((sumB us g Tn.co i) + ((g i) * ((us.getD i Tn.z).co))), iv ((sumB us g Tn.pr i) + ((g i) * ((us.getD i Tn.z).pr)))]) rfl (by kernel_rfl) ?_
        refine wD_sta (b := H1.next) (o := 0) rfl rfl c8 (by omega) rfl rfl (by simp) ?_
        intro H3 kH3 nH3 sH3
        have mH3 := kH3.1
        have hk := hk.new kH3 (fun b hb => by simp at hb ⊢; omega)
        have hs := kH3.sl hs (fun b e => by have := fs b e; first | (simp; done) | (simp; omega))
        have hx := kH3.sl hx (fun b e => by have := fx b e; first | (simp; done) | (simp; omega))
        have c4 := kH3.cl c4 (by first | (simp; done) | (simp; omega))
        have rs := kH3.rd rs (by first | (simp; done) | (simp; omega))
        have rx := kH3.rd rx (by first | (simp; done) | (simp; omega))
        have c8 : Cl H3 H1.next [iv ((sm g i) + (g i)), iv ((sumB us g Tn.su i) + ((g i) * ((us.getD i Tn.z).su))), iv ((sumB us g Tn.ac i) + ((g i) * ((us.getD i Tn.z).ac))), iv ((sumB us g Tn.co i) + ((g i) * ((us.getD i Tn.z).co))), iv ((sumB us g Tn.pr i) + ((g i) * ((us.getD i Tn.z).pr)))] := sH3
        refine wD_end (by repeat' first | exact True.intro | exact (fun h => h) | refine And.intro ?_ ?_ | (intro h; have h : (_ : Nat) = _ := h; omega)) ?_
        first | refine wN_reg ?_ | refine wN_blk ?_ | refine wN_bseq ?_ | (refine wOps_nil ?_; refine wN_reg ?_)
        refine wN_mov (v := iv (i : Int)) rfl ?_
        refine wN_add (a := (i : Int)) (b := 1) rfl rfl ⟨by omega, by omega⟩ ?_
        refine wN_mov (v := iv ((i : Int) + 1)) rfl ?_
        refine wN_end ?_
        exact ⟨k - 1, i + 1, by omega, ⟨by omega, hk, by omega, hs, hx, c4, c8⟩, rfl, rfl, rfl, rfl, rfl, trivial⟩
      · have g3 : (g i) > ((us.getD i Tn.z).un) := of_decide_eq_true g3
        omega
    · have g2 : (g i) < 0 := of_decide_eq_true g2
      omega
  · have q1 : ¬ ((i : Int) < (us.length : Int)) := of_decide_eq_false q1
    have ei : i = us.length := by omega
    subst ei
    first | (refine wN_exit ?_; show wC _ _ _ _ _ _ _ _ _) | skip
    refine wN_seq ?_
    refine wN_addo (b := H1.next) (o := 0) rfl ?_
    refine wN_ld (b := H1.next) (o := 0) (v := iv (sm g us.length)) rfl c8.rd rfl ?_
    refine wN_addo (b := H.next) (o := 0) rfl ?_
    refine wN_ld (b := H.next) (o := 0) (v := iv r.un) rfl c4.rd rfl ?_
    refine wN_b_eql (a := (sm g us.length)) (b := r.un) rfl rfl ?_
    intro t4 g4; cases t4
    · have g4 : ¬ ((sm g us.length) = r.un) := by simpa using g4
      refine wN_mov (v := .bool false) rfl ?_
      refine wN_gs rfl ?_
      refine wN_gs rfl ?_
      refine wN_gs rfl ?_
      refine wN_gs rfl ?_
      refine wN_gs rfl ?_
      refine wN_gs rfl ?_
      refine wN_gs rfl ?_
      refine wN_gs rfl ?_
      refine wN_gs rfl ?_
      refine wN_gs rfl ?_
      refine wN_gs rfl ?_
      refine wN_gs rfl ?_
      refine wN_gs rfl ?_
      refine wN_gs rfl ?_
      refine wN_gs rfl ?_
      refine wN_gs rfl ?_
      refine wN_gs rfl ?_
      refine wN_gs rfl ?_
      refine wN_pur (v := .bool false) rfl rfl ?_
      refine wN_mov (v := .bool false) rfl ?_
      refine wN_end ?_
      refine wN_seq ?_
      refine wN_mov (v := .bool false) rfl ?_
      refine wN_mov (v := .bool false) rfl ?_
      refine wN_gs rfl ?_
      refine wN_gs rfl ?_
      refine wN_gs rfl ?_
      refine wN_gs rfl ?_
      refine wN_gs rfl ?_
      refine wN_gs rfl ?_
      refine wN_gs rfl ?_
      refine wN_gs rfl ?_
      refine wN_gs rfl ?_
      refine wN_gs rfl ?_
      refine wN_gs rfl ?_
      refine wN_gs rfl ?_
      refine wN_gs rfl ?_
      refine wN_gs rfl ?_
      refine wN_gs rfl ?_
      refine wN_gs rfl ?_
      refine wN_gs rfl ?_
      refine wN_gs rfl ?_
      refine wN_pur (v := .bool false) rfl rfl ?_
      refine wN_mov (v := .bool false) rfl ?_
      refine wN_end ?_
      refine wD_seq ?_
      refine wD_mov (v := .bool false) rfl ?_
      refine wD_mov (v := .bool false) rfl ?_
      refine wD_gs rfl ?_
      refine wD_gs rfl ?_
      refine wD_gs rfl ?_
      refine wD_gs rfl ?_
      refine wD_gs rfl ?_
      refine wD_gs rfl ?_
      refine wD_gs rfl ?_
      refine wD_gs rfl ?_
      refine wD_gs rfl ?_
      refine wD_gs rfl ?_
      refine wD_gs rfl ?_
      refine wD_gs rfl ?_
      refine wD_gs rfl ?_
      refine wD_gs rfl ?_
      refine wD_gs rfl ?_
      refine wD_gs rfl ?_
      refine wD_gs rfl ?_
      refine wD_gs rfl ?_
      refine wD_pur (v := .bool false) rfl rfl ?_
      refine wD_addo (b := H1.next) (o := 0) rfl ?_
      refine wD_ld (b := H1.next) (o := 4) (v := iv (sumB us g Tn.pr us.length)) rfl c8.rd rfl ?_
      refine wD_mov (v := .bool false) rfl ?_
      refine wD_mov (v := iv (sumB us g Tn.pr us.length)) rfl ?_
      refine wD_end (by repeat' first | exact True.intro | exact (fun h => h) | refine And.intro ?_ ?_ | (intro h; have h : (_ : Nat) = _ := h; omega)) ?_
      have ev : (decide (sm g us.length = r.un) && rigB us r g) = false := by first | (rw [decide_eq_false (by omega)]; rfl) | (rw [decide_eq_true (by omega)]; unfold rigB; simp only [*]; rfl)
      exact And.intro trivial (Exists.intro _ (And.intro rfl ⟨by rw [ev]; rfl, hk⟩))
    · have g4 : (sm g us.length) = r.un := by simpa using g4
      refine wN_mov (v := .bool true) rfl ?_
      refine wN_g rfl (wN_addo (b := H1.next) (o := 0) rfl ?_)
      refine wN_g rfl (wN_ld (b := H1.next) (o := 1) (v := iv (sumB us g Tn.su us.length)) rfl c8.rd rfl ?_)
      refine wN_g rfl (wN_addo (b := H1.next) (o := 0) rfl ?_)
      refine wN_g rfl (wN_ld (b := H1.next) (o := 1) (v := iv (sumB us g Tn.su us.length)) rfl c8.rd rfl ?_)
      refine wN_g rfl (wN_pur (v := .agg #[iv (sumB us g Tn.su us.length), iv (sumB us g Tn.su us.length)]) rfl (by kernel_rfl) ?_)
      refine wN_g rfl (wN_addo (b := H.next) (o := 0) rfl ?_)
      refine wN_g rfl (wN_ld (b := H.next) (o := 0) (v := iv r.un) rfl c4.rd rfl ?_)
      refine wN_g rfl (wN_addo (b := H.next) (o := 0) rfl ?_)
      refine wN_g rfl (wN_addo (b := H.next) (o := 1) rfl ?_)
      refine wN_g rfl (wN_ld (b := H.next) (o := 1) (v := iv r.s1) rfl c4.rd rfl ?_)
      refine wN_g rfl (wN_mul (a := r.un) (b := r.s1) rfl rfl ⟨by omega, by omega⟩ ?_)
      refine wN_g rfl (wN_addo (b := H.next) (o := 0) rfl ?_)
      refine wN_g rfl (wN_ld (b := H.next) (o := 0) (v := iv r.un) rfl c4.rd rfl ?_)
      refine wN_g rfl (wN_addo (b := H.next) (o := 0) rfl ?_)
      refine wN_g rfl (wN_addo (b := H.next) (o := 1) rfl ?_)
      refine wN_g rfl (wN_ld (b := H.next) (o := 2) (v := iv r.s2) rfl c4.rd rfl ?_)
      refine wN_g rfl (wN_mul (a := r.un) (b := r.s2) rfl rfl ⟨by omega, by omega⟩ ?_)
      obtain ⟨H4, fH4, kH4⟩ := sp62_ok (kn := kn) (lo := lo) (H := L1) (s := (sumB us g Tn.su us.length)) (t := (sumB us g Tn.su us.length)) (a := r.un * r.s1) (c := r.un * r.s2) (by omega)
      rw [sp3_mix] at fH4
      have mH4 := kH4.1
      have hk := hk.trans kH4
      have hs := kH4.sl0 hs
      have hx := kH4.sl0 hx
      have c4 := kH4.cl c4 (by simp)
      have c8 := kH4.cl c8 (by simp)
      cases hm117 : mixB (sumB us g Tn.su us.length) r.un r.s1 r.s2
      · rw [hm117] at fH4
        refine wN_g rfl (wN_callf (vs := [.agg #[iv (sumB us g Tn.su us.length), iv (sumB us g Tn.su us.length)], iv (r.un * r.s1), iv (r.un * r.s2)]) rfl (callX_args fH4) ?_)
        refine wN_pur (v := .bool false) rfl rfl ?_
        refine wN_mov (v := .bool false) rfl ?_
        refine wN_end ?_
        refine wN_seq ?_
        refine wN_mov (v := .bool false) rfl ?_
        refine wN_mov (v := .bool false) rfl ?_
        refine wN_gs rfl ?_
        refine wN_gs rfl ?_
        refine wN_gs rfl ?_
        refine wN_gs rfl ?_
        refine wN_gs rfl ?_
        refine wN_gs rfl ?_
        refine wN_gs rfl ?_
        refine wN_gs rfl ?_
        refine wN_gs rfl ?_
        refine wN_gs rfl ?_
        refine wN_gs rfl ?_
        refine wN_gs rfl ?_
        refine wN_gs rfl ?_
        refine wN_gs rfl ?_
        refine wN_gs rfl ?_
        refine wN_gs rfl ?_
        refine wN_gs rfl ?_
        refine wN_gs rfl ?_
        refine wN_pur (v := .bool false) rfl rfl ?_
        refine wN_mov (v := .bool false) rfl ?_
        refine wN_end ?_
        refine wD_seq ?_
        refine wD_mov (v := .bool false) rfl ?_
        refine wD_mov (v := .bool false) rfl ?_
        refine wD_gs rfl ?_
        refine wD_gs rfl ?_
        refine wD_gs rfl ?_
        refine wD_gs rfl ?_
        refine wD_gs rfl ?_
        refine wD_gs rfl ?_
        refine wD_gs rfl ?_
        refine wD_gs rfl ?_
        refine wD_gs rfl ?_
        refine wD_gs rfl ?_
        refine wD_gs rfl ?_
        refine wD_gs rfl ?_
        refine wD_gs rfl ?_
        refine wD_gs rfl ?_
        refine wD_gs rfl ?_
        refine wD_gs rfl ?_
        refine wD_gs rfl ?_
        refine wD_gs rfl ?_
        refine wD_pur (v := .bool false) rfl rfl ?_
        refine wD_addo (b := H1.next) (o := 0) rfl ?_
        refine wD_ld (b := H1.next) (o := 4) (v := iv (sumB us g Tn.pr us.length)) rfl c8.rd rfl ?_
        refine wD_mov (v := .bool false) rfl ?_
        refine wD_mov (v := iv (sumB us g Tn.pr us.length)) rfl ?_
        refine wD_end (by repeat' first | exact True.intro | exact (fun h => h) | refine And.intro ?_ ?_ | (intro h; have h : (_ : Nat) = _ := h; omega)) ?_
        have ev : (decide (sm g us.length = r.un) && rigB us r g) = false := by first | (rw [decide_eq_false (by omega)]; rfl) | (rw [decide_eq_true (by omega)]; unfold rigB; simp only [*]; rfl)
        exact And.intro trivial (Exists.intro _ (And.intro rfl ⟨by rw [ev]; rfl, hk⟩))
      · rw [hm117] at fH4
        refine wN_g rfl (wN_callf (vs := [.agg #[iv (sumB us g Tn.su us.length), iv (sumB us g Tn.su us.length)], iv (r.un * r.s1), iv (r.un * r.s2)]) rfl (callX_args fH4) ?_)
        refine wN_pur (v := .bool true) rfl rfl ?_
        refine wN_mov (v := .bool true) rfl ?_
        refine wN_end ?_
        refine wN_seq ?_
        refine wN_mov (v := .bool true) rfl ?_
        refine wN_mov (v := .bool true) rfl ?_
        refine wN_g rfl (wN_addo (b := H1.next) (o := 0) rfl ?_)
        refine wN_g rfl (wN_ld (b := H1.next) (o := 2) (v := iv (sumB us g Tn.ac us.length)) rfl c8.rd rfl ?_)
        refine wN_g rfl (wN_addo (b := H1.next) (o := 0) rfl ?_)
        refine wN_g rfl (wN_ld (b := H1.next) (o := 2) (v := iv (sumB us g Tn.ac us.length)) rfl c8.rd rfl ?_)
        refine wN_g rfl (wN_pur (v := .agg #[iv (sumB us g Tn.ac us.length), iv (sumB us g Tn.ac us.length)]) rfl (by kernel_rfl) ?_)
        refine wN_g rfl (wN_addo (b := H.next) (o := 0) rfl ?_)
        refine wN_g rfl (wN_ld (b := H.next) (o := 0) (v := iv r.un) rfl c4.rd rfl ?_)
        refine wN_g rfl (wN_addo (b := H.next) (o := 0) rfl ?_)
        refine wN_g rfl (wN_addo (b := H.next) (o := 3) rfl ?_)
        refine wN_g rfl (wN_ld (b := H.next) (o := 3) (v := iv r.a1) rfl c4.rd rfl ?_)
        refine wN_g rfl (wN_mul (a := r.un) (b := r.a1) rfl rfl ⟨by omega, by omega⟩ ?_)
        refine wN_g rfl (wN_addo (b := H.next) (o := 0) rfl ?_)
        refine wN_g rfl (wN_ld (b := H.next) (o := 0) (v := iv r.un) rfl c4.rd rfl ?_)
        refine wN_g rfl (wN_addo (b := H.next) (o := 0) rfl ?_)
        refine wN_g rfl (wN_addo (b := H.next) (o := 3) rfl ?_)
        refine wN_g rfl (wN_ld (b := H.next) (o := 4) (v := iv r.a2) rfl c4.rd rfl ?_)
        refine wN_g rfl (wN_mul (a := r.un) (b := r.a2) rfl rfl ⟨by omega, by omega⟩ ?_)
        obtain ⟨H5, fH5, kH5⟩ := sp62_ok (kn := kn) (lo := lo) (H := H4) (s := (sumB us g Tn.ac us.length)) (t := (sumB us g Tn.ac us.length)) (a := r.un * r.a1) (c := r.un * r.a2) (by omega)
        rw [sp3_mix] at fH5
        have mH5 := kH5.1
        have hk := hk.trans kH5
        have hs := kH5.sl0 hs
        have hx := kH5.sl0 hx
        have c4 := kH5.cl c4 (by simp)
        have c8 := kH5.cl c8 (by simp)
        cases hm138 : mixB (sumB us g Tn.ac us.length) r.un r.a1 r.a2
        · rw [hm138] at fH5
          refine wN_g rfl (wN_callf (vs := [.agg #[iv (sumB us g Tn.ac us.length), iv (sumB us g Tn.ac us.length)], iv (r.un * r.a1), iv (r.un * r.a2)]) rfl (callX_args fH5) ?_)
          refine wN_pur (v := .bool false) rfl rfl ?_
          refine wN_mov (v := .bool false) rfl ?_
          refine wN_end ?_
          refine wD_seq ?_
          refine wD_mov (v := .bool false) rfl ?_
          refine wD_mov (v := .bool false) rfl ?_
          refine wD_gs rfl ?_
          refine wD_gs rfl ?_
          refine wD_gs rfl ?_
          refine wD_gs rfl ?_
          refine wD_gs rfl ?_
          refine wD_gs rfl ?_
          refine wD_gs rfl ?_
          refine wD_gs rfl ?_
          refine wD_gs rfl ?_
          refine wD_gs rfl ?_
          refine wD_gs rfl ?_
          refine wD_gs rfl ?_
          refine wD_gs rfl ?_
          refine wD_gs rfl ?_
          refine wD_gs rfl ?_
          refine wD_gs rfl ?_
          refine wD_gs rfl ?_
          refine wD_gs rfl ?_
          refine wD_pur (v := .bool false) rfl rfl ?_
          refine wD_addo (b := H1.next) (o := 0) rfl ?_
          refine wD_ld (b := H1.next) (o := 4) (v := iv (sumB us g Tn.pr us.length)) rfl c8.rd rfl ?_
          refine wD_mov (v := .bool false) rfl ?_
          refine wD_mov (v := iv (sumB us g Tn.pr us.length)) rfl ?_
          refine wD_end (by repeat' first | exact True.intro | exact (fun h => h) | refine And.intro ?_ ?_ | (intro h; have h : (_ : Nat) = _ := h; omega)) ?_
          have ev : (decide (sm g us.length = r.un) && rigB us r g) = false := by first | (rw [decide_eq_false (by omega)]; rfl) | (rw [decide_eq_true (by omega)]; unfold rigB; simp only [*]; rfl)
          exact And.intro trivial (Exists.intro _ (And.intro rfl ⟨by rw [ev]; rfl, hk⟩))
        · rw [hm138] at fH5
          refine wN_g rfl (wN_callf (vs := [.agg #[iv (sumB us g Tn.ac us.length), iv (sumB us g Tn.ac us.length)], iv (r.un * r.a1), iv (r.un * r.a2)]) rfl (callX_args fH5) ?_)
          refine wN_pur (v := .bool true) rfl rfl ?_
          refine wN_mov (v := .bool true) rfl ?_
          refine wN_end ?_
          refine wD_seq ?_
          refine wD_mov (v := .bool true) rfl ?_
          refine wD_mov (v := .bool true) rfl ?_
          refine wD_g rfl (wD_addo (b := H1.next) (o := 0) rfl ?_)
          refine wD_g rfl (wD_ld (b := H1.next) (o := 3) (v := iv (sumB us g Tn.co us.length)) rfl c8.rd rfl ?_)
          refine wD_g rfl (wD_addo (b := H1.next) (o := 0) rfl ?_)
          refine wD_g rfl (wD_ld (b := H1.next) (o := 3) (v := iv (sumB us g Tn.co us.length)) rfl c8.rd rfl ?_)
          refine wD_g rfl (wD_pur (v := .agg #[iv (sumB us g Tn.co us.length), iv (sumB us g Tn.co us.length)]) rfl (by kernel_rfl) ?_)
          refine wD_g rfl (wD_addo (b := H.next) (o := 0) rfl ?_)
          refine wD_g rfl (wD_ld (b := H.next) (o := 0) (v := iv r.un) rfl c4.rd rfl ?_)
          refine wD_g rfl (wD_addo (b := H.next) (o := 0) rfl ?_)
          refine wD_g rfl (wD_addo (b := H.next) (o := 5) rfl ?_)
          refine wD_g rfl (wD_ld (b := H.next) (o := 5) (v := iv r.c1) rfl c4.rd rfl ?_)
          refine wD_g rfl (wD_mul (a := r.un) (b := r.c1) rfl rfl ⟨by omega, by omega⟩ ?_)
          refine wD_g rfl (wD_addo (b := H.next) (o := 0) rfl ?_)
          refine wD_g rfl (wD_ld (b := H.next) (o := 0) (v := iv r.un) rfl c4.rd rfl ?_)
          refine wD_g rfl (wD_addo (b := H.next) (o := 0) rfl ?_)
          refine wD_g rfl (wD_addo (b := H.next) (o := 5) rfl ?_)
          refine wD_g rfl (wD_ld (b := H.next) (o := 6) (v := iv r.c2) rfl c4.rd rfl ?_)
          refine wD_g rfl (wD_mul (a := r.un) (b := r.c2) rfl rfl ⟨by omega, by omega⟩ ?_)
          obtain ⟨H6, fH6, kH6⟩ := sp62_ok (kn := kn) (lo := H5.next) (H := H5) (s := (sumB us g Tn.co us.length)) (t := (sumB us g Tn.co us.length)) (a := r.un * r.c1) (c := r.un * r.c2) (by omega)
          rw [sp3_mix] at fH6
          have mH6 := kH6.1
          have hk := hk.trans kH6
          have hs := kH6.sl0 hs
          have hx := kH6.sl0 hx
          have c4 := kH6.cl c4 (by simp)
          have c8 := kH6.cl c8 (by simp)
          cases hm159 : mixB (sumB us g Tn.co us.length) r.un r.c1 r.c2
          · rw [hm159] at fH6
            refine wD_g rfl (wD_callh (vs := [.agg #[iv (sumB us g Tn.co us.length), iv (sumB us g Tn.co us.length)], iv (r.un * r.c1), iv (r.un * r.c2)]) rfl rfl (callX_args fH6) ?_)
            refine wD_pur (v := .bool false) rfl rfl ?_
            refine wD_addo (b := H1.next) (o := 0) rfl ?_
            refine wD_ld (b := H1.next) (o := 4) (v := iv (sumB us g Tn.pr us.length)) rfl c8.rd rfl ?_
            refine wD_mov (v := .bool false) rfl ?_
            refine wD_mov (v := iv (sumB us g Tn.pr us.length)) rfl ?_
            refine wD_end (by repeat' first | exact True.intro | exact (fun h => h) | refine And.intro ?_ ?_ | (intro h; have h : (_ : Nat) = _ := h; omega)) ?_
            have ev : (decide (sm g us.length = r.un) && rigB us r g) = false := by first | (rw [decide_eq_false (by omega)]; rfl) | (rw [decide_eq_true (by omega)]; unfold rigB; simp only [*]; rfl)
            exact And.intro trivial (Exists.intro _ (And.intro rfl ⟨by rw [ev]; rfl, hk⟩))
          · rw [hm159] at fH6
            refine wD_g rfl (wD_callh (vs := [.agg #[iv (sumB us g Tn.co us.length), iv (sumB us g Tn.co us.length)], iv (r.un * r.c1), iv (r.un * r.c2)]) rfl rfl (callX_args fH6) ?_)
            refine wD_pur (v := .bool true) rfl rfl ?_
            refine wD_addo (b := H1.next) (o := 0) rfl ?_
            refine wD_ld (b := H1.next) (o := 4) (v := iv (sumB us g Tn.pr us.length)) rfl c8.rd rfl ?_
            refine wD_mov (v := .bool true) rfl ?_
            refine wD_mov (v := iv (sumB us g Tn.pr us.length)) rfl ?_
            refine wD_end (by repeat' first | exact True.intro | exact (fun h => h) | refine And.intro ?_ ?_ | (intro h; have h : (_ : Nat) = _ := h; omega)) ?_
            have ev : (decide (sm g us.length = r.un) && rigB us r g) = true := by first | (rw [decide_eq_false (by omega)]; rfl) | (rw [decide_eq_true (by omega)]; unfold rigB; simp only [*]; rfl)
            exact And.intro trivial (Exists.intro _ (And.intro rfl ⟨by rw [ev]; rfl, hk⟩))
end
end Go.Ax

/-
  Plant: some blend; the law PlantCheapest (written by program).
-/
namespace Go.Ax
open Go Go.RowKit Go.Proofs

def u8c (l : List Nat) : List Value := l.map fun (n : Nat) => Value.int .u8 ((n : Nat) : Int)
theorem u8_get {us : List Nat} {i : Nat} (h : i < us.length) : (u8c us)[0 + i * 1]? = some (.int .u8 ((us.getD i 0 : Nat) : Int)) := by
  rw [Nat.zero_add, Nat.mul_one]; simp [u8c, List.getD, h]
theorem u8_flat (l : List Nat) : l.flatMap (fun n : Nat => [Value.int .u8 (n : Int)]) = u8c l := by
  induction l with
  | nil => rfl
  | cons x l ih => rw [List.flatMap_cons, ih]; rfl
theorem u8_le {us : List Nat} (h : ∀ n ∈ us, n ≤ 255) (i : Nat) : us.getD i 0 ≤ 255 := by
  rw [List.getD_eq_getElem?_getD]
  cases e : us[i]? with
  | none => exact Nat.zero_le _
  | some y => exact h y (List.mem_of_getElem? e)
theorem conv_5 (x : Int) (h1 : 0 ≤ x) (h2 : x ≤ 255) {S : Rg} {n : Nat} {o : Operand} {d : Option Nat} (hx : evS S o = some (.int .u8 x)) : pureOp Try.prog (frS n S) ⟨d, .convert 5 3 o, 3, "", #[], none⟩ = some (iv x) := by
  have e : ∀ y : Int, prun Try.prog (Go.convert 5 3 (.int .u8 y)) = some (.int .i64 (IntKind.i64.wrap y)) := fun y => by kernel_rfl
  unfold pureOp
  simp only [ev_frS, hx, flat, flat1, cond_true, e, wrap_i64 (x := x) ⟨(by omega), (by omega)⟩]
/-- numbers for a blend, out of bytes -/
def oth (us : List Tn) (ks : List Nat) (i : Nat) : Int := ((ks.getD (i % ks.length) 0 : Nat) : Int) % (unF us i + 1)
def oG (us : List Tn) (ks : List Nat) : Bl := fun i => if i < us.length then oth us ks i else 0
theorem oth_in {us : List Tn} {ks : List Nat} (hok : us.all Tn.ok = true) {i : Nat} (h : i < us.length) : 0 ≤ oth us ks i ∧ oth us ks i ≤ unF us i := by
  have a := (Tn.ok_t (tn_at hok h)).1
  unfold oth unF
  have := Int.emod_nonneg ((ks.getD (i % ks.length) 0 : Nat) : Int) (b := (us.getD i Tn.z).un + 1) (by omega)
  have := Int.emod_lt_of_pos ((ks.getD (i % ks.length) 0 : Nat) : Int) (b := (us.getD i Tn.z).un + 1) (by omega)
  omega
theorem oG_in {us : List Tn} {ks : List Nat} (hok : us.all Tn.ok = true) (i : Nat) : 0 ≤ oG us ks i ∧ oG us ks i ≤ 12 := by
  unfold oG
  split
  · rename_i h
    have := oth_in (ks := ks) hok h
    have a := (Tn.ok_t (tn_at hok h)).1
    unfold unF at this
    omega
  · omega
theorem oG_un {us : List Tn} {ks : List Nat} (hok : us.all Tn.ok = true) {i : Nat} (h : i < us.length) : oG us ks i ≤ unF us i := by
  unfold oG; rw [if_pos h]; exact (oth_in hok h).2
theorem oG_nf (us : List Tn) (ks : List Nat) : nf (oth us ks) us.length = nf (oG us ks) us.length := nf_congr fun k hk => by unfold oG; rw [if_pos hk]
theorem isB_of {us : List Tn} {r : Rc} {ks : List Nat} (hok : us.all Tn.ok = true) (h : (decide (sm (oG us ks) us.length = r.un) && rigB us r (oG us ks)) = true) : IsB us r (oG us ks) := by
  rw [Bool.and_eq_true] at h
  exact ⟨fun i hi => by unfold oG; rw [if_neg (by omega)], fun i hi => ⟨(oG_in hok i).1, oG_un hok hi⟩, of_decide_eq_true h.1, h.2⟩
theorem blB_is {us : List Tn} {r : Rc} (hr : 0 ≤ r.un) (h : (bestB us r).isSome = true) : IsB us r (blB us r) ∧ ∀ x, IsB us r x → cosB us (blB us r) ≤ cosB us x ∧ (cosB us x = cosB us (blB us r) → x = blB us r ∨ ltB (blB us r) x) := by
  have q := bestB_says (us := us) (r := r) hr
  unfold blB
  cases e : bestB us r with
  | none => rw [e] at h; cases h
  | some b => rw [e] at q; exact q
theorem no_isB {us : List Tn} {r : Rc} (hr : 0 ≤ r.un) (h : (bestB us r).isSome = false) {x : Bl} (hx : IsB us r x) : False := by
  have q := bestB_says (us := us) (r := r) hr
  cases e : bestB us r with
  | none => rw [e] at q; exact q x hx
  | some b => rw [e] at h; cases h
theorem lex_step {b x : Bl} {i : Nat} (h : x = b ∨ ltB b x) (hp : ∀ j, j < i → b j = x j) (hne : b i ≠ x i) : b i < x i := by
  rcases h with rfl | ⟨m, h1, h2⟩
  · exact absurd rfl hne
  · rcases Nat.lt_trichotomy m i with q | q | q
    · have := hp m q; omega
    · subst q; exact h2
    · exact absurd (h1 i q) hne
theorem AccB.of {b0 lo f : Nat} {e : TypeId} {H : Hp} {v : Value} {n : Nat} {cs : List Value} (h : Acc lo f e H v n cs) (h0 : 0 < n) : AccB b0 lo f e H v n cs := by
  rcases h with ⟨q, _⟩ | q
  · omega
  · exact .inr q
theorem AccB.lt {b0 lo f : Nat} {e : TypeId} {H : Hp} {v : Value} {n : Nat} {cs : List Value} (h : AccB b0 lo f e H v n cs) {b m c : Nat} (ev : v = .slice (some ⟨b, 0, none⟩) m c) : b < H.next := by
  rcases h with ⟨_, _, rfl, hb, _⟩ | ⟨b1, rfl, _, _, _, hn, _⟩
  · cases ev; exact hb
  · cases ev; exact hn
/-- append of one to what append made of a new block -/
theorem heap_append_at {P : Program} {lo : Nat} {H : Hp} {t0 t1 e ep : TypeId} {size k cap2 f b0 : Nat} {a : Option Addr} {v : Value} {cs news : List Value} (he : sliceElem P t0 = some (e, size)) (ht : P.underlying t1 = some (.slice ep))
    (hs : Sl H a 1 cap2 news) (hl : news.length = 1 * size) (hz : 0 < size) (hone : news.all one = true) (hcl : cs.length = k * size) (hk : k < 1000) (ha : AccB b0 lo f e H v k cs) (hlo : lo ≤ H.next) (hf : f ≤ H.next) :
    ∃ H1 kd, (∀ (n : Nat) (S : Rg) (d : Option Tmp) (x y : Operand) (ty : TypeId) (p : String), evS S x = some v → evS S y = some (.slice a 1 cap2) → heapOp P lo (frS n S) H ⟨d, .call ⟨.builtin .append, #[x, y], #[t0, t1]⟩, ty, p, #[], none⟩ = some (.val (.slice (some ⟨H.next, 0, none⟩) (k + 1) (k + 1)) H1, kd)) ∧ (kd = .heavy ∨ ∃ b, kd = .store b ∧ f ≤ b ∧ ∃ m c, v = .slice (some ⟨b, 0, none⟩) m c) ∧
      Acc lo f e H1 (.slice (some ⟨H.next, 0, none⟩) (k + 1) (k + 1)) (k + 1) (cs ++ news) ∧ KeepB f H H1 := by
  obtain ⟨H1, kd, h1, h2, h3, h4⟩ := heap_append_next he ht hs hl hz hone hcl hk ha hlo hf
  rcases ha with ⟨rfl, rfl, rfl, hb, e0, h0⟩ | ⟨b, rfl, h0, hfb, hlb, hn, hg⟩
  · exact ⟨_, .heavy, fun n S d x y ty p hx hy => heap_append_empty he ht h0 hx hy hs hl (by decide) (by decide), .inl rfl, .inr ⟨H.next, rfl, by omega, hf, hlo, (new_facts rfl).2.2.1, new_get rfl⟩, KeepB.of (new_facts rfl).1 hf⟩
  · refine ⟨H1, kd, h1, ?_, h3, h4⟩
    rcases h2 with q | ⟨c, q, q2⟩
    · exact .inl q
    · refine .inr ⟨c, q, q2, ?_⟩
      have g1 : Nat.ble (0 + (k + 1) * size) cs.length = false := by
        cases h : Nat.ble (0 + (k + 1) * size) cs.length with
        | false => rfl
        | true => have := Nat.le_of_ble_eq_true h; rw [hcl, Nat.succ_mul] at this; omega
      have g2 : Nat.beq (0 + k * size) cs.length = true := by rw [hcl, Nat.zero_add]; exact Nat.beq_refl _
      have g3 : Nat.ble (k + 1) 1048576 = true := Nat.ble_eq_true_of_le (by omega)
      have w := h1 0 [(0, .slice (some ⟨b, 0, none⟩) k k), (1, .slice a 1 cap2)] none (.tmp 0) (.tmp 1) 0 "" rfl rfl
      unfold heapOp at w
      simp only [evs, ev_frS, show evS [(0, .slice (some ⟨b, 0, none⟩) k k), (1, .slice a 1 cap2)] (.tmp 0) = some (.slice (some ⟨b, 0, none⟩) k k) from rfl, show evS [(0, .slice (some ⟨b, 0, none⟩) k k), (1, .slice a 1 cap2)] (.tmp 1) = some (.slice a 1 cap2) from rfl, builtinV, List.getElem?_toArray, List.getElem?_cons_zero, List.getElem?_cons_succ, he, ht, src_of hs hl, appendV, hg, g1, g2, g3, Nat.beq_refl e, hone, Nat.ble_eq_true_of_le hlb, Bool.and_self, cond_true, cond_false, List.drop_zero, show Nat.beq 1 0 = false from rfl] at w
      rw [q] at w
      simp only [Option.some.injEq, Prod.mk.injEq] at w
      have w2 := w.2
      cases w2
      exact ⟨_, _, rfl⟩
theorem AccB.sl {b0 lo f : Nat} {e : TypeId} {H : Hp} {v : Value} {n : Nat} {cs : List Value} (h : AccB b0 lo f e H v n cs) : ∃ a c, v = .slice a n c ∧ Sl H a n c cs := by
  rcases h with ⟨rfl, rfl, rfl, hb, e0, h0⟩ | ⟨b, rfl, h0, hf, hl, hn, hg⟩
  · exact ⟨_, _, rfl, .inr ⟨b0, rfl, ⟨hb, by unfold cellsOf; rw [h0]⟩, Nat.le_refl _⟩⟩
  · exact ⟨_, _, rfl, .inr ⟨b, rfl, ⟨hn, by unfold cellsOf; rw [hg]⟩, Nat.le_refl _⟩⟩
section
variable {kn : FuncId → Option Bool} {lo : Nat} {H : Hp}
/-- some -/
theorem some37_ok {ba : Option Addr} {mb cb : Nat} {ks : List Nat} {sa : Option Addr} {cap : Nat} {us : List Tn} (hs : Sl H sa us.length cap (tnc us)) (hy : Sl H ba mb cb (u8c ks)) (hkl : ks.length = mb) (hm0 : 0 < mb) (hm9 : mb ≤ 9223372036854775807) (hle : ∀ x, ks.getD x 0 ≤ 255) (hok : us.all Tn.ok = true) (hn : us.length ≤ 8) (hlo : lo ≤ H.next) :
    ∃ a c H', FnX Try.prog kn lo 37 [.slice sa us.length cap, .slice ba mb cb] H (.slice a us.length c) H' ∧ Keep H H' [] ∧ Sl H' a us.length c (nf (oth us ks) us.length) := by
  have key := fnX_low (kn := kn) (lo := lo) (H := H) (args := [.slice sa us.length cap, .slice ba mb cb]) (Q := fun w H' => ∃ a c, w = .slice a us.length c ∧ Keep H H' [] ∧ Sl H' a us.length c (nf (oth us ks) us.length)) Try.func37 B37 N37 Z37 L37 (by simp) ?_
  · obtain ⟨w, H', h, a, c, rfl, q⟩ := key; exact ⟨a, c, H', h, q⟩
  have hk := Keep.refl H []
  have fs := hs.old
  have fy := hy.old
  have fs0 := hs.old
  have fy0 := hy.old
  refine wN_seq ?_
  refine wN_mov (v := .slice none 0 0) rfl ?_
  refine wN_end ?_
  refine wN_seq ?_
  obtain ⟨H1, hH1⟩ : ∃ H1, H.new (.cells [] 3 false) = H1 := ⟨_, rfl⟩
  refine wN_memh (H' := H1) (k := .heavy) rfl (by kernel_rfl) ((heap_build0 se42 z3).trans (by rw [hH1])) (fun b e => by cases e) ?_
  obtain ⟨kH1, nH1, cH1⟩ := new_facts hH1
  have gH1 := new_get hH1
  have mH1 := kH1.1
  have hk := hk.trans kH1
  have hs := kH1.sl0 hs
  have hy := kH1.sl0 hy
  have ac : AccB H.next lo H.next 3 H1 (.slice (some ⟨H.next, 0, none⟩) 0 0) 0 (nf (oth us ks) 0) := .inl ⟨rfl, rfl, rfl, by omega, _, gH1⟩
  refine wN_mov (v := .slice (some ⟨H.next, 0, none⟩) 0 0) rfl ?_
  refine wN_end ?_
  refine wN_seq ?_
  refine wN_mov (v := .slice sa us.length cap) rfl ?_
  refine wN_len (m := us.length) rfl ?_
  refine wN_mov (v := iv 0) rfl ?_
  refine wN_end ?_
  refine loop_low (fn := Try.f37) E37_1 N37 L37x1 (fun x : Nat × Value => [(1, .slice ba mb cb), (5, x.2), (9, .slice sa us.length cap), (10, iv (us.length : Int)), (11, iv (x.1 : Int))])
    (fun k x H' => x.1 + k = us.length ∧ Keep H H' [] ∧ Sl H' sa us.length cap (tnc us) ∧ Sl H' ba mb cb (u8c ks) ∧ AccB H.next lo H.next 3 H' x.2 x.1 (nf (oth us ks) x.1)) us.length (0, Value.slice (some ⟨H.next, 0, none⟩) 0 0) ⟨by omega, hk, hs, hy, ac⟩ ⟨rfl, rfl, rfl, rfl, rfl, trivial⟩ ?_
  rintro k ⟨i, wv⟩ L1 ⟨hik, hk, hs, hy, hac⟩
  simp only at hik hac ⊢
  have mki := hk.1
  have ac := hac
  have kacc := Keep.refl L1 []
  refine wN_seq ?_
  refine wN_c_lss (a := (i : Int)) (b := (us.length : Int)) rfl rfl ?_
  refine wN_end ?_
  refine And.intro (fun q1 => ?_) (fun q1 => ?_)
  · have q1 : (i : Int) < (us.length : Int) := of_decide_eq_true q1
    rcases id hs with ⟨_, h0, _⟩ | ⟨sb, es, rs, _⟩
    · omega
    have lsb := rs.lt
    rcases id hy with ⟨_, h0, _⟩ | ⟨bb, eb, rb, _⟩
    · omega
    have lbb := rb.lt
    have lsb0 := fs0 sb es
    have lbb0 := fy0 bb eb
    have ht := (Tn.ok_t (tn_at hok (show i < us.length by omega))).1
    have hbl := hle (i % mb)
    have hmm := Nat.mod_lt i hm0
    first | refine wN_skip ?_ | skip
    refine wN_seq ?_
    refine wN_mov (v := iv (i : Int)) rfl ?_
    refine wN_idx (b := sb) (o := 0) (k := i) (j := (i : Int)) (by rw [← es]; rfl) rfl rfl (by omega) ?_
    refine wN_lda (b := sb) (o := 0 + i * 5) rfl rs (tnc_rowF (by omega)) ?_
    refine wN_alc ?_
    intro H2 kH2 nH2 c2
    have c2 : Cl H2 L1.next [iv 0, iv 0, iv 0, iv 0, iv 0] := c2
    have mH2 := kH2.1
    have hk := hk.trans kH2
    have hs := kH2.sl0 hs
    have hy := kH2.sl0 hy
    have kacc := kacc.trans kH2
    have rs := kH2.rd rs (by simp)
    have rb := kH2.rd rb (by simp)
    refine wN_mov (v := iv (i : Int)) rfl ?_
    refine wN_sta (b := L1.next) (o := 0) rfl rfl c2 (by omega) rfl rfl (by simp) ?_
    intro H3 kH3 nH3 sH3
    have mH3 := kH3.1
    have hk := hk.new kH3 (fun b hb => by simp at hb ⊢; omega)
    have hs := kH3.sl hs (fun b e => by have := fs0 b e; first | (simp; done) | (simp; omega))
    have hy := kH3.sl hy (fun b e => by have := fy0 b e; first | (simp; done) | (simp; omega))
    have kacc := kacc.new kH3 (fun b hb => by simp at hb ⊢; omega)
    have rs := kH3.rd rs (by first | (simp; done) | (simp; omega))
    have rb := kH3.rd rb (by first | (simp; done) | (simp; omega))
    have c2 : Cl H3 L1.next [iv ((us.getD i Tn.z).un), iv ((us.getD i Tn.z).su), iv ((us.getD i Tn.z).ac), iv ((us.getD i Tn.z).co), iv ((us.getD i Tn.z).pr)] := sH3
    refine wN_end ?_
    first | refine wD_dreg ?_ | refine wB_dreg ?_ | refine wB_seq ?_ | (refine wOps_nil ?_; refine wD_dreg ?_)
    refine wD_mov (v := wv) rfl ?_
    refine wD_mov (v := .slice ba mb cb) rfl ?_
    refine wD_mov (v := iv (i : Int)) rfl ?_
    refine wD_mov (v := .slice ba mb cb) rfl ?_
    refine wD_len (m := mb) rfl ?_
    refine wD_rem (a := (i : Int)) (b := (mb : Int)) rfl rfl (by omega) (by omega) ⟨by omega, by omega⟩ ⟨by omega, by omega⟩ ?_
    refine wD_idx (b := bb) (o := 0) (k := i % mb) (j := (i : Int) % (mb : Int)) (by rw [← eb]; rfl) rfl (Int.natCast_emod i mb).symm hmm ?_
    refine wD_ld (b := bb) (o := 0 + (i % mb) * 1) (v := .int .u8 ((ks.getD (i % mb) 0 : Nat) : Int)) rfl rb (u8_get (by omega)) ?_
    refine wD_pur (v := iv ((ks.getD (i % mb) 0 : Nat) : Int)) rfl (conv_5 ((ks.getD (i % mb) 0 : Nat) : Int) (by omega) (by omega) rfl) ?_
    refine wD_addo (b := L1.next) (o := 0) rfl ?_
    refine wD_ld (b := L1.next) (o := 0) (v := iv ((us.getD i Tn.z).un)) rfl c2.rd rfl ?_
    refine wD_add (a := (us.getD i Tn.z).un) (b := 1) rfl rfl ⟨by omega, by omega⟩ ?_
    refine wD_rem (a := ((ks.getD (i % mb) 0 : Nat) : Int)) (b := ((us.getD i Tn.z).un) + 1) rfl rfl (by omega) (by omega) ⟨by omega, by omega⟩ ⟨by omega, by omega⟩ ?_
    obtain ⟨H4, hH4⟩ : ∃ H4, H3.new (.cells [iv (((ks.getD (i % mb) 0 : Nat) : Int) % (((us.getD i Tn.z).un) + 1))] 3 false) = H4 := ⟨_, rfl⟩
    refine wD_memh (H' := H4) (k := .heavy) rfl (by kernel_rfl) ((heap_build1 (v := iv (((ks.getD (i % mb) 0 : Nat) : Int) % (((us.getD i Tn.z).un) + 1))) se42 z3 rfl rfl rfl (by decide)).trans (by rw [← hH4]; rfl)) (fun b e => by cases e) ?_
    obtain ⟨kH4, nH4, c4⟩ := new_facts hH4; clear hH4
    have c4 : Cl H4 H3.next [iv (((ks.getD (i % mb) 0 : Nat) : Int) % (((us.getD i Tn.z).un) + 1))] := c4
    have mH4 := kH4.1
    have hk := hk.trans kH4
    have hs := kH4.sl0 hs
    have hy := kH4.sl0 hy
    have kacc := kacc.trans kH4
    have rs := kH4.rd rs (by simp)
    have rb := kH4.rd rb (by simp)
    have c2 := kH4.cl c2 (by simp)
    obtain ⟨H5, kdH5, eH5, dH5, ac2, kbH5⟩ := heap_append_at (P := Try.prog) (lo := lo) (k := i) (t1 := 42) se42 u42 (c4.sl (Nat.le_refl 1)) rfl (by decide) rfl (by rw [nf_len]; omega) (by omega) (ac.keep kacc) (by omega) (by omega)
    refine wD_memh (k := kdH5) rfl (by cases wv <;> kernel_rfl) (eH5 _ _ _ _ _ _ _ rfl rfl) (fun b q => by rcases dH5 with z | ⟨_, z, _⟩ <;> rw [z] at q <;> cases q) ?_
    have enH5 : nf (oth us ks) (i + 1) = nf (oth us ks) i ++ [iv (((ks.getD (i % mb) 0 : Nat) : Int) % (((us.getD i Tn.z).un) + 1))] := by rw [nf_succ]; unfold oth; rw [hkl]; rfl
    rw [← enH5] at ac2
    have hk := kbH5.keep hk (Nat.le_refl _)
    have hs := kbH5.sl hs fs0
    have hy := kbH5.sl hy fy0
    have mH5 := kbH5.1
    refine wD_mov (v := .slice (some ⟨H4.next, 0, none⟩) (i + 1) (i + 1)) rfl ?_
    refine wD_end (by rcases dH5 with rfl | ⟨bH5, rfl, hbH5, _, _, ewH5⟩ <;> (try have lbH5 := ac.lt ewH5) <;> repeat' first | exact True.intro | exact (fun h => h) | refine And.intro ?_ ?_ | (intro h; have h : (_ : Nat) = _ := h; omega)) ?_
    first | refine wN_reg ?_ | refine wN_blk ?_ | refine wN_bseq ?_ | (refine wOps_nil ?_; refine wN_reg ?_)
    refine wN_add (a := (i : Int)) (b := 1) rfl rfl ⟨by omega, by omega⟩ ?_
    refine wN_mov (v := iv ((i : Int) + 1)) rfl ?_
    refine wN_end ?_
    exact ⟨k - 1, (i + 1, Value.slice (some ⟨H4.next, 0, none⟩) (i + 1) (i + 1)), by omega, ⟨by simp only; omega, hk, hs, hy, .of ac2 (Nat.succ_pos _)⟩, rfl, rfl, rfl, rfl, rfl, trivial⟩
  · have q1 : ¬ ((i : Int) < (us.length : Int)) := of_decide_eq_false q1
    first | (refine wN_exit ?_; show wC _ _ _ _ _ _ _ _ _) | skip
    refine wN_seq ?_
    refine wN_mov (v := wv) rfl ?_
    refine wN_mov (v := wv) rfl ?_
    refine wN_end ?_
    have ei : i = us.length := by omega
    subst ei
    obtain ⟨a, c, rfl, sl⟩ := ac.sl
    exact And.intro trivial (Exists.intro _ (And.intro rfl ⟨a, c, rfl, hk, sl⟩))
set_option maxRecDepth 100000 in
set_option maxHeartbeats 4000000 in
/-- PlantCheapest -/
theorem law_cheapest (hkn : kn 16 = some true) {ba : Option Addr} {mb cb : Nat} {ks : List Nat} {r : Rc} {sa : Option Addr} {cap : Nat} {us : List Tn} (hs : Sl H sa us.length cap (tnc us)) (hf : ∀ b, sa = some ⟨b, 0, none⟩ → Ft H b (tnc us)) (hy : Sl H ba mb cb (u8c ks)) (hkl : ks.length = mb) (hm9 : mb ≤ 9223372036854775807) (hle : ∀ x, ks.getD x 0 ≤ 255) (hro : RoLow lo H) (hlo : lo ≤ H.next) : ∃ H', FnX Try.prog kn lo 10 [.slice sa us.length cap, .agg (Rc.f r).toArray, .slice ba mb cb] H (.bool true) H' := by
  have key := fnX_low (kn := kn) (lo := lo) (H := H) (args := [.slice sa us.length cap, .agg (Rc.f r).toArray, .slice ba mb cb]) (Q := fun w H' => w = .bool true) Try.func10 B10 N10 Z10 L10 (by simp) ?_
  · obtain ⟨w, H', h, rfl⟩ := key; exact ⟨H', h⟩
  have hk := Keep.refl H []
  have fs := hs.old
  have fy := hy.old
  refine wN_seq ?_
  refine wN_box (v := .agg (Rc.f r).toArray) rfl ?_
  intro H1 kH1 nH1 c1
  have c1 : Cl H1 H.next [iv r.un, iv r.s1, iv r.s2, iv r.a1, iv r.a2, iv r.c1, iv r.c2] := c1
  have mH1 := kH1.1
  have hk := hk.trans kH1
  have hs := kH1.sl0 hs
  have hy := kH1.sl0 hy
  refine wN_mov (v := .bool false) rfl ?_
  refine wN_end ?_
  refine wN_seq ?_
  refine wN_mov (v := .slice sa us.length cap) rfl ?_
  obtain ⟨tS, H2, fH2, kH2, hS⟩ := slow_ok (kn := kn) (lo := lo) (H := H1) (lim := 400000) hs (by decide) (by decide) (by omega)
  have mH2 := kH2.1
  have hk := hk.trans kH2
  have hs := kH2.sl0 hs
  have hy := kH2.sl0 hy
  have c1 := kH2.cl c1 (by simp)
  cases tS
  · refine wN_callf (vs := [.slice sa us.length cap, iv 400000]) rfl (callX_args fH2) ?_
    have hn8 := hS rfl
    refine wN_mov (v := .bool false) rfl ?_
    refine wN_g rfl (wN_mov (v := .slice ba mb cb) rfl ?_)
    refine wN_g rfl (wN_len (m := mb) rfl ?_)
    refine wN_g rfl (wN_b_eql (a := (mb : Int)) (b := 0) rfl rfl ?_)
    intro t1 g1; cases t1
    · have g1 : ¬ ((mb : Int) = 0) := by simpa using g1
      refine wN_pur (v := .bool false) rfl rfl ?_
      refine wN_end ?_
      refine condF ?_
      first | refine wN_skip ?_ | skip
      refine wN_seq ?_
      refine wN_mov (v := .slice sa us.length cap) rfl ?_
      refine wN_lda (b := H.next) (o := 0) rfl c1.rd (show row 7 _ _ = some [iv r.un, iv r.s1, iv r.s2, iv r.a1, iv r.a2, iv r.c1, iv r.c2] from rfl) ?_
      obtain ⟨a, c, H3, fH3, kH3, sl⟩ := blend_ok (kn := kn) (lo := lo) (H := H2) (r := r) hs (fun b e => hk.ft (hf b e) (by simp)) (by omega) (by omega)
      have mH3 := kH3.1
      have hk := hk.trans kH3
      have hs := kH3.sl0 hs
      have hy := kH3.sl0 hy
      have c1 := kH3.cl c1 (by simp)
      by_cases e0 : blE us r = 0
      · have e2 : blN us r = us.length := by unfold blN; rw [if_pos e0]
        have e3 : blC us r = cosB us (blB us r) := by unfold blC; rw [if_pos e0]
        rw [e2, e3, e0] at fH3
        rw [e2] at sl
        obtain ⟨h5, hok, hr, hB⟩ := blE0 (us := us) (r := r) (.inl e0)
        rw [decide_eq_true e0] at hB
        have hru := (Rc.ok_t hr).1
        obtain ⟨hI, hbest⟩ := blB_is (by omega) hB
        refine wN_callf (vs := [.slice sa us.length cap, .agg (Rc.f r).toArray]) rfl (callX_args fH3) ?_
        refine wN_mov (v := .tuple #[.slice a us.length c, iv (cosB us (blB us r)), iv 0]) rfl ?_
        refine wN_pur (v := .slice a us.length c) rfl (by kernel_rfl) ?_
        refine wN_pur (v := iv (cosB us (blB us r))) rfl (by kernel_rfl) ?_
        refine wN_pur (v := iv 0) rfl (by kernel_rfl) ?_
        refine wN_mov (v := .slice a us.length c) rfl ?_
        refine wN_mov (v := iv (cosB us (blB us r))) rfl ?_
        refine wN_mov (v := iv 0) rfl ?_
        refine wN_end ?_
        refine wN_seq ?_
        refine wN_mov (v := iv 0) rfl ?_
        refine wN_b_neq (a := 0) (b := 0) rfl rfl ?_
        intro t2 g2; obtain rfl : t2 = false := by rw [← g2]; rfl
        refine wN_mov (v := .bool false) rfl ?_
        refine wN_gs rfl ?_
        refine wN_gs rfl ?_
        refine wN_pur (v := .bool false) rfl rfl ?_
        refine wN_end ?_
        refine condF ?_
        first | refine wN_skip ?_ | skip
        refine wN_seq ?_
        refine wN_mov (v := .slice sa us.length cap) rfl ?_
        obtain ⟨H4, fH4, kH4⟩ := tanks35_ok (kn := kn) (lo := lo) (H := H3) hs hok (by omega) (by omega)
        refine wN_callf (vs := [.slice sa us.length cap]) rfl (callX_args fH4) ?_
        have mH4 := kH4.1
        have hk := hk.trans kH4
        have hs := kH4.sl0 hs
        have hy := kH4.sl0 hy
        have c1 := kH4.cl c1 (by simp)
        have sl := kH4.sl0 sl
        refine wN_pur (v := .bool false) rfl rfl ?_
        refine wN_mov (v := .bool false) rfl ?_
        refine wN_g rfl (wN_lda (b := H.next) (o := 0) rfl c1.rd (show row 7 _ _ = some [iv r.un, iv r.s1, iv r.s2, iv r.a1, iv r.a2, iv r.c1, iv r.c2] from rfl) ?_)
        obtain ⟨H5, fH5, kH5⟩ := recipe36_ok (kn := kn) (lo := lo) (H := H4) hr (by omega)
        refine wN_g rfl (wN_callf (vs := [.agg (Rc.f r).toArray]) rfl (callX_args fH5) ?_)
        have mH5 := kH5.1
        have hk := hk.trans kH5
        have hs := kH5.sl0 hs
        have hy := kH5.sl0 hy
        have c1 := kH5.cl c1 (by simp)
        have sl := kH5.sl0 sl
        refine wN_g rfl (wN_pur (v := .bool false) rfl rfl ?_)
        refine wN_pur (v := .bool false) rfl rfl ?_
        refine wN_end ?_
        refine condF ?_
        first | refine wN_skip ?_ | skip
        refine wN_seq ?_
        refine wN_mov (v := .slice sa us.length cap) rfl ?_
        refine wN_mov (v := .slice ba mb cb) rfl ?_
        obtain ⟨xa, xc, H6, fH6, kH6, sx⟩ := some37_ok (kn := kn) (lo := lo) (H := H5) hs hy hkl (by omega) hm9 hle hok hn8 (by omega)
        rw [oG_nf] at sx
        refine wN_callf (vs := [.slice sa us.length cap, .slice ba mb cb]) rfl (callX_args fH6) ?_
        have mH6 := kH6.1
        have hk := hk.trans kH6
        have hs := kH6.sl0 hs
        have hy := kH6.sl0 hy
        have c1 := kH6.cl c1 (by simp)
        have sl := kH6.sl0 sl
        have fx := sx.old
        refine wN_mov (v := .slice xa us.length xc) rfl ?_
        refine wN_end ?_
        refine wN_seq ?_
        refine wN_mov (v := .slice sa us.length cap) rfl ?_
        refine wN_lda (b := H.next) (o := 0) rfl c1.rd (show row 7 _ _ = some [iv r.un, iv r.s1, iv r.s2, iv r.a1, iv r.a2, iv r.c1, iv r.c2] from rfl) ?_
        refine wN_mov (v := .slice xa us.length xc) rfl ?_
        obtain ⟨H7, fH7, kH7⟩ := right38_ok (kn := kn) (lo := lo) (H := H6) (g := oG us ks) (r := r) hs sx (oG_in hok) (fun i hi => oG_un hok hi) hok hr (by omega) (by omega)
        have mH7 := kH7.1
        have hk := hk.trans kH7
        have hs := kH7.sl0 hs
        have hy := kH7.sl0 hy
        have c1 := kH7.cl c1 (by simp)
        have sl := kH7.sl0 sl
        have sx := kH7.sl0 sx
        cases hO : (decide (sm (oG us ks) us.length = r.un) && rigB us r (oG us ks))
        · rw [hO] at fH7
          refine wN_callf (vs := [.slice sa us.length cap, .agg (Rc.f r).toArray, .slice xa us.length xc]) rfl (callX_args fH7) ?_
          refine wN_mov (v := .tuple #[.bool false, iv (cosB us (oG us ks))]) rfl ?_
          refine wN_pur (v := .bool false) rfl (by kernel_rfl) ?_
          refine wN_pur (v := iv (cosB us (oG us ks))) rfl (by kernel_rfl) ?_
          refine wN_mov (v := .bool false) rfl ?_
          refine wN_mov (v := iv (cosB us (oG us ks))) rfl ?_
          refine wN_end ?_
          refine wN_seq ?_
          refine wN_mov (v := iv 0) rfl ?_
          refine wN_c_neq (a := 0) (b := 0) rfl rfl ?_
          refine wN_end ?_
          refine condF ?_
          first | refine wN_skip ?_ | skip
          refine wN_seq ?_
          refine wN_mov (v := .slice a us.length c) rfl ?_
          refine wN_len (m := us.length) rfl ?_
          refine wN_mov (v := .slice sa us.length cap) rfl ?_
          refine wN_len (m := us.length) rfl ?_
          refine wN_c_neq (a := (us.length : Int)) (b := (us.length : Int)) rfl rfl ?_
          refine wN_end ?_
          refine And.intro (fun q3 => ?_) (fun q3 => ?_)
          · have q3 : (us.length : Int) ≠ (us.length : Int) := by simpa using q3
            omega
          · have q3 : ¬ ((us.length : Int) ≠ (us.length : Int)) := by simpa using q3
            first | refine wN_skip ?_ | skip
            refine wN_seq ?_
            refine wN_mov (v := .slice sa us.length cap) rfl ?_
            refine wN_lda (b := H.next) (o := 0) rfl c1.rd (show row 7 _ _ = some [iv r.un, iv r.s1, iv r.s2, iv r.a1, iv r.a2, iv r.c1, iv r.c2] from rfl) ?_
            refine wN_mov (v := .slice a us.length c) rfl ?_
            obtain ⟨H8, fH8, kH8⟩ := right38_ok (kn := kn) (lo := lo) (H := H7) (g := blB us r) (r := r) hs sl (blB_in hok hru.1) (fun i hi => (hI.un i hi).2) hok hr (by omega) (by omega)
            have mH8 := kH8.1
            have hk := hk.trans kH8
            have hs := kH8.sl0 hs
            have hy := kH8.sl0 hy
            have c1 := kH8.cl c1 (by simp)
            have sl := kH8.sl0 sl
            have sx := kH8.sl0 sx
            rw [decide_eq_true hI.su, hI.ri] at fH8
            refine wN_callf (vs := [.slice sa us.length cap, .agg (Rc.f r).toArray, .slice a us.length c]) rfl (callX_args fH8) ?_
            refine wN_mov (v := .tuple #[.bool true, iv (cosB us (blB us r))]) rfl ?_
            refine wN_pur (v := .bool true) rfl (by kernel_rfl) ?_
            refine wN_pur (v := iv (cosB us (blB us r))) rfl (by kernel_rfl) ?_
            refine wN_mov (v := .bool true) rfl ?_
            refine wN_mov (v := iv (cosB us (blB us r))) rfl ?_
            refine wN_end ?_
            refine wN_seq ?_
            refine wN_mov (v := .bool true) rfl ?_
            refine wN_pur (v := .bool false) rfl rfl ?_
            refine wN_mov (v := .bool false) rfl ?_
            refine wN_g rfl (wN_mov (v := iv (cosB us (blB us r))) rfl ?_)
            refine wN_g rfl (wN_mov (v := iv (cosB us (blB us r))) rfl ?_)
            refine wN_g rfl (wN_b_neq (a := (cosB us (blB us r))) (b := (cosB us (blB us r))) rfl rfl ?_)
            intro t4 g4; cases t4
            · have g4 : ¬ ((cosB us (blB us r)) ≠ (cosB us (blB us r))) := by simpa using g4
              refine wN_pur (v := .bool false) rfl rfl ?_
              refine wN_end ?_
              refine condF ?_
              first | refine wN_skip ?_ | skip
              refine wN_seq ?_
              refine wN_mov (v := .bool false) rfl ?_
              refine wN_pur (v := .bool true) rfl rfl ?_
              refine wN_mov (v := .bool true) rfl ?_
              refine wN_gs rfl ?_
              refine wN_gs rfl ?_
              refine wN_gs rfl ?_
              refine wN_pur (v := .bool true) rfl rfl ?_
              refine wN_end ?_
              refine condT ?_
              refine wN_seq ?_
              refine wN_callf (vs := []) rfl (callX_known hkn) ?_
              refine wN_mov (v := .bool true) rfl ?_
              refine wN_end ?_
              exact And.intro trivial (Exists.intro _ (And.intro rfl rfl))
            · have g4 : (cosB us (blB us r)) ≠ (cosB us (blB us r)) := by simpa using g4
              omega
        · rw [hO] at fH7
          have hI2 := isB_of hok hO
          refine wN_callf (vs := [.slice sa us.length cap, .agg (Rc.f r).toArray, .slice xa us.length xc]) rfl (callX_args fH7) ?_
          refine wN_mov (v := .tuple #[.bool true, iv (cosB us (oG us ks))]) rfl ?_
          refine wN_pur (v := .bool true) rfl (by kernel_rfl) ?_
          refine wN_pur (v := iv (cosB us (oG us ks))) rfl (by kernel_rfl) ?_
          refine wN_mov (v := .bool true) rfl ?_
          refine wN_mov (v := iv (cosB us (oG us ks))) rfl ?_
          refine wN_end ?_
          refine wN_seq ?_
          refine wN_mov (v := iv 0) rfl ?_
          refine wN_c_neq (a := 0) (b := 0) rfl rfl ?_
          refine wN_end ?_
          refine condF ?_
          first | refine wN_skip ?_ | skip
          refine wN_seq ?_
          refine wN_mov (v := .slice a us.length c) rfl ?_
          refine wN_len (m := us.length) rfl ?_
          refine wN_mov (v := .slice sa us.length cap) rfl ?_
          refine wN_len (m := us.length) rfl ?_
          refine wN_c_neq (a := (us.length : Int)) (b := (us.length : Int)) rfl rfl ?_
          refine wN_end ?_
          refine And.intro (fun q5 => ?_) (fun q5 => ?_)
          · have q5 : (us.length : Int) ≠ (us.length : Int) := by simpa using q5
            omega
          · have q5 : ¬ ((us.length : Int) ≠ (us.length : Int)) := by simpa using q5
            first | refine wN_skip ?_ | skip
            refine wN_seq ?_
            refine wN_mov (v := .slice sa us.length cap) rfl ?_
            refine wN_lda (b := H.next) (o := 0) rfl c1.rd (show row 7 _ _ = some [iv r.un, iv r.s1, iv r.s2, iv r.a1, iv r.a2, iv r.c1, iv r.c2] from rfl) ?_
            refine wN_mov (v := .slice a us.length c) rfl ?_
            obtain ⟨H9, fH9, kH9⟩ := right38_ok (kn := kn) (lo := lo) (H := H7) (g := blB us r) (r := r) hs sl (blB_in hok hru.1) (fun i hi => (hI.un i hi).2) hok hr (by omega) (by omega)
            have mH9 := kH9.1
            have hk := hk.trans kH9
            have hs := kH9.sl0 hs
            have hy := kH9.sl0 hy
            have c1 := kH9.cl c1 (by simp)
            have sl := kH9.sl0 sl
            have sx := kH9.sl0 sx
            rw [decide_eq_true hI.su, hI.ri] at fH9
            refine wN_callf (vs := [.slice sa us.length cap, .agg (Rc.f r).toArray, .slice a us.length c]) rfl (callX_args fH9) ?_
            obtain ⟨hbe, hlex⟩ := hbest _ hI2
            refine wN_mov (v := .tuple #[.bool true, iv (cosB us (blB us r))]) rfl ?_
            refine wN_pur (v := .bool true) rfl (by kernel_rfl) ?_
            refine wN_pur (v := iv (cosB us (blB us r))) rfl (by kernel_rfl) ?_
            refine wN_mov (v := .bool true) rfl ?_
            refine wN_mov (v := iv (cosB us (blB us r))) rfl ?_
            refine wN_end ?_
            refine wN_seq ?_
            refine wN_mov (v := .bool true) rfl ?_
            refine wN_pur (v := .bool false) rfl rfl ?_
            refine wN_mov (v := .bool false) rfl ?_
            refine wN_g rfl (wN_mov (v := iv (cosB us (blB us r))) rfl ?_)
            refine wN_g rfl (wN_mov (v := iv (cosB us (blB us r))) rfl ?_)
            refine wN_g rfl (wN_b_neq (a := (cosB us (blB us r))) (b := (cosB us (blB us r))) rfl rfl ?_)
            intro t6 g6; cases t6
            · have g6 : ¬ ((cosB us (blB us r)) ≠ (cosB us (blB us r))) := by simpa using g6
              refine wN_pur (v := .bool false) rfl rfl ?_
              refine wN_end ?_
              refine condF ?_
              first | refine wN_skip ?_ | skip
              refine wN_seq ?_
              refine wN_mov (v := .bool true) rfl ?_
              refine wN_pur (v := .bool false) rfl rfl ?_
              refine wN_mov (v := .bool false) rfl ?_
              refine wN_g rfl (wN_mov (v := iv (cosB us (oG us ks))) rfl ?_)
              refine wN_g rfl (wN_mov (v := iv (cosB us (blB us r))) rfl ?_)
              refine wN_g rfl (wN_b_gtr (a := (cosB us (oG us ks))) (b := (cosB us (blB us r))) rfl rfl ?_)
              intro t7 g7; cases t7
              · have g7 : ¬ ((cosB us (oG us ks)) > (cosB us (blB us r))) := of_decide_eq_false g7
                refine wN_pur (v := .bool false) rfl rfl ?_
                refine wN_end ?_
                refine condF ?_
                first | refine wN_skip ?_ | skip
                refine wN_seq ?_
                refine wN_mov (v := iv (cosB us (oG us ks))) rfl ?_
                refine wN_mov (v := iv (cosB us (blB us r))) rfl ?_
                refine wN_c_lss (a := (cosB us (oG us ks))) (b := (cosB us (blB us r))) rfl rfl ?_
                refine wN_end ?_
                refine And.intro (fun q8 => ?_) (fun q8 => ?_)
                · have q8 : (cosB us (oG us ks)) < (cosB us (blB us r)) := of_decide_eq_true q8
                  omega
                · have q8 : ¬ ((cosB us (oG us ks)) < (cosB us (blB us r))) := of_decide_eq_false q8
                  first | refine wN_skip ?_ | skip
                  refine wN_seq ?_
                  refine wN_mov (v := .slice a us.length c) rfl ?_
                  refine wN_len (m := us.length) rfl ?_
                  refine wN_mov (v := iv 0) rfl ?_
                  refine wN_end ?_
                  have hlq := hlex (by omega)
                  refine loop_low (fn := Try.f10) E10_1 N10 L10x1 (fun i : Nat => [(7, .slice a us.length c), (10, .slice xa us.length xc), (112, iv (us.length : Int)), (113, iv (i : Int))])
                    (fun k i H' => i + k = us.length ∧ Keep H H' [] ∧ Sl H' a us.length c (nf (blB us r) us.length) ∧ Sl H' xa us.length xc (nf (oG us ks) us.length) ∧ ∀ j, j < i → blB us r j = oG us ks j) us.length 0 ⟨by omega, hk, sl, sx, fun j hj => absurd hj (by omega)⟩ ⟨rfl, rfl, rfl, rfl, trivial⟩ ?_
                  rintro k i L1 ⟨hik, hk, sl, sx, hpre⟩
                  have mki := hk.1
                  refine wN_seq ?_
                  refine wN_c_lss (a := (i : Int)) (b := (us.length : Int)) rfl rfl ?_
                  refine wN_end ?_
                  refine And.intro (fun q9 => ?_) (fun q9 => ?_)
                  · have q9 : (i : Int) < (us.length : Int) := of_decide_eq_true q9
                    rcases id sl with ⟨_, h0, _⟩ | ⟨lb, el, rl, _⟩
                    · omega
                    rcases id sx with ⟨_, h0, _⟩ | ⟨xb, ex, rx, _⟩
                    · omega
                    have hi : i < us.length := by omega
                    first | refine wN_skip ?_ | skip
                    refine wN_seq ?_
                    refine wN_mov (v := iv (i : Int)) rfl ?_
                    refine wN_mov (v := iv (i : Int)) rfl ?_
                    refine wN_end ?_
                    refine wD_seq ?_
                    refine wD_mov (v := .slice a us.length c) rfl ?_
                    refine wD_mov (v := iv (i : Int)) rfl ?_
                    refine wD_idx (b := lb) (o := 0) (k := i) (j := (i : Int)) (by rw [← el]; rfl) rfl rfl hi ?_
                    refine wD_ld (b := lb) (o := 0 + i * 1) (v := iv (blB us r i)) rfl rl (nf_at hi) ?_
                    refine wD_mov (v := .slice xa us.length xc) rfl ?_
                    refine wD_mov (v := iv (i : Int)) rfl ?_
                    refine wD_idx (b := xb) (o := 0) (k := i) (j := (i : Int)) (by rw [← ex]; rfl) rfl rfl hi ?_
                    refine wD_ld (b := xb) (o := 0 + i * 1) (v := iv (oG us ks i)) rfl rx (nf_at hi) ?_
                    refine wD_c_neq (a := (blB us r i)) (b := (oG us ks i)) rfl rfl ?_
                    refine wD_end (by repeat' first | exact True.intro | exact (fun h => h) | refine And.intro ?_ ?_ | (intro h; have h : (_ : Nat) = _ := h; omega)) ?_
                    refine And.intro (fun q10 => ?_) (fun q10 => ?_)
                    · have q10 : (blB us r i) ≠ (oG us ks i) := by simpa using q10
                      have hlt := lex_step hlq hpre q10
                      refine wD_seq ?_
                      refine wD_mov (v := .slice a us.length c) rfl ?_
                      refine wD_mov (v := iv (i : Int)) rfl ?_
                      refine wD_idx (b := lb) (o := 0) (k := i) (j := (i : Int)) (by rw [← el]; rfl) rfl rfl hi ?_
                      refine wD_ld (b := lb) (o := 0 + i * 1) (v := iv (blB us r i)) rfl rl (nf_at hi) ?_
                      refine wD_mov (v := .slice xa us.length xc) rfl ?_
                      refine wD_mov (v := iv (i : Int)) rfl ?_
                      refine wD_idx (b := xb) (o := 0) (k := i) (j := (i : Int)) (by rw [← ex]; rfl) rfl rfl hi ?_
                      refine wD_ld (b := xb) (o := 0 + i * 1) (v := iv (oG us ks i)) rfl rx (nf_at hi) ?_
                      refine wD_b_lss (a := (blB us r i)) (b := (oG us ks i)) rfl rfl ?_
                      intro t11 g11; cases t11
                      · have g11 : ¬ ((blB us r i) < (oG us ks i)) := of_decide_eq_false g11
                        omega
                      · have g11 : (blB us r i) < (oG us ks i) := of_decide_eq_true g11
                        refine wD_mov (v := .bool true) rfl ?_
                        refine wD_g rfl (wD_callf (vs := []) rfl (callX_known hkn) ?_)
                        refine wD_pur (v := .bool true) rfl rfl ?_
                        refine wD_mov (v := .bool true) rfl ?_
                        refine wD_end (by repeat' first | exact True.intro | exact (fun h => h) | refine And.intro ?_ ?_ | (intro h; have h : (_ : Nat) = _ := h; omega)) ?_
                        exact And.intro trivial (Exists.intro _ (And.intro rfl rfl))
                    · have q10 : ¬ ((blB us r i) ≠ (oG us ks i)) := by simpa using q10
                      first | refine wN_skip ?_ | skip
                      first | refine wN_reg ?_ | refine wN_blk ?_ | refine wN_bseq ?_ | (refine wOps_nil ?_; refine wN_reg ?_)
                      refine wN_add (a := (i : Int)) (b := 1) rfl rfl ⟨by omega, by omega⟩ ?_
                      refine wN_mov (v := iv ((i : Int) + 1)) rfl ?_
                      refine wN_end ?_
                      exact ⟨k - 1, i + 1, by omega, ⟨by omega, hk, sl, sx, fun j hj => by
                        rcases Nat.lt_or_ge j i with q | q
                        · exact hpre j q
                        · have : j = i := by omega
                          subst this; omega⟩, rfl, rfl, rfl, rfl, trivial⟩
                  · have q9 : ¬ ((i : Int) < (us.length : Int)) := of_decide_eq_false q9
                    first | (refine wN_exit ?_; show wC _ _ _ _ _ _ _ _ _) | skip
                    refine wN_seq ?_
                    refine wN_callf (vs := []) rfl (callX_known hkn) ?_
                    refine wN_mov (v := .bool true) rfl ?_
                    refine wN_end ?_
                    exact And.intro trivial (Exists.intro _ (And.intro rfl rfl))
              · have g7 : (cosB us (oG us ks)) > (cosB us (blB us r)) := of_decide_eq_true g7
                refine wN_pur (v := .bool true) rfl rfl ?_
                refine wN_end ?_
                refine condT ?_
                refine wN_seq ?_
                refine wN_callf (vs := []) rfl (callX_known hkn) ?_
                refine wN_mov (v := .bool true) rfl ?_
                refine wN_end ?_
                exact And.intro trivial (Exists.intro _ (And.intro rfl rfl))
            · have g6 : (cosB us (blB us r)) ≠ (cosB us (blB us r)) := by simpa using g6
              omega
      · by_cases e4 : blE us r = 4
        · have e2 : blN us r = 0 := by unfold blN; rw [if_neg e0]
          have e3 : blC us r = 0 := by unfold blC; rw [if_neg e0]
          rw [e2, e3] at fH3
          rw [e4] at fH3
          obtain ⟨h5, hok, hr, hB⟩ := blE0 (us := us) (r := r) (.inr e4)
          rw [decide_eq_false e0] at hB
          have hru := (Rc.ok_t hr).1
          refine wN_callf (vs := [.slice sa us.length cap, .agg (Rc.f r).toArray]) rfl (callX_args fH3) ?_
          refine wN_mov (v := .tuple #[.slice a 0 c, iv 0, iv 4]) rfl ?_
          refine wN_pur (v := .slice a 0 c) rfl (by kernel_rfl) ?_
          refine wN_pur (v := iv 0) rfl (by kernel_rfl) ?_
          refine wN_pur (v := iv 4) rfl (by kernel_rfl) ?_
          refine wN_mov (v := .slice a 0 c) rfl ?_
          refine wN_mov (v := iv 0) rfl ?_
          refine wN_mov (v := iv 4) rfl ?_
          refine wN_end ?_
          refine wN_seq ?_
          refine wN_mov (v := iv 4) rfl ?_
          refine wN_b_neq (a := 4) (b := 0) rfl rfl ?_
          intro t12 g12; obtain rfl : t12 = true := by rw [← g12]; rfl
          refine wN_mov (v := .bool true) rfl ?_
          refine wN_g rfl (wN_mov (v := iv 4) rfl ?_)
          refine wN_g rfl (wN_b_neq (a := 4) (b := 4) rfl rfl ?_)
          intro t13 g13; obtain rfl : t13 = false := by rw [← g13]; rfl
          refine wN_pur (v := .bool false) rfl rfl ?_
          refine wN_end ?_
          refine condF ?_
          first | refine wN_skip ?_ | skip
          refine wN_seq ?_
          refine wN_mov (v := .slice sa us.length cap) rfl ?_
          obtain ⟨H10, fH10, kH10⟩ := tanks35_ok (kn := kn) (lo := lo) (H := H3) hs hok (by omega) (by omega)
          refine wN_callf (vs := [.slice sa us.length cap]) rfl (callX_args fH10) ?_
          have mH10 := kH10.1
          have hk := hk.trans kH10
          have hs := kH10.sl0 hs
          have hy := kH10.sl0 hy
          have c1 := kH10.cl c1 (by simp)
          refine wN_pur (v := .bool false) rfl rfl ?_
          refine wN_mov (v := .bool false) rfl ?_
          refine wN_g rfl (wN_lda (b := H.next) (o := 0) rfl c1.rd (show row 7 _ _ = some [iv r.un, iv r.s1, iv r.s2, iv r.a1, iv r.a2, iv r.c1, iv r.c2] from rfl) ?_)
          obtain ⟨H11, fH11, kH11⟩ := recipe36_ok (kn := kn) (lo := lo) (H := H10) hr (by omega)
          refine wN_g rfl (wN_callf (vs := [.agg (Rc.f r).toArray]) rfl (callX_args fH11) ?_)
          have mH11 := kH11.1
          have hk := hk.trans kH11
          have hs := kH11.sl0 hs
          have hy := kH11.sl0 hy
          have c1 := kH11.cl c1 (by simp)
          refine wN_g rfl (wN_pur (v := .bool false) rfl rfl ?_)
          refine wN_pur (v := .bool false) rfl rfl ?_
          refine wN_end ?_
          refine condF ?_
          first | refine wN_skip ?_ | skip
          refine wN_seq ?_
          refine wN_mov (v := .slice sa us.length cap) rfl ?_
          refine wN_mov (v := .slice ba mb cb) rfl ?_
          obtain ⟨xa, xc, H12, fH12, kH12, sx⟩ := some37_ok (kn := kn) (lo := lo) (H := H11) hs hy hkl (by omega) hm9 hle hok hn8 (by omega)
          rw [oG_nf] at sx
          refine wN_callf (vs := [.slice sa us.length cap, .slice ba mb cb]) rfl (callX_args fH12) ?_
          have mH12 := kH12.1
          have hk := hk.trans kH12
          have hs := kH12.sl0 hs
          have hy := kH12.sl0 hy
          have c1 := kH12.cl c1 (by simp)
          have fx := sx.old
          refine wN_mov (v := .slice xa us.length xc) rfl ?_
          refine wN_end ?_
          refine wN_seq ?_
          refine wN_mov (v := .slice sa us.length cap) rfl ?_
          refine wN_lda (b := H.next) (o := 0) rfl c1.rd (show row 7 _ _ = some [iv r.un, iv r.s1, iv r.s2, iv r.a1, iv r.a2, iv r.c1, iv r.c2] from rfl) ?_
          refine wN_mov (v := .slice xa us.length xc) rfl ?_
          obtain ⟨H13, fH13, kH13⟩ := right38_ok (kn := kn) (lo := lo) (H := H12) (g := oG us ks) (r := r) hs sx (oG_in hok) (fun i hi => oG_un hok hi) hok hr (by omega) (by omega)
          have mH13 := kH13.1
          have hk := hk.trans kH13
          have hs := kH13.sl0 hs
          have hy := kH13.sl0 hy
          have c1 := kH13.cl c1 (by simp)
          have sx := kH13.sl0 sx
          cases hO : (decide (sm (oG us ks) us.length = r.un) && rigB us r (oG us ks))
          · rw [hO] at fH13
            refine wN_callf (vs := [.slice sa us.length cap, .agg (Rc.f r).toArray, .slice xa us.length xc]) rfl (callX_args fH13) ?_
            refine wN_mov (v := .tuple #[.bool false, iv (cosB us (oG us ks))]) rfl ?_
            refine wN_pur (v := .bool false) rfl (by kernel_rfl) ?_
            refine wN_pur (v := iv (cosB us (oG us ks))) rfl (by kernel_rfl) ?_
            refine wN_mov (v := .bool false) rfl ?_
            refine wN_mov (v := iv (cosB us (oG us ks))) rfl ?_
            refine wN_end ?_
            refine wN_seq ?_
            refine wN_mov (v := iv 4) rfl ?_
            refine wN_c_neq (a := 4) (b := 0) rfl rfl ?_
            refine wN_end ?_
            refine condT ?_
            refine wN_seq ?_
            refine wN_mov (v := .slice a 0 c) rfl ?_
            refine wN_len (m := 0) rfl ?_
            refine wN_b_eql (a := 0) (b := 0) rfl rfl ?_
            intro t14 g14; obtain rfl : t14 = true := by rw [← g14]; rfl
            refine wN_mov (v := .bool true) rfl ?_
            refine wN_g rfl (wN_mov (v := iv 0) rfl ?_)
            refine wN_g rfl (wN_b_eql (a := 0) (b := 0) rfl rfl ?_)
            intro t15 g15; obtain rfl : t15 = true := by rw [← g15]; rfl
            refine wN_pur (v := .bool true) rfl rfl ?_
            refine wN_mov (v := .bool true) rfl ?_
            refine wN_g rfl (wN_mov (v := .bool false) rfl ?_)
            refine wN_g rfl (wN_pur (v := .bool true) rfl rfl ?_)
            refine wN_pur (v := .bool true) rfl rfl ?_
            refine wN_mov (v := .bool true) rfl ?_
            refine wN_g rfl (wN_callf (vs := []) rfl (callX_known hkn) ?_)
            refine wN_pur (v := .bool true) rfl rfl ?_
            refine wN_mov (v := .bool true) rfl ?_
            refine wN_end ?_
            exact And.intro trivial (Exists.intro _ (And.intro rfl rfl))
          · rw [hO] at fH13
            have hI2 := isB_of hok hO
            refine wN_callf (vs := [.slice sa us.length cap, .agg (Rc.f r).toArray, .slice xa us.length xc]) rfl (callX_args fH13) ?_
            refine wN_mov (v := .tuple #[.bool true, iv (cosB us (oG us ks))]) rfl ?_
            refine wN_pur (v := .bool true) rfl (by kernel_rfl) ?_
            refine wN_pur (v := iv (cosB us (oG us ks))) rfl (by kernel_rfl) ?_
            refine wN_mov (v := .bool true) rfl ?_
            refine wN_mov (v := iv (cosB us (oG us ks))) rfl ?_
            refine wN_end ?_
            refine wN_seq ?_
            refine wN_mov (v := iv 4) rfl ?_
            refine wN_c_neq (a := 4) (b := 0) rfl rfl ?_
            refine wN_end ?_
            refine condT ?_
            refine wN_seq ?_
            refine wN_mov (v := .slice a 0 c) rfl ?_
            refine wN_len (m := 0) rfl ?_
            refine wN_b_eql (a := 0) (b := 0) rfl rfl ?_
            intro t16 g16; obtain rfl : t16 = true := by rw [← g16]; rfl
            refine wN_mov (v := .bool true) rfl ?_
            refine wN_g rfl (wN_mov (v := iv 0) rfl ?_)
            refine wN_g rfl (wN_b_eql (a := 0) (b := 0) rfl rfl ?_)
            intro t17 g17; obtain rfl : t17 = true := by rw [← g17]; rfl
            refine wN_pur (v := .bool true) rfl rfl ?_
            refine wN_mov (v := .bool true) rfl ?_
            refine wN_g rfl (wN_mov (v := .bool true) rfl ?_)
            exact absurd hI2 (fun q => no_isB (by omega) hB q)
        · have e2 : blN us r = 0 := by unfold blN; rw [if_neg e0]
          have e3 : blC us r = 0 := by unfold blC; rw [if_neg e0]
          rw [e2, e3] at fH3
          refine wN_callf (vs := [.slice sa us.length cap, .agg (Rc.f r).toArray]) rfl (callX_args fH3) ?_
          refine wN_mov (v := .tuple #[.slice a 0 c, iv 0, iv (blE us r)]) rfl ?_
          refine wN_pur (v := .slice a 0 c) rfl (by kernel_rfl) ?_
          refine wN_pur (v := iv 0) rfl (by kernel_rfl) ?_
          refine wN_pur (v := iv (blE us r)) rfl (by kernel_rfl) ?_
          refine wN_mov (v := .slice a 0 c) rfl ?_
          refine wN_mov (v := iv 0) rfl ?_
          refine wN_mov (v := iv (blE us r)) rfl ?_
          refine wN_end ?_
          refine wN_seq ?_
          refine wN_mov (v := iv (blE us r)) rfl ?_
          refine wN_b_neq (a := (blE us r)) (b := 0) rfl rfl ?_
          intro t18 g18; cases t18
          · have g18 : ¬ ((blE us r) ≠ 0) := by simpa using g18
            omega
          · have g18 : (blE us r) ≠ 0 := by simpa using g18
            refine wN_mov (v := .bool true) rfl ?_
            refine wN_g rfl (wN_mov (v := iv (blE us r)) rfl ?_)
            refine wN_g rfl (wN_b_neq (a := (blE us r)) (b := 4) rfl rfl ?_)
            intro t19 g19; cases t19
            · have g19 : ¬ ((blE us r) ≠ 4) := by simpa using g19
              omega
            · have g19 : (blE us r) ≠ 4 := by simpa using g19
              refine wN_pur (v := .bool true) rfl rfl ?_
              refine wN_end ?_
              refine condT ?_
              refine wN_seq ?_
              refine wN_mov (v := .slice a 0 c) rfl ?_
              refine wN_len (m := 0) rfl ?_
              refine wN_b_eql (a := 0) (b := 0) rfl rfl ?_
              intro t20 g20; obtain rfl : t20 = true := by rw [← g20]; rfl
              refine wN_mov (v := .bool true) rfl ?_
              refine wN_g rfl (wN_mov (v := iv 0) rfl ?_)
              refine wN_g rfl (wN_b_eql (a := 0) (b := 0) rfl rfl ?_)
              intro t21 g21; obtain rfl : t21 = true := by rw [← g21]; rfl
              refine wN_pur (v := .bool true) rfl rfl ?_
              refine wN_mov (v := .bool true) rfl ?_
              refine wN_g rfl (wN_callf (vs := []) rfl (callX_known hkn) ?_)
              refine wN_pur (v := .bool true) rfl rfl ?_
              refine wN_mov (v := .bool true) rfl ?_
              refine wN_end ?_
              exact And.intro trivial (Exists.intro _ (And.intro rfl rfl))
    · have g1 : (mb : Int) = 0 := by simpa using g1
      refine wN_pur (v := .bool true) rfl rfl ?_
      refine wN_end ?_
      refine condT ?_
      refine wN_seq ?_
      refine wN_callf (vs := []) rfl (callX_known hkn) ?_
      refine wN_mov (v := .bool true) rfl ?_
      refine wN_end ?_
      exact And.intro trivial (Exists.intro _ (And.intro rfl rfl))
  · refine wN_callf (vs := [.slice sa us.length cap, iv 400000]) rfl (callX_args fH2) ?_
    refine wN_mov (v := .bool true) rfl ?_
    refine wN_gs rfl ?_
    refine wN_gs rfl ?_
    refine wN_gs rfl ?_
    refine wN_pur (v := .bool true) rfl rfl ?_
    refine wN_end ?_
    refine condT ?_
    refine wN_seq ?_
    refine wN_callf (vs := []) rfl (callX_known hkn) ?_
    refine wN_mov (v := .bool true) rfl ?_
    refine wN_end ?_
    exact And.intro trivial (Exists.intro _ (And.intro rfl rfl))
end
end Go.Ax

namespace Go.Ax
open Go Go.RowKit Go.Proofs Go.ChangeShapes Go.WideShapes Go.Deep

/-- A type whose cells are whole numbers. -/
def IntT (P : Program) (t : TypeId) : Prop := ∀ (H : Type) (enc : TypeId × Value → H) (w : World) (base : Nat) (spare : Nat → Bool) (held : Bool) (fuel : Nat) (cs : List Value) (x : DataW H × List MemPlace),
  DataW.trod enc P w base spare held fuel t cs = some x → cs.length = P.cellsOf t ∧ ∀ j, j < cs.length → ∃ n, cs[j]? = some (.int .i64 n)
theorem IntT.int {P : Program} {t : TypeId} (ht : P.underlying t = some (.int .i64)) (hc : P.cellsOf t = 1) : IntT P t := by
  intro H enc w base spare held fuel cs x h
  obtain ⟨n, rfl, _⟩ := DataW.trod_int ht h
  refine ⟨by rw [hc]; rfl, fun j hj => ⟨n, ?_⟩⟩
  have : j = 0 := by simp at hj; omega
  subst this; rfl
theorem IntT.struct {P : Program} {t : TypeId} {fs : Array Field} (ht : P.underlying t = some (.struct fs)) (hf : ∀ f ∈ fs.toList, IntT P f.type)
    (hcov : ((List.range (P.cellsOf t)).all fun j => fs.toList.any fun f => decide (f.offset ≤ j) && decide (j < f.offset + P.cellsOf f.type)) = true) : IntT P t := by
  intro H enc w base spare held fuel cs x h
  obtain ⟨xs, n, _, _, hlen, hxl, hg⟩ := DataW.trod_struct ht h
  refine ⟨hlen, fun j hj => ?_⟩
  have h1 := List.all_eq_true.1 hcov j (List.mem_range.2 (by omega))
  obtain ⟨f, hfm, h2⟩ := List.any_eq_true.1 h1
  simp only [Bool.and_eq_true, decide_eq_true_eq] at h2
  obtain ⟨i, hi, hfi⟩ := List.getElem_of_mem hfm
  have hfs : fs[i]? = some f := by
    rw [← Array.getElem?_toList, List.getElem?_eq_getElem hi, hfi]
  have hi2 : i < xs.length := by simpa [hxl] using hi
  have h3 := hg i f hfs
  rw [List.getElem?_eq_getElem hi2] at h3
  obtain ⟨h4, h5⟩ := hf f hfm _ _ _ _ _ _ _ _ _ h3
  obtain ⟨m, hm⟩ := h5 (j - f.offset) (by omega)
  refine ⟨m, ?_⟩
  rw [List.getElem?_take] at hm
  split at hm
  · rw [List.getElem?_drop, show f.offset + (j - f.offset) = j by omega] at hm; exact hm
  · cases hm

/-- A slice of rows of whole numbers, as it is given. -/
structure Given {α : Type} (w : World) (v : Value) (f : α → List Value) (l : List α) (x : Imp) : Prop where
  ok : ∀ (i : Nat) u, x.cs[i]? = some u → w.cell? ⟨x.blk, x.off + i, none⟩ = some u ∧ flat1 u = true
  cs : x.cs = l.flatMap f
  v : (v = .slice none 0 0 ∧ l = []) ∨ ∃ cap, v = .slice (some ⟨x.blk, x.off, none⟩) l.length cap ∧ l.length ≤ cap
theorem flat_get {α : Type} {f : α → List Value} {k : Nat} (hk : 0 < k) : ∀ {l : List α} (_ : ∀ x ∈ l, (f x).length = k) (i : Nat) (u : Value), (l.flatMap f)[i]? = some u → ∃ x, l[i / k]? = some x ∧ (f x)[i % k]? = some u
  | [], _, i, u, h => by simp at h
  | y :: r, hl, i, u, h => by
    have hy := hl y (List.mem_cons_self ..)
    rw [List.flatMap_cons, List.getElem?_append] at h
    split at h
    · rename_i q
      rw [hy] at q
      refine ⟨y, ?_, ?_⟩
      · rw [Nat.div_eq_of_lt q]; rfl
      · rw [Nat.mod_eq_of_lt q]; exact h
    · rename_i q
      rw [hy] at q h
      obtain ⟨x, h1, h2⟩ := flat_get hk (fun x hx => hl x (List.mem_cons_of_mem _ hx)) _ u h
      refine ⟨x, ?_, ?_⟩
      · rw [Nat.div_eq_sub_div hk (by omega)]; exact h1
      · rw [Nat.mod_eq_sub_mod (by omega)]; exact h2
theorem slice_given {H : Type} {enc : TypeId × Value → H} {P : Program} {w : World} {base b0 : Nat} {r : Reach} {held : Bool} {α : Type} (f : α → List Value) (mk : (Nat → Int) → α) (k : Nat) {t e : TypeId} {fuel : Nat} {v : Value} {x : DataW H × List MemPlace}
    (ht : P.underlying t = some (.slice e)) (hI : IntT P e) (hc : P.cellsOf e = k) (hk : 0 < k) (hmk : ∀ N : Nat → Int, f (mk N) = (List.range k).map fun j => Value.int .i64 (N j))
    (hok : Cell.okWide P w r b0 t v) (h : DataW.trod enc P w base (fun _ => true) held fuel t [v] = some x) : ∃ (l : List α) (y : Imp), Given w v f l y := by
  rcases open_slice ht h with ⟨h0, _⟩ | ⟨a, len, cap, m, n, D, Pl, hcs, hb, hl, hm, hmm, hx, hi⟩
  · cases h0
    exact ⟨[], ⟨0, 0, []⟩, fun i u e => by simp at e, rfl, .inl ⟨rfl, rfl⟩⟩
  · cases hcs
    obtain ⟨blk, off, spot⟩ := a
    have hs : spot = none := by
      unfold Cell.okWide at hok
      rw [ht] at hok
      unfold Cell.ok at hok
      simp only [ht] at hok
      exact hok.2.2.2.1
    subst hs
    simp only [if_true] at hmm
    subst hmm
    have hcell : ∀ i, i < len → ∀ j, j < k → ∃ n, w.cell? ⟨blk, off + (i * k + j), none⟩ = some (.int .i64 n) := by
      intro i hil j hj
      obtain ⟨cs', h1, h2⟩ := hi i (by omega)
      obtain ⟨h3, h4⟩ := hI _ _ _ _ _ _ _ _ _ h2
      obtain ⟨_, h5, h6⟩ := World.cells?_some h1
      obtain ⟨n, hn⟩ := h4 j (by omega)
      refine ⟨n, ?_⟩
      have h7 := h6 j (by omega)
      rw [hn, hc, add_add] at h7
      have e : (⟨blk, off, none⟩ : Addr).add (i * k + j) = ⟨blk, off + (i * k + j), none⟩ := by
        unfold Addr.add
        by_cases q : i * k + j = 0
        · simp [q]
        · simp
      rw [e] at h7
      exact h7
    refine ⟨(List.range len).map fun i => mk fun j => match w.cell? ⟨blk, off + (i * k + j), none⟩ with | some (.int _ n) => n | _ => 0, ⟨blk, off, _⟩, ?_, rfl, .inr ⟨m, by simp, by simpa using hl⟩⟩
    intro i u hu
    obtain ⟨y, h1, h2⟩ := flat_get hk (fun y hy => by
      obtain ⟨i, _, rfl⟩ := List.mem_map.1 hy
      rw [hmk]; simp) i u hu
    have hlt : i / k < len := by
      have := get_lt h1
      simpa using this
    rw [List.getElem?_map, List.getElem?_range hlt] at h1
    simp only [Option.map_some, Option.some.injEq] at h1
    subst h1
    have hj : i % k < k := Nat.mod_lt _ hk
    rw [hmk, List.getElem?_map, List.getElem?_range hj] at h2
    simp only [Option.map_some, Option.some.injEq] at h2
    obtain ⟨n, hn⟩ := hcell _ hlt _ hj
    rw [hn] at h2
    subst h2
    rw [Nat.div_add_mod' ] at hn
    exact ⟨hn, rfl⟩
theorem Given.rel {α : Type} {w : World} {v : Value} {f : α → List Value} {l : List α} {x : Imp} (g : Given w v f l x) {r : Ren} {H : Hp} {b : Nat} (hr : r b = some ⟨x.blk, x.off, none⟩) (hb : b < H.next) (hc : cellsOf H b = some x.cs) (hro : H.t.get b = some (.ro x.cs)) :
    ∃ a cap, VR r (.slice a l.length cap) v ∧ Sl H a l.length cap (l.flatMap f) ∧ ∀ b, a = some ⟨b, 0, none⟩ → H.t.get b = some (.ro (l.flatMap f)) := by
  rcases g.v with ⟨rfl, rfl⟩ | ⟨cap, rfl, hl⟩
  · exact ⟨none, 0, .nilSlice, .inl ⟨.inl rfl, rfl, rfl, rfl⟩, fun b e => by cases e⟩
  · refine ⟨some ⟨b, 0, none⟩, cap, ?_, .inr ⟨b, rfl, ⟨hb, by rw [hc, g.cs]⟩, hl⟩, fun b' e => by cases e; rw [hro, g.cs]⟩
    have := VR.slice (o := 0) (n := l.length) (c := cap) hr rfl hl
    simpa using this
end Go.Ax

/-! Slices of rows of plain cells, as arguments. -/
namespace Go.Ax
open Go Go.RowKit Go.Proofs Go.ChangeShapes Go.WideShapes Go.Deep

theorem IntT.row {α : Type} {P : Program} {t : TypeId} {k : Nat} {f : α → List Value} {mk : (Nat → Int) → α} (h : IntT P t) (hc : P.cellsOf t = k) (hmk : ∀ N : Nat → Int, f (mk N) = (List.range k).map fun j => Value.int .i64 (N j))
    {H : Type} {enc : TypeId × Value → H} {w : World} {base : Nat} {spare : Nat → Bool} {held : Bool} (fuel : Nat) (cs : List Value) (x : DataW H × List MemPlace) (hx : DataW.trod enc P w base spare held fuel t cs = some x) : ∃ y : α, cs = f y ∧ True := by
  obtain ⟨h1, h2⟩ := h _ _ _ _ _ _ _ _ _ hx
  have : ∃ N : Nat → Int, ∀ j, j < cs.length → cs[j]? = some (.int .i64 (N j)) := by
    refine ⟨fun j => match cs[j]? with | some (.int _ n) => n | _ => 0, fun j hj => ?_⟩
    obtain ⟨n, hn⟩ := h2 j hj
    simp [hn]
  obtain ⟨N, hN⟩ := this
  refine ⟨mk N, ?_, trivial⟩
  rw [hmk]
  apply List.ext_getElem?
  intro j
  by_cases hj : j < k
  · rw [hN j (by omega), List.getElem?_map, List.getElem?_range hj]; rfl
  · rw [List.getElem?_eq_none (by omega), List.getElem?_eq_none (by simp; omega)]
theorem spot_of {w : World} {a : Addr} {v : Value} (h : w.cell? a = some v) : a.spot = none := by
  unfold World.cell? at h
  split at h
  · cases hs : a.spot with
    | none => rfl
    | some x => rw [hs] at h; simp at h
  · cases h
theorem add_zero' (a : Addr) : a.add 0 = a := by unfold Addr.add; simp
theorem add_plain (b o n : Nat) : (⟨b, o, none⟩ : Addr).add n = ⟨b, o + n, none⟩ := by
  unfold Addr.add
  by_cases q : n = 0
  · simp [q]
  · simp [q]
/-- A slice of rows, as it is read; Q: what else is known of a row. -/
theorem rows_read {H : Type} {enc : TypeId × Value → H} {P : Program} {w : World} {base : Nat} {held : Bool} {α : Type} {f : α → List Value} {Q : α → Prop} {k : Nat} {t e : TypeId} {fuel : Nat} {v : Value} {x : DataW H × List MemPlace}
    (ht : P.underlying t = some (.slice e)) (hR : ∀ (fuel : Nat) (cs : List Value) (x : DataW H × List MemPlace), DataW.trod enc P w base (fun _ => true) held fuel e cs = some x → ∃ y : α, cs = f y ∧ Q y) (hc : P.cellsOf e = k) (hk : 0 < k) (hfk : ∀ y, (f y).length = k)
    (h : DataW.trod enc P w base (fun _ => true) held fuel t [v] = some x) : ∃ (l : List α), l.length ≤ maxLen ∧ (∀ y ∈ l, Q y) ∧
      (((v = .slice none 0 0 ∨ ∃ a', v = .slice (some a') 0 0) ∧ l = []) ∨ ∃ blk off cap, v = .slice (some ⟨blk, off, none⟩) l.length cap ∧ l.length ≤ cap ∧ ∀ (i : Nat) u, (l.flatMap f)[i]? = some u → w.cell? ⟨blk, off + i, none⟩ = some u) := by
  rcases open_slice ht h with ⟨h0, _⟩ | ⟨a, len, cap, m, n, D, Pl, hcs, hb, hl, hm, hmm, hx, hi⟩
  · cases h0
    exact ⟨[], by simp, fun y hy => by simp at hy, .inl ⟨.inl rfl, rfl⟩⟩
  cases hcs
  simp only [if_true] at hmm
  subst hmm
  rcases Nat.eq_zero_or_pos m with h0 | h0
  · subst h0
    have : len = 0 := by omega
    subst this
    exact ⟨[], by simp, fun y hy => by simp at hy, .inl ⟨.inr ⟨_, rfl⟩, rfl⟩⟩
  obtain ⟨blk, off, spot⟩ := a
  have hs : spot = none := by
    obtain ⟨cs', h1, h2⟩ := hi 0 h0
    obtain ⟨y, hy, _⟩ := hR _ _ _ h2
    obtain ⟨_, h5, h6⟩ := World.cells?_some h1
    have h7 := h6 0 (by omega)
    rw [Nat.zero_mul, add_zero', add_zero'] at h7
    have h8 : cs'[0]? = some (cs'[0]'(by omega)) := List.getElem?_eq_getElem _
    rw [h8] at h7
    exact spot_of h7
  subst hs
  have hrow : ∀ i, i < len → ∃ y : α, Q y ∧ ∀ j, j < k → ∃ u, (f y)[j]? = some u ∧ w.cell? ⟨blk, off + (i * k + j), none⟩ = some u := by
    intro i hil
    obtain ⟨cs', h1, h2⟩ := hi i (by omega)
    obtain ⟨y, rfl, hq⟩ := hR _ _ _ h2
    obtain ⟨_, h5, h6⟩ := World.cells?_some h1
    refine ⟨y, hq, fun j hj => ?_⟩
    have h7 := h6 j (by omega)
    have h8 : (f y)[j]? = some ((f y)[j]'(by rw [hfk]; exact hj)) := List.getElem?_eq_getElem _
    rw [h8, hc, add_plain, add_plain, Nat.add_assoc] at h7
    exact ⟨_, h8, h7⟩
  have key : ∀ n, n ≤ len → ∃ l : List α, l.length = n ∧ (∀ y ∈ l, Q y) ∧ ∀ (i : Nat) y, l[i]? = some y → ∀ j, j < k → ∃ u, (f y)[j]? = some u ∧ w.cell? ⟨blk, off + (i * k + j), none⟩ = some u := by
    intro n
    induction n with
    | zero => intro _; exact ⟨[], rfl, fun y hy => by simp at hy, fun i y e => by simp at e⟩
    | succ n ih =>
      intro hn
      obtain ⟨l, h1, hq, h2⟩ := ih (by omega)
      obtain ⟨y, hyq, hy⟩ := hrow n (by omega)
      refine ⟨l ++ [y], by simp [h1], fun z hz => ?_, fun i z e => ?_⟩
      · simp only [List.mem_append, List.mem_singleton] at hz
        rcases hz with hz | rfl
        · exact hq z hz
        · exact hyq
      rw [List.getElem?_append] at e
      split at e
      · exact h2 i z e
      · rename_i q
        have : i = n := by have := get_lt e; simp at this; omega
        subst this
        rw [h1, Nat.sub_self] at e
        simp at e; subst e
        exact hy
  obtain ⟨l, hl1, hq, hl2⟩ := key len (Nat.le_refl _)
  refine ⟨l, by omega, hq, .inr ⟨blk, off, m, by rw [hl1], by omega, fun i u hu => ?_⟩⟩
  obtain ⟨y, h1, h2⟩ := flat_get hk (fun y _ => hfk y) i u hu
  have hj : i % k < k := Nat.mod_lt _ hk
  obtain ⟨u', e1, e2⟩ := hl2 _ y h1 _ hj
  rw [h2] at e1; cases e1
  rw [Nat.div_add_mod'] at e2
  exact e2
/-- Rows of plain cells. -/
theorem rows_givenG {H : Type} {enc : TypeId × Value → H} {P : Program} {w : World} {base b0 : Nat} {r : Reach} {held : Bool} {α : Type} {f : α → List Value} {Q : α → Prop} {k : Nat} {t e : TypeId} {fuel : Nat} {v : Value} {x : DataW H × List MemPlace}
    (ht : P.underlying t = some (.slice e)) (hR : ∀ (fuel : Nat) (cs : List Value) (x : DataW H × List MemPlace), DataW.trod enc P w base (fun _ => true) held fuel e cs = some x → ∃ y : α, cs = f y ∧ Q y) (hc : P.cellsOf e = k) (hk : 0 < k) (hfk : ∀ y, (f y).length = k) (hflat : ∀ y u, u ∈ f y → flat1 u = true)
    (hok : Cell.okWide P w r b0 t v) (h : DataW.trod enc P w base (fun _ => true) held fuel t [v] = some x) : ∃ (l : List α) (y : Imp), Given w v f l y ∧ l.length ≤ maxLen ∧ ∀ y ∈ l, Q y := by
  obtain ⟨l, h1, h2, ⟨h3, rfl⟩ | ⟨blk, off, cap, h3, h4, h5⟩⟩ := rows_read ht hR hc hk hfk h
  · rcases h3 with h3 | ⟨⟨blk, off, spot⟩, rfl⟩
    · exact ⟨[], ⟨0, 0, []⟩, ⟨fun i u e => by simp at e, rfl, .inl ⟨h3, rfl⟩⟩, h1, h2⟩
    · have hs : spot = none := by
        unfold Cell.okWide at hok
        rw [ht] at hok
        unfold Cell.ok at hok
        simp only [ht] at hok
        exact hok.2.2.2.1
      subst hs
      exact ⟨[], ⟨blk, off, []⟩, ⟨fun i u e => by simp at e, rfl, .inr ⟨0, rfl, Nat.le_refl 0⟩⟩, h1, h2⟩
  · refine ⟨l, ⟨blk, off, l.flatMap f⟩, ⟨fun i u hu => ⟨h5 i u hu, ?_⟩, rfl, .inr ⟨cap, h3, h4⟩⟩, h1, h2⟩
    obtain ⟨y, hy, hu'⟩ := List.mem_flatMap.1 (List.mem_of_getElem? hu)
    exact hflat y u hu'
theorem maxLen_le : maxLen ≤ 9223372036854775807 := by decide

end Go.Ax

/-! Arguments that point to what points: inner slices, rows of slices. -/
namespace Go.Ax
open Go Go.RowKit Go.Proofs Go.ChangeShapes Go.WideShapes Go.Deep

def renOf (imps : List Imp) : Ren := fun b => (imps[b]?).map fun x => ⟨x.blk, x.off, none⟩
theorem imports3 {P : Program} (imps outs : List Imp) (w : World) (h : ∀ x ∈ imps, ∀ (i : Nat) v, x.cs[i]? = some v → w.cell? ⟨x.blk, x.off + i, none⟩ = some v ∧ flat1 v = true)
    (hcs : ∀ x ∈ outs, ∀ (i : Nat) v, x.cs[i]? = some v → ∃ v', w.cell? ⟨x.blk, x.off + i, none⟩ = some v' ∧ VR (renOf imps) v v') :
    ∃ (r : Ren) (H : Hp), Rel P r w.heap.size H w ∧ H.next = (imps ++ outs).length ∧ (∀ b loc, r b = some loc → b < H.next) ∧ Ren.Le (renOf imps) r ∧ ∀ (b : Nat) x, (imps ++ outs)[b]? = some x → r b = some ⟨x.blk, x.off, none⟩ ∧ H.t.get b = some (.ro x.cs) := by
  have hall : ∀ x ∈ imps ++ outs, ∀ (i : Nat) v, x.cs[i]? = some v → ∃ v', w.cell? ⟨x.blk, x.off + i, none⟩ = some v' ∧ VR (renOf imps) v v' := by
    intro x hx i v hv
    rcases List.mem_append.1 hx with hx | hx
    · obtain ⟨h1, h2⟩ := h x hx i v hv
      exact ⟨v, h1, flat1_vr h2⟩
    · exact hcs x hx i v hv
  obtain ⟨t, ht⟩ := tr_of (fun b => ((imps ++ outs)[b]?).map fun x => .ro x.cs) (imps ++ outs).length
  have hle : Ren.Le (renOf imps) (fun b => ((imps ++ outs)[b]?).map fun x => ⟨x.blk, x.off, none⟩) := fun b loc e => by
    unfold renOf at e
    have hlt : b < imps.length := by
      rcases Nat.lt_or_ge b imps.length with q | q
      · exact q
      · rw [List.getElem?_eq_none q] at e; cases e
    show ((imps ++ outs)[b]?).map _ = _
    rw [List.getElem?_append_left hlt]; exact e
  have hr : ∀ (b : Nat) loc, ((imps ++ outs)[b]?).map (fun x => (⟨x.blk, x.off, none⟩ : Loc)) = some loc → ∃ x, (imps ++ outs)[b]? = some x ∧ b < (imps ++ outs).length ∧ loc = ⟨x.blk, x.off, none⟩ ∧ t.get b = some (.ro x.cs) := by
    intro b loc e
    cases hx : (imps ++ outs)[b]? with
    | none => rw [hx] at e; cases e
    | some x =>
      rw [hx] at e
      simp at e
      have hlt := get_lt hx
      exact ⟨x, rfl, hlt, e.symm, by rw [ht, if_pos hlt, hx]; rfl⟩
  have low : ∀ {g o : Nat} {v : Value}, w.cell? ⟨g, o, none⟩ = some v → g < w.heap.size := fun {g o v} hv => by
    unfold World.cell? at hv
    rcases Nat.lt_or_ge g w.heap.size with q | q
    · exact q
    · rw [Array.getElem?_eq_none q] at hv; cases hv
  refine ⟨fun b => ((imps ++ outs)[b]?).map fun x => ⟨x.blk, x.off, none⟩, { next := (imps ++ outs).length, t }, ⟨?_, ?_, ?_, Nat.le_refl _⟩, rfl, ?_, hle, ?_⟩
  · intro b loc e
    obtain ⟨x, hx, hlt, rfl, hg⟩ := hr b loc e
    refine ⟨hlt, ?_⟩
    show Dm _ _ _ (t.get b)
    rw [hg]
    cases hc : x.cs with
    | nil => exact .inl rfl
    | cons v l =>
      obtain ⟨v', h1, _⟩ := hall x (List.mem_of_getElem? hx) 0 v (by rw [hc]; rfl)
      exact .inr (low h1)
  · intro b loc o e eo
    obtain ⟨x, hx, hlt, rfl, hg⟩ := hr b loc e
    rw [hg] at eo; cases eo
    refine ⟨rfl, fun i v ev => ?_⟩
    obtain ⟨v', h1, h2⟩ := hall x (List.mem_of_getElem? hx) i v ev
    unfold World.cell? at h1
    simp only at h1
    split at h1
    · rename_i C e' f hC
      exact ⟨C, e', f, v', hC, by simpa using h1, h2.mono hle⟩
    · cases h1
  · intro b b' loc loc' e e' _ hl _
    obtain ⟨x, hx, hlt, rfl, hg⟩ := hr b loc e
    obtain ⟨o, h1, h2, h3⟩ := hl
    have : t.get b = some o := h1
    rw [hg] at this; cases this
    cases h3
  · intro b loc e
    obtain ⟨x, hx, hlt, rfl, hg⟩ := hr b loc e
    exact hlt
  · intro b x hx
    have hlt := get_lt hx
    refine ⟨by simp only [hx, Option.map_some], ?_⟩
    show t.get b = _
    rw [ht, if_pos hlt, hx]; rfl

/-- An inner slice, as it is given: an empty one may have any address. -/
structure GivI {α : Type} (w : World) (v : Value) (f : α → List Value) (l : List α) (x : Imp) : Prop where
  ok : ∀ (i : Nat) u, x.cs[i]? = some u → w.cell? ⟨x.blk, x.off + i, none⟩ = some u ∧ flat1 u = true
  cs : x.cs = l.flatMap f
  v : ((v = .slice none 0 0 ∨ ∃ a', v = .slice (some a') 0 0) ∧ l = []) ∨ ∃ cap, v = .slice (some ⟨x.blk, x.off, none⟩) l.length cap ∧ l.length ≤ cap
theorem GivI.rel {α : Type} {w : World} {v : Value} {f : α → List Value} {l : List α} {x : Imp} (g : GivI w v f l x) {r : Ren} {b : Nat} (hr : r b = some ⟨x.blk, x.off, none⟩) :
    ∃ a cap, VR r (.slice a l.length cap) v ∧ (∀ y, a = some ⟨y, 0, none⟩ → y = b) ∧ ∀ H : Hp, b < H.next → H.t.get b = some (.ro x.cs) → Sl H a l.length cap (l.flatMap f) := by
  rcases g.v with ⟨rfl | ⟨a', rfl⟩, rfl⟩ | ⟨cap, rfl, hl⟩
  · exact ⟨none, 0, .nilSlice, fun y e => by (cases e), fun H _ _ => .inl ⟨.inl rfl, rfl, rfl, rfl⟩⟩
  · exact ⟨some ⟨0, 0, some 0⟩, 0, .weird, fun y e => by (cases e), fun H _ _ => .inl ⟨.inr rfl, rfl, rfl, rfl⟩⟩
  · refine ⟨some ⟨b, 0, none⟩, cap, ?_, fun y e => by (cases e; rfl), fun H hb hc => .inr ⟨b, rfl, ⟨hb, by unfold cellsOf; rw [hc, g.cs]⟩, hl⟩⟩
    have := VR.slice (o := 0) (n := l.length) (c := cap) hr rfl hl
    simpa using this
structure RV where
  rv : Value
  l : List Int
  x : Imp
def RV.f (r : RV) : List Value := [r.rv]
def RV.Q (w : World) (r : RV) : Prop := GivI w r.rv (fun n : Int => [iv n]) r.l r.x
end Go.Ax

/-! Machines and what is flat as arguments. -/
namespace Go.Ax
open Go Go.RowKit Go.Proofs Go.ChangeShapes Go.WideShapes Go.Deep

/-- A machine, as it is given. -/
structure MV where
  rv : Value
  l : List Ou
  x : Imp
def MV.f (r : MV) : List Value := [r.rv]
def MV.Q (w : World) (r : MV) : Prop := GivI w r.rv Ou.f r.l r.x
theorem imports_flat {P : Program} (pre : List Imp) {w : World} (h : ∀ x ∈ pre, ∀ (i : Nat) v, x.cs[i]? = some v → w.cell? ⟨x.blk, x.off + i, none⟩ = some v ∧ flat1 v = true) :
    ∃ (r : Ren) (H : Hp), Rel P r w.heap.size H w ∧ (∀ b loc, r b = some loc → b < H.next) ∧ (∀ (b : Nat) x, pre[b]? = some x → b < H.next ∧ r b = some ⟨x.blk, x.off, none⟩ ∧ H.t.get b = some (.ro x.cs)) := by
  obtain ⟨r, H, h1, h2, h3, h4, h5⟩ := imports3 (P := P) pre [] w h (fun x hx => by simp at hx)
  refine ⟨r, H, h1, h3, fun b x hx => ?_⟩
  have := get_lt hx
  obtain ⟨a, c⟩ := h5 b x (by simpa using hx)
  exact ⟨by rw [h2]; simpa using this, a, c⟩
end Go.Ax


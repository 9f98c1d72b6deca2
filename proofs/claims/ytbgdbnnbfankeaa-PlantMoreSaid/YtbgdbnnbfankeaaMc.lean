import Derived.Test.YtbgdbnnbfankeaaMb
import Derived.Test.YtbgdbnnbfankeaaChecked
import Derived.Test.YtbgdbnnbfankeaaAxO
import Derived.Deep.Slices
import Derived.Deep.Fields
import Derived.ChangeSame
set_option linter.all false
/-
  Plant: Blend; the document's Tanks, Recipe, Right (written by program).
-/
namespace Go.Ax
open Go Go.RowKit Go.Proofs

def blE (us : List Tn) (r : Rc) : Int := if us.length > 5 then 3 else if (us.all Tn.ok && r.ok) = true then (if (bestB us r).isSome = true then 0 else 4) else 1
def blB (us : List Tn) (r : Rc) : Bl := (bestB us r).getD bz
def blN (us : List Tn) (r : Rc) : Nat := if blE us r = 0 then us.length else 0
def blC (us : List Tn) (r : Rc) : Int := if blE us r = 0 then cosB us (blB us r) else 0
theorem blE0 {us : List Tn} {r : Rc} (h : blE us r = 0 ∨ blE us r = 4) : us.length ≤ 5 ∧ us.all Tn.ok = true ∧ r.ok = true ∧ (bestB us r).isSome = decide (blE us r = 0) := by
  unfold blE at h ⊢
  split at h
  · omega
  · rename_i h5
    split at h
    · rename_i ho
      rw [Bool.and_eq_true] at ho
      refine ⟨by omega, ho.1, ho.2, ?_⟩
      rw [if_neg h5, if_pos (by rw [ho.1, ho.2]; rfl)]
      cases (bestB us r).isSome <;> simp
    · omega
theorem mulR {a b : Int} (h0 : 0 ≤ a) (h1 : a ≤ 2000000) (h2 : 0 ≤ b) (h3 : b ≤ 1000) : -9223372036854775808 ≤ a * b ∧ a * b < 9223372036854775808 := by
  have := Int.mul_nonneg h0 h2
  have := Int.mul_le_mul h1 h3 h2 (by decide)
  omega
theorem in3s : ∃ i, Try.prog.info? 3 = some i ∧ i.size = 1 := by
  have h : (Try.prog.info? 3).map (fun i => Nat.beq i.size 1) = some true := by kernel_rfl
  cases e : Try.prog.info? 3 with
  | none => rw [e] at h; cases h
  | some i => rw [e] at h; exact ⟨i, rfl, by simpa using h⟩
theorem u89 : Try.prog.underlying 89 = some (.array 5 3) := by kernel_rfl
theorem bc_take {b : Bl} {n : Nat} (h : n ≤ 5) : (bc b).take n = nf b n := by
  match n, h with
  | 0, _ => rfl
  | 1, _ => rfl
  | 2, _ => rfl
  | 3, _ => rfl
  | 4, _ => rfl
  | 5, _ => rfl
  | n + 6, h => exact absurd h (by omega)
theorem wN_boxS {P : Program} {kn : FuncId → Option Bool} {lo n : Nat} {r : List RO} {S : Rg} {H : Hp} {K : Rg → Hp → Prop} {d : Option Nat} {x : Operand} {e : TypeId} {v : Value} (hx : evS S x = some v) (h : ∀ H1, Keep H H1 [] → H1.next = H.next + 1 → Sc H1 H.next v.cells.toList → wOps P kn lo n r (putS S d (.pointer (some ⟨H.next, 0, none⟩))) H1 K) : wOps P kn lo n (⟨d, none, .box e x⟩ :: r) S H K := by
  simp only [wOps, wRO, wRI, hx]
  intro H1 hH1
  obtain ⟨k1, n1, _⟩ := new_facts hH1
  exact h H1 k1 n1 (new_sc hH1)
theorem heap_arr5 {lo n : Nat} {S : Rg} {H : Hp} {d : Option Tmp} {ty : TypeId} {x y : Operand} {p : String} {b k : Nat} {c : Bl} (h0 : Sc H b (bc c)) (hk : k ≤ 5) (hx : evS S x = some (pt b)) (hy : evS S y = some (iv (k : Int))) :
    heapOp Try.prog lo (frS n S) H ⟨d, .slice 89 x none (some y) none, ty, p, #[], none⟩ = some (.val (.slice (some ⟨b, 0, none⟩) k 5) H, .read b) := by
  obtain ⟨i, hi, hs⟩ := in3s
  obtain ⟨_, e, h2⟩ := h0
  have b0 : boundOf (frS n S) 5 (some y) = some k := by unfold boundOf; simp only [ev_frS, hy]
  have b1 : boundOf (frS n S) 0 none = some 0 := rfl
  unfold heapOp
  simp only [ev_frS, hx, u89, hi, b0, b1, h2, hs, add_none, Nat.mul_one, Nat.add_zero, Nat.ble_eq_true_of_le hk, Nat.ble_eq_true_of_le (Nat.zero_le k), Bool.and_self, cond_true]
  rfl
theorem heap_app5 {lo n : Nat} {S : Rg} {H : Hp} {d : Option Tmp} {ty : TypeId} {x y : Operand} {p : String} {b k : Nat} {c : Bl} (h0 : Cl H b (bc c)) (hk0 : 0 < k) (hk : k ≤ 5) (hx : evS S x = some (.slice none 0 0)) (hy : evS S y = some (.slice (some ⟨b, 0, none⟩) k 5)) :
    heapOp Try.prog lo (frS n S) H ⟨d, .call ⟨.builtin .append, #[x, y], #[42, 42]⟩, ty, p, #[], none⟩ = some (.val (.slice (some ⟨H.next, 0, none⟩) k k) (H.new (.cells (nf c k) 3 true)), .heavy) := by
  have hm : row (k * 1) (bc c) 0 = some (nf c k) := by
    rw [← bc_take hk]
    unfold row
    simp only [List.drop_zero, Nat.mul_one, beq_eq, List.length_take, List.length_cons, List.length_nil, Nat.zero_add, Nat.reduceAdd, Nat.min_eq_left hk, decide_true, cond_true]
  have hsr : srcCells H 1 (.slice (some ⟨b, 0, none⟩) k 5) = some (k, nf c k) := by simp only [srcCells, h0.rd.of, hm]
  have h1 : Nat.beq k 0 = false := by rw [beq_eq]; simp; omega
  unfold heapOp
  simp only [evs, ev_frS, hx, hy, builtinV, List.getElem?_toArray, List.getElem?_cons_zero, List.getElem?_cons_succ, se42, u42, hsr, appendV, h1, Nat.ble_eq_true_of_le (show k ≤ 1048576 by omega), Nat.beq_refl, Bool.and_true, cond_true, cond_false]
  rfl
theorem heap_app0 {lo n : Nat} {S : Rg} {H : Hp} {d : Option Tmp} {ty : TypeId} {x y : Operand} {p : String} {b : Nat} {c : Bl} (h0 : Cl H b (bc c)) (hx : evS S x = some (.slice none 0 0)) (hy : evS S y = some (.slice (some ⟨b, 0, none⟩) 0 5)) :
    heapOp Try.prog lo (frS n S) H ⟨d, .call ⟨.builtin .append, #[x, y], #[42, 42]⟩, ty, p, #[], none⟩ = some (.val (.slice none 0 0) H, .pure) := by
  have hm : row (0 * 1) (bc c) 0 = some [] := rfl
  have hsr : srcCells H 1 (.slice (some ⟨b, 0, none⟩) 0 5) = some (0, []) := by simp only [srcCells, h0.rd.of, hm]
  unfold heapOp
  simp only [evs, ev_frS, hx, hy, builtinV, List.getElem?_toArray, List.getElem?_cons_zero, List.getElem?_cons_succ, se42, u42, hsr, appendV, Nat.beq_refl, Bool.and_true, cond_true, cond_false]
  rfl
theorem heap_list {lo : Nat} {H : Hp} {b k : Nat} {c : Bl} (h0 : Cl H b (bc c)) (hk : k ≤ 5) : ∃ a c' H1 kd, (∀ (n : Nat) (S : Rg) (d : Option Tmp) (x y : Operand) (ty : TypeId) (p : String), evS S x = some (.slice none 0 0) → evS S y = some (.slice (some ⟨b, 0, none⟩) k 5) → heapOp Try.prog lo (frS n S) H ⟨d, .call ⟨.builtin .append, #[x, y], #[42, 42]⟩, ty, p, #[], none⟩ = some (.val (.slice a k c') H1, kd)) ∧ (∀ x, kd ≠ .read x) ∧ Keep H H1 [] ∧ Sl H1 a k c' (nf c k) := by
  rcases Nat.eq_zero_or_pos k with rfl | hp
  · exact ⟨none, 0, H, .pure, fun n S d x y ty p hx hy => heap_app0 h0 hx hy, (fun x e => by cases e), Keep.refl _ _, .inl ⟨.inl rfl, rfl, rfl, rfl⟩⟩
  · exact ⟨some ⟨H.next, 0, none⟩, k, _, .heavy, fun n S d x y ty p hx hy => heap_app5 h0 hp hk hx hy, (fun x e => by cases e), (new_facts rfl).1, .inr ⟨H.next, rfl, ⟨(new_facts rfl).2.2.1, by unfold cellsOf; rw [new_get rfl]⟩, Nat.le_refl _⟩⟩
section
variable {kn : FuncId → Option Bool} {lo : Nat} {H : Hp}
theorem list54_ok {b : Bl} {sa : Option Addr} {cap : Nat} {us : List Tn} (hn : us.length ≤ 5) (hlo : lo ≤ H.next) : ∃ a c H', FnX Try.prog kn lo 54 [.agg (bc b).toArray, .slice sa us.length cap] H (.slice a us.length c) H' ∧ Keep H H' [] ∧ Sl H' a us.length c (nf b us.length) := by
  have key := fnX_low (kn := kn) (lo := lo) (H := H) (args := [.agg (bc b).toArray, .slice sa us.length cap]) (Q := fun w H' => ∃ a c, w = .slice a us.length c ∧ Keep H H' [] ∧ Sl H' a us.length c (nf b us.length)) Try.func54 B54 N54 Z54 L54 (by simp) ?_
  · obtain ⟨w, H', h, a, c, rfl, q⟩ := key; exact ⟨a, c, H', h, q⟩
  have hk := Keep.refl H []
  refine wN_seq ?_
  refine wN_boxS (v := .agg (bc b).toArray) rfl ?_
  intro H1 k1 n1 cb
  have cb : Sc H1 H.next (bc b) := cb
  have mH1 := k1.1
  have hk := hk.trans k1
  refine wN_mov (v := .slice none 0 0) rfl ?_
  refine wN_end ?_
  refine wN_seq ?_
  refine wN_mov (v := .slice sa us.length cap) rfl ?_
  refine wN_len (m := us.length) rfl ?_
  refine wN_memh (k := .read H.next) rfl (by kernel_rfl) (heap_arr5 cb hn rfl rfl) (fun x e => by cases e; exact cb.lt) ?_
  obtain ⟨a, c, H2, kd, eH2, dH2, kH2, sl⟩ := heap_list (lo := lo) cb.cl hn
  refine wN_memh (k := kd) rfl (by kernel_rfl) (eH2 _ _ _ _ _ _ _ rfl rfl) (fun x e => absurd e (dH2 x)) ?_
  have mH2 := kH2.1
  have hk := hk.trans kH2
  refine wN_mov (v := .slice a us.length c) rfl ?_
  refine wN_end ?_
  exact And.intro trivial (Exists.intro _ (And.intro rfl ⟨a, c, rfl, hk, sl⟩))
theorem blB_in {us : List Tn} {r : Rc} (hA : us.all Tn.ok = true) (hr : 1 ≤ r.un) : ∀ i, 0 ≤ blB us r i ∧ blB us r i ≤ 12 := by
  have h := bestB_says (us := us) (r := r) (by omega)
  unfold blB
  cases e : bestB us r with
  | none => intro i; exact ⟨Int.le_refl _, (by decide : (0 : Int) ≤ 12)⟩
  | some b =>
    rw [e] at h
    intro i
    show 0 ≤ b i ∧ b i ≤ 12
    rcases Nat.lt_or_ge i us.length with q | q
    · have a := h.1.un i q
      have c := (Tn.ok_t (tn_at hA q)).1
      unfold unF at a
      omega
    · rw [h.1.z i q]; exact ⟨Int.le_refl _, by decide⟩
/-- Blend -/
theorem blend_ok {r : Rc} {sa : Option Addr} {cap : Nat} {us : List Tn} (hs : Sl H sa us.length cap (tnc us)) (hf : ∀ b, sa = some ⟨b, 0, none⟩ → Ft H b (tnc us)) (hn2 : us.length ≤ 1000000) (hlo : lo ≤ H.next) : ∃ a c H', FnX Try.prog kn lo 25 [.slice sa us.length cap, .agg (Rc.f r).toArray] H (.tuple #[.slice a (blN us r) c, iv (blC us r), iv (blE us r)]) H' ∧ Keep H H' [] ∧ Sl H' a (blN us r) c (nf (blB us r) (blN us r)) := by
  have key := fnX_low (kn := kn) (lo := lo) (H := H) (args := [.slice sa us.length cap, .agg (Rc.f r).toArray]) (Q := fun w H' => ∃ a c, w = .tuple #[.slice a (blN us r) c, iv (blC us r), iv (blE us r)] ∧ Keep H H' [] ∧ Sl H' a (blN us r) c (nf (blB us r) (blN us r))) Try.func25 B25 N25 Z25 L25 (by simp) ?_
  · obtain ⟨w, H', h, a, c, rfl, q⟩ := key; exact ⟨a, c, H', h, q⟩
  have hk := Keep.refl H []
  have fs := hs.old
  refine wN_seq ?_
  refine wN_box (v := .agg (Rc.f r).toArray) rfl ?_
  intro H1 kH1 nH1 c1
  have c1 : Cl H1 H.next [iv r.un, iv r.s1, iv r.s2, iv r.a1, iv r.a2, iv r.c1, iv r.c2] := c1
  have mH1 := kH1.1
  have hk := hk.trans kH1
  have hs := kH1.sl0 hs
  refine wN_mov (v := .slice none 0 0) rfl ?_
  refine wN_mov (v := iv 0) rfl ?_
  refine wN_mov (v := iv 0) rfl ?_
  refine wN_end ?_
  refine wN_seq ?_
  refine wN_mov (v := .slice sa us.length cap) rfl ?_
  refine wN_len (m := us.length) rfl ?_
  refine wN_c_gtr (a := (us.length : Int)) (b := 5) rfl rfl ?_
  refine wN_end ?_
  refine And.intro (fun q1 => ?_) (fun q1 => ?_)
  · have q1 : (us.length : Int) > 5 := of_decide_eq_true q1
    refine wN_seq ?_
    refine wN_mov (v := .slice none 0 0) rfl ?_
    refine wN_mov (v := iv 0) rfl ?_
    refine wN_mov (v := iv 3) rfl ?_
    refine wN_end ?_
    have e : blE us r = 3 := by unfold blE; rw [if_pos (by omega)]
    have e2 : blN us r = 0 := by unfold blN; rw [if_neg (by omega)]
    have e3 : blC us r = 0 := by unfold blC; rw [if_neg (by omega)]
    exact And.intro trivial (Exists.intro _ (And.intro rfl ⟨none, 0, by rw [e, e2, e3]; rfl, hk, by rw [e2]; exact .inl ⟨.inl rfl, rfl, rfl, rfl⟩⟩))
  · have q1 : ¬ ((us.length : Int) > 5) := of_decide_eq_false q1
    first | refine wN_skip ?_ | skip
    refine wN_seq ?_
    refine wN_mov (v := .slice sa us.length cap) rfl ?_
    obtain ⟨H2, fH2, kH2⟩ := vtanks_ok (kn := kn) (lo := lo) (H := H1) hs rfl (by omega) (by omega)
    rw [decide_eq_true (Nat.zero_le _), decide_eq_true (show us.length ≤ 5 by omega), Bool.true_and, Bool.true_and] at fH2
    have mH2 := kH2.1
    have hk := hk.trans kH2
    have hs := kH2.sl0 hs
    have c1 := kH2.cl c1 (by simp)
    cases hA : us.all Tn.ok
    · rw [hA] at fH2
      refine wN_callf (vs := [.slice sa us.length cap]) rfl (callX_args fH2) ?_
      refine wN_pur (v := .bool true) rfl rfl ?_
      refine wN_mov (v := .bool true) rfl ?_
      refine wN_gs rfl ?_
      refine wN_gs rfl ?_
      refine wN_gs rfl ?_
      refine wN_pur (v := .bool true) rfl rfl ?_
      refine wN_end ?_
      refine condT ?_
      refine wN_seq ?_
      refine wN_mov (v := .slice none 0 0) rfl ?_
      refine wN_mov (v := iv 0) rfl ?_
      refine wN_mov (v := iv 1) rfl ?_
      refine wN_end ?_
      have e : blE us r = 1 := by unfold blE; rw [if_neg (by omega), if_neg (by simp [hA]; try simp [hR])]
      have e2 : blN us r = 0 := by unfold blN; rw [if_neg (by omega)]
      have e3 : blC us r = 0 := by unfold blC; rw [if_neg (by omega)]
      exact And.intro trivial (Exists.intro _ (And.intro rfl ⟨none, 0, by rw [e, e2, e3]; rfl, hk, by rw [e2]; exact .inl ⟨.inl rfl, rfl, rfl, rfl⟩⟩))
    · rw [hA] at fH2
      refine wN_callf (vs := [.slice sa us.length cap]) rfl (callX_args fH2) ?_
      refine wN_pur (v := .bool false) rfl rfl ?_
      refine wN_mov (v := .bool false) rfl ?_
      refine wN_g rfl (wN_lda (b := H.next) (o := 0) rfl c1.rd (show row 7 _ _ = some [iv r.un, iv r.s1, iv r.s2, iv r.a1, iv r.a2, iv r.c1, iv r.c2] from rfl) ?_)
      obtain ⟨H3, fH3, kH3⟩ := vrecipe_ok (kn := kn) (lo := lo) (H := H2) (r := r) (by omega)
      have mH3 := kH3.1
      have hk := hk.trans kH3
      have hs := kH3.sl0 hs
      have c1 := kH3.cl c1 (by simp)
      cases hR : r.ok
      · rw [hR] at fH3
        refine wN_g rfl (wN_callf (vs := [.agg (Rc.f r).toArray]) rfl (callX_args fH3) ?_)
        refine wN_g rfl (wN_pur (v := .bool true) rfl rfl ?_)
        refine wN_pur (v := .bool true) rfl rfl ?_
        refine wN_end ?_
        refine condT ?_
        refine wN_seq ?_
        refine wN_mov (v := .slice none 0 0) rfl ?_
        refine wN_mov (v := iv 0) rfl ?_
        refine wN_mov (v := iv 1) rfl ?_
        refine wN_end ?_
        have e : blE us r = 1 := by unfold blE; rw [if_neg (by omega), if_neg (by simp [hA]; try simp [hR])]
        have e2 : blN us r = 0 := by unfold blN; rw [if_neg (by omega)]
        have e3 : blC us r = 0 := by unfold blC; rw [if_neg (by omega)]
        exact And.intro trivial (Exists.intro _ (And.intro rfl ⟨none, 0, by rw [e, e2, e3]; rfl, hk, by rw [e2]; exact .inl ⟨.inl rfl, rfl, rfl, rfl⟩⟩))
      · rw [hR] at fH3
        refine wN_g rfl (wN_callf (vs := [.agg (Rc.f r).toArray]) rfl (callX_args fH3) ?_)
        refine wN_g rfl (wN_pur (v := .bool false) rfl rfl ?_)
        refine wN_pur (v := .bool false) rfl rfl ?_
        refine wN_end ?_
        refine condF ?_
        first | refine wN_skip ?_ | skip
        refine wN_seq ?_
        refine wN_mov (v := .slice sa us.length cap) rfl ?_
        refine wN_lda (b := H.next) (o := 0) rfl c1.rd (show row 7 _ _ = some [iv r.un, iv r.s1, iv r.s2, iv r.a1, iv r.a2, iv r.c1, iv r.c2] from rfl) ?_
        obtain ⟨H4, fH4, kH4⟩ := cheap_ok (kn := kn) (lo := lo) (H := H3) (r := r) hs (fun b e => hk.ft (hf b e) (by simp)) (by omega) hA hR (by omega)
        have mH4 := kH4.1
        have hk := hk.trans kH4
        have hs := kH4.sl0 hs
        have c1 := kH4.cl c1 (by simp)
        have hbb : ∀ i, 0 ≤ blB us r i ∧ blB us r i ≤ 12 := blB_in hA (Rc.ok_t hR).1.1
        cases hB : (bestB us r).isSome
        · rw [hB] at fH4
          refine wN_callf (vs := [.slice sa us.length cap, .agg (Rc.f r).toArray]) rfl (callX_args fH4) ?_
          refine wN_mov (v := .tuple #[.agg (bc (blB us r)).toArray, .bool false]) rfl ?_
          refine wN_pur (v := .agg (bc (blB us r)).toArray) rfl (by kernel_rfl) ?_
          refine wN_pur (v := .bool false) rfl (by kernel_rfl) ?_
          refine wN_alc ?_
          intro H5 kH5 nH5 c5
          have c5 : Cl H5 H4.next [iv 0, iv 0, iv 0, iv 0, iv 0] := c5
          have mH5 := kH5.1
          have hk := hk.trans kH5
          have hs := kH5.sl0 hs
          have c1 := kH5.cl c1 (by simp)
          refine wN_sta (b := H4.next) (o := 0) rfl rfl c5 (by omega) rfl rfl (by simp) ?_
          intro H6 kH6 nH6 sH6
          have mH6 := kH6.1
          have hk := hk.new kH6 (fun b hb => by simp at hb ⊢; omega)
          have hs := kH6.sl hs (fun b e => by have := fs b e; first | (simp; done) | (simp; omega))
          have c1 := kH6.cl c1 (by first | (simp; done) | (simp; omega))
          have c5 : Cl H6 H4.next [iv ((blB us r) 0), iv ((blB us r) 1), iv ((blB us r) 2), iv ((blB us r) 3), iv ((blB us r) 4)] := sH6
          refine wN_mov (v := .bool false) rfl ?_
          refine wN_end ?_
          refine wN_seq ?_
          refine wN_mov (v := .bool false) rfl ?_
          refine wN_pur (v := .bool true) rfl rfl ?_
          refine wN_end ?_
          refine condT ?_
          refine wN_seq ?_
          refine wN_mov (v := .slice none 0 0) rfl ?_
          refine wN_mov (v := iv 0) rfl ?_
          refine wN_mov (v := iv 4) rfl ?_
          refine wN_end ?_
          have e : blE us r = 4 := by unfold blE; rw [if_neg (by omega), if_pos (by simp [hA, hR]), if_neg (by simp [hB])]
          have e2 : blN us r = 0 := by unfold blN; rw [if_neg (by omega)]
          have e3 : blC us r = 0 := by unfold blC; rw [if_neg (by omega)]
          exact And.intro trivial (Exists.intro _ (And.intro rfl ⟨none, 0, by rw [e, e2, e3]; rfl, hk, by rw [e2]; exact .inl ⟨.inl rfl, rfl, rfl, rfl⟩⟩))
        · rw [hB] at fH4
          refine wN_callf (vs := [.slice sa us.length cap, .agg (Rc.f r).toArray]) rfl (callX_args fH4) ?_
          refine wN_mov (v := .tuple #[.agg (bc (blB us r)).toArray, .bool true]) rfl ?_
          refine wN_pur (v := .agg (bc (blB us r)).toArray) rfl (by kernel_rfl) ?_
          refine wN_pur (v := .bool true) rfl (by kernel_rfl) ?_
          refine wN_alc ?_
          intro H7 kH7 nH7 c7
          have c7 : Cl H7 H4.next [iv 0, iv 0, iv 0, iv 0, iv 0] := c7
          have mH7 := kH7.1
          have hk := hk.trans kH7
          have hs := kH7.sl0 hs
          have c1 := kH7.cl c1 (by simp)
          refine wN_sta (b := H4.next) (o := 0) rfl rfl c7 (by omega) rfl rfl (by simp) ?_
          intro H8 kH8 nH8 sH8
          have mH8 := kH8.1
          have hk := hk.new kH8 (fun b hb => by simp at hb ⊢; omega)
          have hs := kH8.sl hs (fun b e => by have := fs b e; first | (simp; done) | (simp; omega))
          have c1 := kH8.cl c1 (by first | (simp; done) | (simp; omega))
          have c7 : Cl H8 H4.next [iv ((blB us r) 0), iv ((blB us r) 1), iv ((blB us r) 2), iv ((blB us r) 3), iv ((blB us r) 4)] := sH8
          refine wN_mov (v := .bool true) rfl ?_
          refine wN_end ?_
          refine wN_seq ?_
          refine wN_mov (v := .bool true) rfl ?_
          refine wN_pur (v := .bool false) rfl rfl ?_
          refine wN_end ?_
          refine condF ?_
          first | refine wN_skip ?_ | skip
          refine wD_seq ?_
          refine wD_lda (b := H4.next) (o := 0) rfl c7.rd (show row 5 _ _ = some [iv ((blB us r) 0), iv ((blB us r) 1), iv ((blB us r) 2), iv ((blB us r) 3), iv ((blB us r) 4)] from rfl) ?_
          refine wD_mov (v := .slice sa us.length cap) rfl ?_
          obtain ⟨a, c, H9, fH9, kH9, sl⟩ := list54_ok (kn := kn) (lo := H8.next) (H := H8) (b := blB us r) (sa := sa) (cap := cap) (us := us) (by omega) (by omega)
          refine wD_callh (vs := [.agg (bc (blB us r)).toArray, .slice sa us.length cap]) rfl rfl (callX_args fH9) ?_
          have mH9 := kH9.1
          have hk := hk.trans kH9
          have hs := kH9.sl0 hs
          have c1 := kH9.cl c1 (by simp)
          have c7 := kH9.cl c7 (by simp)
          refine wD_lda (b := H4.next) (o := 0) rfl c7.rd (show row 5 _ _ = some [iv ((blB us r) 0), iv ((blB us r) 1), iv ((blB us r) 2), iv ((blB us r) 3), iv ((blB us r) 4)] from rfl) ?_
          refine wD_mov (v := .slice sa us.length cap) rfl ?_
          obtain ⟨H10, fH10, kH10⟩ := cost_ok (kn := kn) (lo := lo) (H := H9) (b := blB us r) hs rfl hbb hA (by omega) (by omega)
          refine wD_callf (vs := [.agg (bc (blB us r)).toArray, .slice sa us.length cap]) rfl (callX_args fH10) ?_
          have mH10 := kH10.1
          have hk := hk.trans kH10
          have hs := kH10.sl0 hs
          have c1 := kH10.cl c1 (by simp)
          have c7 := kH10.cl c7 (by simp)
          have sl := kH10.sl0 sl
          refine wD_mov (v := .slice a us.length c) rfl ?_
          refine wD_mov (v := iv (cosB us (blB us r))) rfl ?_
          refine wD_mov (v := iv 0) rfl ?_
          refine wD_end (by repeat' first | exact True.intro | exact (fun h => h) | refine And.intro ?_ ?_ | (intro h; have h : (_ : Nat) = _ := h; omega)) ?_
          have e : blE us r = 0 := by unfold blE; rw [if_neg (by omega), if_pos (by simp [hA, hR]), if_pos hB]
          have e2 : blN us r = us.length := by unfold blN; rw [if_pos e]
          have e3 : blC us r = cosB us (blB us r) := by unfold blC; rw [if_pos e]
          exact And.intro trivial (Exists.intro _ (And.intro rfl ⟨a, c, by rw [e, e2, e3]; rfl, hk, by rw [e2]; exact sl⟩))
theorem slow_ok {lim : Int} {sa : Option Addr} {cap : Nat} {us : List Tn} (hs : Sl H sa us.length cap (tnc us)) (h0 : 1 ≤ lim) (h9 : lim ≤ 1000000) (hlo : lo ≤ H.next) : ∃ t H', FnX Try.prog kn lo 24 [.slice sa us.length cap, iv lim] H (.bool t) H' ∧ Keep H H' [] ∧ (t = false → us.length ≤ 8) := by
  have key := fnX_low (kn := kn) (lo := lo) (H := H) (args := [.slice sa us.length cap, iv lim]) (Q := fun w H' => ∃ t, w = .bool t ∧ Keep H H' [] ∧ (t = false → us.length ≤ 8)) Try.func24 B24 N24 Z24 L24 (by simp) ?_
  · obtain ⟨w, H', h, t, rfl, q⟩ := key; exact ⟨t, H', h, q⟩
  have hk := Keep.refl H []
  have fs := hs.old
  refine wN_seq ?_
  refine wN_mov (v := .bool false) rfl ?_
  refine wN_end ?_
  refine wN_seq ?_
  refine wN_mov (v := iv 1) rfl ?_
  refine wN_end ?_
  refine wN_seq ?_
  refine wN_mov (v := iv 0) rfl ?_
  refine wN_end ?_
  refine loop_low (fn := Try.f24) E24_1 N24 L24x1 (fun x : Nat × Int => [(0, .slice sa us.length cap), (1, iv lim), (5, iv x.2), (6, iv (x.1 : Int))])
    (fun k x H' => x.1 + k = 8 ∧ 1 ≤ x.2 + 1 ∧ x.2 ≤ lim + 1 ∧ Keep H H' [] ∧ Sl H' sa us.length cap (tnc us)) 8 (0, 1) ⟨by omega, by decide, by omega, hk, hs⟩ ⟨rfl, rfl, rfl, rfl, trivial⟩ ?_
  rintro k ⟨i, q⟩ L1 ⟨hik, h1, h2, hk, hs⟩
  simp only at hik h1 h2 ⊢
  refine wN_seq ?_
  refine wN_mov (v := iv (i : Int)) rfl ?_
  refine wN_mov (v := .slice sa us.length cap) rfl ?_
  refine wN_len (m := us.length) rfl ?_
  refine wN_b_lss (a := (i : Int)) (b := (us.length : Int)) rfl rfl ?_
  intro t1 g1; cases t1
  · have g1 : ¬ ((i : Int) < (us.length : Int)) := of_decide_eq_false g1
    refine wN_mov (v := .bool false) rfl ?_
    refine wN_gs rfl ?_
    refine wN_gs rfl ?_
    refine wN_pur (v := .bool false) rfl rfl ?_
    refine wN_end ?_
    refine condF ?_
    first | (refine wN_exit ?_; show wC _ _ _ _ _ _ _ _ _) | skip
    refine wN_seq ?_
    refine wN_mov (v := iv q) rfl ?_
    refine wN_mov (v := iv lim) rfl ?_
    refine wN_b_gtr (a := q) (b := lim) rfl rfl ?_
    intro t2 g2; cases t2
    · have g2 : ¬ (q > lim) := of_decide_eq_false g2
      refine wN_mov (v := .bool false) rfl ?_
      refine wN_g rfl (wN_mov (v := .slice sa us.length cap) rfl ?_)
      refine wN_g rfl (wN_len (m := us.length) rfl ?_)
      refine wN_g rfl (wN_b_gtr (a := (us.length : Int)) (b := 8) rfl rfl ?_)
      intro t3 g3; cases t3
      · have g3 : ¬ ((us.length : Int) > 8) := of_decide_eq_false g3
        refine wN_pur (v := .bool false) rfl rfl ?_
        refine wN_mov (v := .bool false) rfl ?_
        refine wN_end ?_
        exact And.intro trivial (Exists.intro _ (And.intro rfl ⟨false, rfl, hk, fun e => by first | (cases e; done) | omega⟩))
      · have g3 : (us.length : Int) > 8 := of_decide_eq_true g3
        refine wN_pur (v := .bool true) rfl rfl ?_
        refine wN_mov (v := .bool true) rfl ?_
        refine wN_end ?_
        exact And.intro trivial (Exists.intro _ (And.intro rfl ⟨true, rfl, hk, fun e => by first | (cases e; done) | omega⟩))
    · have g2 : q > lim := of_decide_eq_true g2
      refine wN_mov (v := .bool true) rfl ?_
      refine wN_gs rfl ?_
      refine wN_gs rfl ?_
      refine wN_gs rfl ?_
      refine wN_pur (v := .bool true) rfl rfl ?_
      refine wN_mov (v := .bool true) rfl ?_
      refine wN_end ?_
      exact And.intro trivial (Exists.intro _ (And.intro rfl ⟨true, rfl, hk, fun e => by first | (cases e; done) | omega⟩))
  · have g1 : (i : Int) < (us.length : Int) := of_decide_eq_true g1
    refine wN_mov (v := .bool true) rfl ?_
    refine wN_g rfl (wN_mov (v := iv (i : Int)) rfl ?_)
    refine wN_g rfl (wN_b_lss (a := (i : Int)) (b := 8) rfl rfl ?_)
    intro t4 g4; cases t4
    · have g4 : ¬ ((i : Int) < 8) := of_decide_eq_false g4
      refine wN_pur (v := .bool false) rfl rfl ?_
      refine wN_end ?_
      refine condF ?_
      first | (refine wN_exit ?_; show wC _ _ _ _ _ _ _ _ _) | skip
      refine wN_seq ?_
      refine wN_mov (v := iv q) rfl ?_
      refine wN_mov (v := iv lim) rfl ?_
      refine wN_b_gtr (a := q) (b := lim) rfl rfl ?_
      intro t5 g5; cases t5
      · have g5 : ¬ (q > lim) := of_decide_eq_false g5
        refine wN_mov (v := .bool false) rfl ?_
        refine wN_g rfl (wN_mov (v := .slice sa us.length cap) rfl ?_)
        refine wN_g rfl (wN_len (m := us.length) rfl ?_)
        refine wN_g rfl (wN_b_gtr (a := (us.length : Int)) (b := 8) rfl rfl ?_)
        intro t6 g6; cases t6
        · have g6 : ¬ ((us.length : Int) > 8) := of_decide_eq_false g6
          refine wN_pur (v := .bool false) rfl rfl ?_
          refine wN_mov (v := .bool false) rfl ?_
          refine wN_end ?_
          exact And.intro trivial (Exists.intro _ (And.intro rfl ⟨false, rfl, hk, fun e => by first | (cases e; done) | omega⟩))
        · have g6 : (us.length : Int) > 8 := of_decide_eq_true g6
          refine wN_pur (v := .bool true) rfl rfl ?_
          refine wN_mov (v := .bool true) rfl ?_
          refine wN_end ?_
          exact And.intro trivial (Exists.intro _ (And.intro rfl ⟨true, rfl, hk, fun e => by first | (cases e; done) | omega⟩))
      · have g5 : q > lim := of_decide_eq_true g5
        refine wN_mov (v := .bool true) rfl ?_
        refine wN_gs rfl ?_
        refine wN_gs rfl ?_
        refine wN_gs rfl ?_
        refine wN_pur (v := .bool true) rfl rfl ?_
        refine wN_mov (v := .bool true) rfl ?_
        refine wN_end ?_
        exact And.intro trivial (Exists.intro _ (And.intro rfl ⟨true, rfl, hk, fun e => by first | (cases e; done) | omega⟩))
    · have g4 : (i : Int) < 8 := of_decide_eq_true g4
      refine wN_pur (v := .bool true) rfl rfl ?_
      refine wN_end ?_
      refine condT ?_
      rcases id hs with ⟨_, h0, _⟩ | ⟨sb, es, rs, _⟩
      · omega
      have lsb := rs.lt
      first | refine wN_skip ?_ | skip
      first | refine wN_reg ?_ | refine wN_blk ?_ | refine wN_bseq ?_ | (refine wOps_nil ?_; refine wN_reg ?_)
      refine wN_mov (v := iv q) rfl ?_
      refine wN_mov (v := .slice sa us.length cap) rfl ?_
      refine wN_mov (v := iv (i : Int)) rfl ?_
      refine wN_idx (b := sb) (o := 0) (k := i) (j := (i : Int)) (by rw [← es]; rfl) rfl rfl (by omega) ?_
      refine wN_addo (b := sb) (o := 0 + i * 5) rfl ?_
      refine wN_ld (b := sb) (o := 0 + i * 5) (v := iv ((us.getD i Tn.z).un)) rfl rs (tnc_atF (j := 0) (by omega) rfl) ?_
      refine wN_mm (a := (us.getD i Tn.z).un) (b := 20) rfl rfl ?_
      refine wN_mm (a := 0) (b := min ((us.getD i Tn.z).un) 20) rfl rfl ?_
      refine wN_add (a := 1) (b := max 0 (min ((us.getD i Tn.z).un) 20)) rfl rfl ⟨by omega, by omega⟩ ?_
      refine wN_mul (a := q) (b := 1 + (max 0 (min ((us.getD i Tn.z).un) 20))) rfl rfl (mulR (by omega) (by omega) (by omega) (by omega)) ?_
      have hp0 : 0 ≤ q * (1 + (max 0 (min ((us.getD i Tn.z).un) 20))) := Int.mul_nonneg (by omega) (by omega)
      refine wN_mov (v := iv lim) rfl ?_
      refine wN_add (a := lim) (b := 1) rfl rfl ⟨by omega, by omega⟩ ?_
      refine wN_mm (a := q * (1 + (max 0 (min ((us.getD i Tn.z).un) 20)))) (b := lim + 1) rfl rfl ?_
      refine wN_mov (v := iv (min (q * (1 + (max 0 (min ((us.getD i Tn.z).un) 20)))) (lim + 1))) rfl ?_
      refine wN_end ?_
      first | refine wN_reg ?_ | refine wN_blk ?_ | refine wN_bseq ?_ | (refine wOps_nil ?_; refine wN_reg ?_)
      refine wN_mov (v := iv (i : Int)) rfl ?_
      refine wN_add (a := (i : Int)) (b := 1) rfl rfl ⟨by omega, by omega⟩ ?_
      refine wN_mov (v := iv ((i : Int) + 1)) rfl ?_
      refine wN_end ?_
      exact ⟨k - 1, (i + 1, min (q * (1 + (max 0 (min ((us.getD i Tn.z).un) 20)))) (lim + 1)), by omega, ⟨by simp only; omega, by simp only; omega, by simp only; omega, hk, hs⟩, rfl, rfl, rfl, rfl, trivial⟩
end
end Go.Ax

/-
  Plant: some blend; the law PlantCheapest (written by program).
-/
namespace Go.Ax
open Go Go.RowKit Go.Proofs

theorem conv_5 (x : Int) (h1 : 0 ≤ x) (h2 : x ≤ 255) {S : Rg} {n : Nat} {o : Operand} {d : Option Nat} (hx : evS S o = some (.int .u8 x)) : pureOp Try.prog (frS n S) ⟨d, .convert 5 3 o, 3, "", #[], none⟩ = some (iv x) := by
  have e : ∀ y : Int, prun Try.prog (Go.convert 5 3 (.int .u8 y)) = some (.int .i64 (IntKind.i64.wrap y)) := fun y => by kernel_rfl
  unfold pureOp
  simp only [ev_frS, hx, flat, flat1, cond_true, e, wrap_i64 (x := x) ⟨(by omega), (by omega)⟩]
theorem blB_is {us : List Tn} {r : Rc} (hr : 0 ≤ r.un) (h : (bestB us r).isSome = true) : IsB us r (blB us r) ∧ ∀ x, IsB us r x → cosB us (blB us r) ≤ cosB us x ∧ (cosB us x = cosB us (blB us r) → x = blB us r ∨ ltB (blB us r) x) := by
  have q := bestB_says (us := us) (r := r) hr
  unfold blB
  cases e : bestB us r with
  | none => rw [e] at h; cases h
  | some b => rw [e] at q; exact q
theorem no_isB {us : List Tn} {r : Rc} (hr : 0 ≤ r.un) (h : (bestB us r).isSome = false) {x : Bl} (hx : IsB us r x) : False := by
  have q := bestB_says (us := us) (r := r) hr
  cases e : bestB us r with
  | none => rw [e] at q; exact q x hx
  | some b => rw [e] at h; cases h
theorem AccB.of {b0 lo f : Nat} {e : TypeId} {H : Hp} {v : Value} {n : Nat} {cs : List Value} (h : Acc lo f e H v n cs) (h0 : 0 < n) : AccB b0 lo f e H v n cs := by
  rcases h with ⟨q, _⟩ | q
  · omega
  · exact .inr q
theorem AccB.lt {b0 lo f : Nat} {e : TypeId} {H : Hp} {v : Value} {n : Nat} {cs : List Value} (h : AccB b0 lo f e H v n cs) {b m c : Nat} (ev : v = .slice (some ⟨b, 0, none⟩) m c) : b < H.next := by
  rcases h with ⟨_, _, rfl, hb, _⟩ | ⟨b1, rfl, _, _, _, hn, _⟩
  · cases ev; exact hb
  · cases ev; exact hn
theorem AccB.sl {b0 lo f : Nat} {e : TypeId} {H : Hp} {v : Value} {n : Nat} {cs : List Value} (h : AccB b0 lo f e H v n cs) : ∃ a c, v = .slice a n c ∧ Sl H a n c cs := by
  rcases h with ⟨rfl, rfl, rfl, hb, e0, h0⟩ | ⟨b, rfl, h0, hf, hl, hn, hg⟩
  · exact ⟨_, _, rfl, .inr ⟨b0, rfl, ⟨hb, by unfold cellsOf; rw [h0]⟩, Nat.le_refl _⟩⟩
  · exact ⟨_, _, rfl, .inr ⟨b, rfl, ⟨hn, by unfold cellsOf; rw [hg]⟩, Nat.le_refl _⟩⟩
section
variable {kn : FuncId → Option Bool} {lo : Nat} {H : Hp}
end
end Go.Ax

/-
  Plant: the law PlantMore (written by program).
-/
namespace Go.Ax
open Go Go.RowKit Go.Proofs

abbrev wid (r : Rc) (y : Int) : Rc := ⟨r.un, r.s1, r.s2, max 0 (r.a1 - y), min 10000 (r.a2 + y), r.c1, min 10000 (r.c2 + y)⟩
theorem wid_ok {r : Rc} {y : Int} (h : r.ok = true) (h0 : 0 ≤ y) : (wid r y).ok = true := by
  have a := Rc.ok_t h
  unfold Rc.ok spB
  simp only [Bool.and_eq_true, decide_eq_true_eq]
  omega
theorem mixB_mono {s u a b c d : Int} (hu : 0 ≤ u) (h1 : c ≤ a) (h2 : b ≤ d) (h : mixB s u a b = true) : mixB s u c d = true := by
  unfold mixB at h ⊢
  rw [Bool.and_eq_true, decide_eq_true_eq, decide_eq_true_eq] at h ⊢
  have := Int.mul_le_mul_of_nonneg_left h1 hu
  have := Int.mul_le_mul_of_nonneg_left h2 hu
  omega
theorem IsB.wid {us : List Tn} {r : Rc} {y : Int} {x : Bl} (hr : r.ok = true) (h0 : 0 ≤ y) (h : IsB us r x) : IsB us (wid r y) x := by
  have a := Rc.ok_t hr
  refine ⟨h.z, h.un, h.su, ?_⟩
  have q := h.ri
  unfold rigB at q ⊢
  rw [Bool.and_eq_true, Bool.and_eq_true] at q ⊢
  exact ⟨⟨q.1.1, mixB_mono (show 0 ≤ r.un by omega) (by show max 0 (r.a1 - y) ≤ r.a1; omega) (by show r.a2 ≤ min 10000 (r.a2 + y); omega) q.1.2⟩, mixB_mono (show 0 ≤ r.un by omega) (Int.le_refl _) (by show r.c2 ≤ min 10000 (r.c2 + y); omega) q.2⟩
theorem bl0 {us : List Tn} {r : Rc} {x : Bl} (h5 : us.length ≤ 5) (hok : us.all Tn.ok = true) (hr : r.ok = true) (hx : IsB us r x) : blE us r = 0 ∧ blN us r = us.length ∧ blC us r ≤ cosB us x := by
  have hu := (Rc.ok_t hr).1
  have hs : (bestB us r).isSome = true := by
    cases e : (bestB us r).isSome with
    | true => rfl
    | false => exact (no_isB (by omega) e hx).elim
  have e : blE us r = 0 := by unfold blE; rw [if_neg (by omega), if_pos (by rw [hok, hr]; rfl), if_pos hs]
  refine ⟨e, by unfold blN; rw [if_pos e], ?_⟩
  unfold blC; rw [if_pos e]
  exact ((blB_is (by omega) hs).2 x hx).1
theorem IsB.pos {us : List Tn} {r : Rc} {x : Bl} (hr : 1 ≤ r.un) (h : IsB us r x) : 0 < us.length := by
  rcases Nat.eq_zero_or_pos us.length with e | e
  · have := h.su; rw [e] at this; have : (0 : Int) = r.un := this; omega
  · exact e
def richT (us : List Tn) (k : Nat) : List Tn := us.set k { us.getD k Tn.z with un := min 12 ((us.getD k Tn.z).un + 1) }
theorem richT_len (us : List Tn) (k : Nat) : (richT us k).length = us.length := by unfold richT; exact List.length_set ..
theorem richT_at (us : List Tn) (k i : Nat) : (richT us k).getD i Tn.z = if i = k ∧ i < us.length then { us.getD k Tn.z with un := min 12 ((us.getD k Tn.z).un + 1) } else us.getD i Tn.z := by
  unfold richT
  rw [List.getD_eq_getElem?_getD, List.getElem?_set]
  by_cases e : k = i
  · subst e
    rw [if_pos rfl]
    by_cases q : k < us.length
    · rw [if_pos q, if_pos ⟨rfl, q⟩]; rfl
    · rw [if_neg q, if_neg (fun z => q z.2), List.getD_eq_getElem?_getD, List.getElem?_eq_none (by omega)]
  · rw [if_neg e, if_neg (fun z => e z.1.symm), List.getD_eq_getElem?_getD]
theorem richT_sum {us : List Tn} {k : Nat} {b : Bl} {f : Tn → Int} (hf : ∀ (t : Tn) (v : Int), f { t with un := v } = f t) : ∀ m, sumB (richT us k) b f m = sumB us b f m
  | 0 => rfl
  | m + 1 => by
    show sumB (richT us k) b f m + b m * f ((richT us k).getD m Tn.z) = sumB us b f m + b m * f (us.getD m Tn.z)
    rw [richT_sum hf m, richT_at]
    split
    · rename_i h; rw [hf, h.1]
    · rfl
theorem richT_ok {us : List Tn} {k : Nat} (h : us.all Tn.ok = true) (hk : k < us.length) : (richT us k).all Tn.ok = true := by
  rw [List.all_eq_true]
  intro x hx
  unfold richT at hx
  rcases List.mem_or_eq_of_mem_set hx with q | q
  · exact List.all_eq_true.1 h x q
  · have a := Tn.ok_t (tn_at h hk)
    subst q
    unfold Tn.ok isw
    simp only [Bool.and_eq_true, decide_eq_true_eq]
    omega
theorem IsB.rich {us : List Tn} {r : Rc} {x : Bl} {k : Nat} (hok : us.all Tn.ok = true) (h : IsB us r x) : IsB (richT us k) r x := by
  refine ⟨fun i hi => h.z i (by rw [richT_len] at hi; exact hi), fun i hi => ?_, by rw [richT_len]; exact h.su, ?_⟩
  · rw [richT_len] at hi
    have a := h.un i hi
    have c := (Tn.ok_t (tn_at hok hi)).1
    unfold unF at a ⊢
    rw [richT_at]
    split
    · rename_i q
      have q1 := q.1
      subst q1
      show 0 ≤ x i ∧ x i ≤ min 12 ((us.getD i Tn.z).un + 1)
      omega
    · exact a
  · have q := h.ri
    unfold rigB at q ⊢
    rw [richT_len, richT_sum (fun _ _ => rfl), richT_sum (fun _ _ => rfl), richT_sum (fun _ _ => rfl)]; exact q
theorem richT_cos (us : List Tn) (k : Nat) (b : Bl) : cosB (richT us k) b = cosB us b := by
  unfold cosB; rw [richT_len, richT_sum (fun _ _ => rfl)]
theorem tnc_set {v : Value} : ∀ {us : List Tn} {k : Nat} {x y : Tn}, us[k]? = some x → y.f = x.f.set 0 v → tnc (us.set k y) = (tnc us).set (0 + k * 5) v
  | [], k, _, _, h, _ => by simp at h
  | a :: us, 0, x, y, h, e => by
    have h : a = x := by simpa using h
    subst h
    show y.f ++ tnc us = (a.f ++ tnc us).set 0 v
    rw [e]; rfl
  | a :: us, k + 1, x, y, h, e => by
    have h : us[k]? = some x := by simpa using h
    show a.f ++ tnc (us.set k y) = (a.f ++ tnc us).set (0 + (k + 1) * 5) v
    rw [tnc_set h e, List.set_append_right _ _ (by show 5 ≤ _; omega)]
    show _ = a.f ++ (tnc us).set (0 + (k + 1) * 5 - 5) v
    rw [show 0 + (k + 1) * 5 - 5 = 0 + k * 5 by omega]
theorem richT_tnc {us : List Tn} {k : Nat} (hk : k < us.length) : tnc (richT us k) = (tnc us).set (0 + k * 5) (iv (min 12 ((us.getD k Tn.z).un + 1))) := by
  obtain ⟨x, hx⟩ := get_some hk
  unfold richT
  rw [Tn.at hx]
  exact tnc_set hx rfl
theorem tnc_len (us : List Tn) : (tnc us).length = us.length * 5 := by
  induction us with
  | nil => rfl
  | cons a us ih => have e : (tnc (a :: us)).length = a.f.length + (tnc us).length := List.length_append ..; rw [e, ih]; show 5 + us.length * 5 = (us.length + 1) * 5; omega
/-- a block that append made -/
def Bk73 (H : Hp) (b : Nat) (cs : List Value) : Prop := b < H.next ∧ H.t.get b = some (.cells cs 73 true)
theorem Bk73.rd {H : Hp} {b : Nat} {cs : List Value} (h : Bk73 H b cs) : Rd H b cs := ⟨h.1, by unfold cellsOf; rw [h.2]⟩
theorem Bk73.cl {H : Hp} {b : Nat} {cs : List Value} (h : Bk73 H b cs) : Cl H b cs := ⟨h.1, _, _, h.2⟩
theorem Keep.r73 {H H1 : Hp} {l : List Nat} (k : Keep H H1 l) {b : Nat} {cs : List Value} (h : Bk73 H b cs) (hl : b ∉ l) : Bk73 H1 b cs := ⟨Nat.lt_of_lt_of_le h.1 k.1, by rw [k.2 b h.1 hl]; exact h.2⟩
theorem wN_stT {P : Program} {kn : FuncId → Option Bool} {lo n : Nat} {r : List RO} {S : Rg} {H : Hp} {K : Rg → Hp → Prop} {d : Option Nat} {x y : Operand} {b o : Nat} {cs : List Value} {v : Value} (hx : evS S x = some (.pointer (some ⟨b, o, none⟩))) (hy : evS S y = some v) (hc : Bk73 H b cs) (hl : lo ≤ b) (hv : v.cells.toList = [v]) (h1 : one v = true) (ho : o < cs.length)
    (h : ∀ H1, Keep H H1 [b] → H1.next = H.next → Bk73 H1 b (cs.set o v) → wOps P kn lo n r (putS S d undef) H1 K) : wOps P kn lo n (⟨d, none, .st x y⟩ :: r) S H K := by
  simp only [wOps, wRO, wRI, hx, hy]
  exact ⟨cs, 73, true, hc.2, hl, hv, h1, ho, fun H1 hH1 => by
    obtain ⟨a, b1, _⟩ := up_facts hc.cl hH1
    exact h H1 a b1 ⟨by rw [b1]; exact hc.1, by rw [← hH1]; show (H.t.set b _).get b = _; rw [Tr.get_set, if_pos rfl]⟩⟩
theorem se36 : sliceElem Try.prog 36 = some (73, 5) := by kernel_rfl
theorem z73 : zeroOf Try.prog 73 = some (.agg #[iv 0, iv 0, iv 0, iv 0, iv 0]) := by kernel_rfl
section
variable {kn : FuncId → Option Bool} {lo : Nat} {H : Hp}
set_option maxRecDepth 100000 in
set_option maxHeartbeats 4000000 in
/-- PlantMore -/
theorem law_more (hkn : kn 16 = some true) {r : Rc} {y3 y4 : Int} {sa : Option Addr} {cap : Nat} {us : List Tn} (hs : Sl H sa us.length cap (tnc us)) (hf : ∀ b, sa = some ⟨b, 0, none⟩ → Ft H b (tnc us)) (hy3 : 0 ≤ y3 ∧ y3 ≤ 255) (hy4 : 0 ≤ y4 ∧ y4 ≤ 255) (hro : RoLow lo H) (hlo : lo ≤ H.next) : ∃ H', FnX Try.prog kn lo 11 [.slice sa us.length cap, .agg (Rc.f r).toArray, .int .u8 y3, .int .u8 y4] H (.bool true) H' := by
  have key := fnX_low (kn := kn) (lo := lo) (H := H) (args := [.slice sa us.length cap, .agg (Rc.f r).toArray, .int .u8 y3, .int .u8 y4]) (Q := fun w H' => w = .bool true) Try.func11 B11 N11 Z11 L11 (by simp) ?_
  · obtain ⟨w, H', h, rfl⟩ := key; exact ⟨H', h⟩
  have hk := Keep.refl H []
  have fs := hs.old
  refine wN_seq ?_
  refine wN_box (v := .agg (Rc.f r).toArray) rfl ?_
  intro H1 kH1 nH1 c1
  have c1 : Cl H1 H.next [iv r.un, iv r.s1, iv r.s2, iv r.a1, iv r.a2, iv r.c1, iv r.c2] := c1
  have mH1 := kH1.1
  have hk := hk.trans kH1
  have hs := kH1.sl0 hs
  refine wN_mov (v := .bool false) rfl ?_
  refine wN_end ?_
  refine wN_seq ?_
  refine wN_mov (v := .slice sa us.length cap) rfl ?_
  obtain ⟨tS, H2, fH2, kH2, hS⟩ := slow_ok (kn := kn) (lo := lo) (H := H1) (lim := 3000) hs (by decide) (by decide) (by omega)
  have mH2 := kH2.1
  have hk := hk.trans kH2
  have hs := kH2.sl0 hs
  have c1 := kH2.cl c1 (by simp)
  cases tS
  · refine wN_callf (vs := [.slice sa us.length cap, iv 3000]) rfl (callX_args fH2) ?_
    have hn8 := hS rfl
    refine wN_end ?_
    refine condF ?_
    first | refine wN_skip ?_ | skip
    refine wN_seq ?_
    refine wN_mov (v := .slice sa us.length cap) rfl ?_
    refine wN_lda (b := H.next) (o := 0) rfl c1.rd (show row 7 _ _ = some [iv r.un, iv r.s1, iv r.s2, iv r.a1, iv r.a2, iv r.c1, iv r.c2] from rfl) ?_
    obtain ⟨a, c, H3, fH3, kH3, sl⟩ := blend_ok (kn := kn) (lo := lo) (H := H2) (r := r) hs (fun b e => hk.ft (hf b e) (by simp)) (by omega) (by omega)
    have mH3 := kH3.1
    have hk := hk.trans kH3
    have hs := kH3.sl0 hs
    have c1 := kH3.cl c1 (by simp)
    by_cases e0 : blE us r = 0
    · have e2 : blN us r = us.length := by unfold blN; rw [if_pos e0]
      have e3 : blC us r = cosB us (blB us r) := by unfold blC; rw [if_pos e0]
      rw [e2, e3, e0] at fH3
      rw [e2] at sl
      obtain ⟨h5, hok, hr, hB⟩ := blE0 (us := us) (r := r) (.inl e0)
      rw [decide_eq_true e0] at hB
      have hru := (Rc.ok_t hr).1
      obtain ⟨hI, hbest⟩ := blB_is (by omega) hB
      refine wN_callf (vs := [.slice sa us.length cap, .agg (Rc.f r).toArray]) rfl (callX_args fH3) ?_
      refine wN_mov (v := .tuple #[.slice a us.length c, iv (cosB us (blB us r)), iv 0]) rfl ?_
      refine wN_pur (v := .slice a us.length c) rfl (by kernel_rfl) ?_
      refine wN_pur (v := iv (cosB us (blB us r))) rfl (by kernel_rfl) ?_
      refine wN_pur (v := iv 0) rfl (by kernel_rfl) ?_
      refine wN_mov (v := .slice a us.length c) rfl ?_
      refine wN_mov (v := iv (cosB us (blB us r))) rfl ?_
      refine wN_mov (v := iv 0) rfl ?_
      refine wN_end ?_
      refine wN_seq ?_
      refine wN_mov (v := iv 0) rfl ?_
      refine wN_c_neq (a := 0) (b := 0) rfl rfl ?_
      refine wN_end ?_
      refine condF ?_
      first | refine wN_skip ?_ | skip
      refine wN_seq ?_
      refine wN_mov (v := .int .u8 y4) rfl ?_
      have hro := Rc.ok_t hr
      refine wN_pur (v := iv y4) rfl (conv_5 y4 (by omega) (by omega) rfl) ?_
      refine wN_mov (v := iv y4) rfl ?_
      refine wN_end ?_
      refine wN_seq ?_
      refine wN_lda (b := H.next) (o := 0) rfl c1.rd (show row 7 _ _ = some [iv r.un, iv r.s1, iv r.s2, iv r.a1, iv r.a2, iv r.c1, iv r.c2] from rfl) ?_
      refine wN_alc ?_
      intro H4 kH4 nH4 c4
      have c4 : Cl H4 H3.next [iv 0, iv 0, iv 0, iv 0, iv 0, iv 0, iv 0] := c4
      have mH4 := kH4.1
      have hk := hk.trans kH4
      have hs := kH4.sl0 hs
      have c1 := kH4.cl c1 (by simp)
      refine wN_sta (b := H3.next) (o := 0) rfl rfl c4 (by omega) rfl rfl (by simp) ?_
      intro H5 kH5 nH5 sH5
      have mH5 := kH5.1
      have hk := hk.new kH5 (fun b hb => by simp at hb ⊢; omega)
      have hs := kH5.sl hs (fun b e => by have := fs b e; first | (simp; done) | (simp; omega))
      have c1 := kH5.cl c1 (by first | (simp; done) | (simp; omega))
      have c4 : Cl H5 H3.next [iv r.un, iv r.s1, iv r.s2, iv r.a1, iv r.a2, iv r.c1, iv r.c2] := sH5
      refine wN_end ?_
      refine wN_seq ?_
      refine wN_addo (b := H.next) (o := 0) rfl ?_
      refine wN_addo (b := H.next) (o := 3) rfl ?_
      refine wN_ld (b := H.next) (o := 3) (v := iv r.a1) rfl c1.rd rfl ?_
      refine wN_mov (v := iv y4) rfl ?_
      refine wN_sub (a := r.a1) (b := y4) rfl rfl ⟨by omega, by omega⟩ ?_
      refine wN_mm (a := 0) (b := r.a1 - y4) rfl rfl ?_
      refine wN_addo (b := H.next) (o := 0) rfl ?_
      refine wN_addo (b := H.next) (o := 3) rfl ?_
      refine wN_ld (b := H.next) (o := 4) (v := iv r.a2) rfl c1.rd rfl ?_
      refine wN_mov (v := iv y4) rfl ?_
      refine wN_add (a := r.a2) (b := y4) rfl rfl ⟨by omega, by omega⟩ ?_
      refine wN_mm (a := 10000) (b := r.a2 + y4) rfl rfl ?_
      refine wN_pur (v := .agg #[iv (max 0 (r.a1 - y4)), iv (min 10000 (r.a2 + y4))]) rfl (by kernel_rfl) ?_
      refine wN_addo (b := H3.next) (o := 0) rfl ?_
      refine wN_sta (b := H3.next) (o := 3) rfl rfl c4 (by omega) rfl rfl (by simp) ?_
      intro H6 kH6 nH6 sH6
      have mH6 := kH6.1
      have hk := hk.new kH6 (fun b hb => by simp at hb ⊢; omega)
      have hs := kH6.sl hs (fun b e => by have := fs b e; first | (simp; done) | (simp; omega))
      have c1 := kH6.cl c1 (by first | (simp; done) | (simp; omega))
      have c4 : Cl H6 H3.next [iv r.un, iv r.s1, iv r.s2, iv (max 0 (r.a1 - y4)), iv (min 10000 (r.a2 + y4)), iv r.c1, iv r.c2] := sH6
      refine wN_end ?_
      refine wN_seq ?_
      refine wN_addo (b := H.next) (o := 0) rfl ?_
      refine wN_addo (b := H.next) (o := 5) rfl ?_
      refine wN_ld (b := H.next) (o := 6) (v := iv r.c2) rfl c1.rd rfl ?_
      refine wN_mov (v := iv y4) rfl ?_
      refine wN_add (a := r.c2) (b := y4) rfl rfl ⟨by omega, by omega⟩ ?_
      refine wN_mm (a := 10000) (b := r.c2 + y4) rfl rfl ?_
      refine wN_addo (b := H3.next) (o := 0) rfl ?_
      refine wN_addo (b := H3.next) (o := 5) rfl ?_
      refine wN_st (b := H3.next) (o := 6) rfl rfl c4 (by omega) rfl rfl (by simp) ?_
      intro H7 kH7 nH7 sH7
      have mH7 := kH7.1
      have hk := hk.new kH7 (fun b hb => by simp at hb ⊢; omega)
      have hs := kH7.sl hs (fun b e => by have := fs b e; first | (simp; done) | (simp; omega))
      have c1 := kH7.cl c1 (by first | (simp; done) | (simp; omega))
      have c4 : Cl H7 H3.next [iv r.un, iv r.s1, iv r.s2, iv (max 0 (r.a1 - y4)), iv (min 10000 (r.a2 + y4)), iv r.c1, iv (min 10000 (r.c2 + y4))] := sH7
      refine wN_end ?_
      refine wN_seq ?_
      refine wN_mov (v := .slice sa us.length cap) rfl ?_
      refine wN_lda (b := H3.next) (o := 0) rfl c4.rd (show row 7 _ _ = some [iv r.un, iv r.s1, iv r.s2, iv (max 0 (r.a1 - y4)), iv (min 10000 (r.a2 + y4)), iv r.c1, iv (min 10000 (r.c2 + y4))] from rfl) ?_
      have hpos := hI.pos hru.1
      obtain ⟨aH8, cH8, H8, fH8, kH8, slH8⟩ := blend_ok (kn := kn) (lo := lo) (H := H7) (us := us) (r := wid r y4) hs (fun b e => hk.ft (hf b e) (by simp)) (by omega) (by omega)
      have mH8 := kH8.1
      have hk := hk.trans kH8
      have hs := kH8.sl0 hs
      have c1 := kH8.cl c1 (by simp)
      have c4 := kH8.cl c4 (by simp)
      obtain ⟨pH8, qH8, rH8⟩ := bl0 (us := us) (r := wid r y4) h5 hok (wid_ok hr hy4.1) (hI.wid hr hy4.1)
      rw [pH8, qH8] at fH8
      refine wN_callf (vs := [.slice sa us.length cap, .agg (Rc.f (wid r y4)).toArray]) rfl (callX_args fH8) ?_
      refine wN_mov (v := .tuple #[.slice aH8 us.length cH8, iv (blC us (wid r y4)), iv 0]) rfl ?_
      refine wN_pur (v := .slice aH8 us.length cH8) rfl (by kernel_rfl) ?_
      refine wN_pur (v := iv (blC us (wid r y4))) rfl (by kernel_rfl) ?_
      refine wN_pur (v := iv 0) rfl (by kernel_rfl) ?_
      refine wN_mov (v := .slice aH8 us.length cH8) rfl ?_
      refine wN_mov (v := iv (blC us (wid r y4))) rfl ?_
      refine wN_mov (v := iv 0) rfl ?_
      refine wN_end ?_
      refine wN_seq ?_
      refine wN_mov (v := iv 0) rfl ?_
      refine wN_b_neq (a := 0) (b := 0) rfl rfl ?_
      intro t1 g1; obtain rfl : t1 = false := by rw [← g1]; rfl
      refine wN_mov (v := .bool false) rfl ?_
      refine wN_g rfl (wN_mov (v := iv (blC us (wid r y4))) rfl ?_)
      refine wN_g rfl (wN_mov (v := iv (cosB us (blB us r))) rfl ?_)
      refine wN_g rfl (wN_b_gtr (a := (blC us (wid r y4))) (b := (cosB us (blB us r))) rfl rfl ?_)
      intro t2 g2; cases t2
      · have g2 : ¬ ((blC us (wid r y4)) > (cosB us (blB us r))) := of_decide_eq_false g2
        refine wN_pur (v := .bool false) rfl rfl ?_
        refine wN_mov (v := .bool false) rfl ?_
        refine wN_g rfl (wN_mov (v := .slice sa us.length cap) rfl ?_)
        refine wN_g rfl (wN_len (m := us.length) rfl ?_)
        refine wN_g rfl (wN_b_eql (a := (us.length : Int)) (b := 0) rfl rfl ?_)
        intro t3 g3; cases t3
        · have g3 : ¬ ((us.length : Int) = 0) := by simpa using g3
          refine wN_pur (v := .bool false) rfl rfl ?_
          refine wN_end ?_
          refine condF ?_
          first | refine wN_skip ?_ | skip
          refine wN_seq ?_
          obtain ⟨H9, hH9⟩ : ∃ H9, H8.new (.cells [] 73 false) = H9 := ⟨_, rfl⟩
          refine wN_memh (H' := H9) (k := .heavy) rfl (by kernel_rfl) ((heap_build0 se36 z73).trans (by rw [hH9])) (fun b e => by cases e) ?_
          obtain ⟨kH9, nH9, cH9⟩ := new_facts hH9
          have gH9 := new_get hH9
          have mH9 := kH9.1
          have hk := hk.trans kH9
          have hs := kH9.sl0 hs
          have c1 := kH9.cl c1 (by simp)
          have c4 := kH9.cl c4 (by simp)
          refine wN_mov (v := .slice sa us.length cap) rfl ?_
          obtain ⟨vH10, H10, kdH10, eH10, dH10, acH10, kH10⟩ := heap_append_first (P := Try.prog) (lo := lo) (H := H9) (f := H8.next) (t0 := 36) (t1 := 36) (e := 73) (b0 := H8.next) se36 u36 hs (tnc_len us) (by omega) (by decide) gH9 (by omega) (by omega) (by omega) (by omega)
          rcases acH10 with ⟨q0, _⟩ | ⟨rb, rfl, _, hrf, hrl, hrn, hrg⟩
          · omega
          refine wN_memh (k := kdH10) rfl (by kernel_rfl) (eH10 _ _ _ _ _ _ _ rfl rfl) (fun b q => by rcases dH10 with z | z <;> rw [z] at q <;> cases q) ?_
          have mH10 := kH10.1
          have hk := hk.trans kH10
          have hs := kH10.sl0 hs
          have c1 := kH10.cl c1 (by simp)
          have c4 := kH10.cl c4 (by simp)
          have rg : Bk73 H10 rb (tnc us) := ⟨hrn, hrg⟩
          refine wN_mov (v := .slice (some ⟨rb, 0, none⟩) us.length us.length) rfl ?_
          refine wN_end ?_
          refine wN_seq ?_
          refine wN_mov (v := .int .u8 y3) rfl ?_
          refine wN_pur (v := iv y3) rfl (conv_5 y3 (by omega) (by omega) rfl) ?_
          refine wN_mov (v := .slice (some ⟨rb, 0, none⟩) us.length us.length) rfl ?_
          refine wN_len (m := us.length) rfl ?_
          have hrm0 := Int.emod_nonneg y3 (b := (us.length : Int)) (by omega)
          have hrm1 := Int.emod_lt_of_pos y3 (b := (us.length : Int)) (by omega)
          obtain ⟨kq, hkq⟩ : ∃ kq : Nat, y3 % (us.length : Int) = (kq : Int) := ⟨(y3 % (us.length : Int)).toNat, by omega⟩
          have hkl : kq < us.length := by omega
          refine wN_rem (a := y3) (b := (us.length : Int)) rfl rfl (by omega) (by omega) ⟨by omega, by omega⟩ ⟨by omega, by omega⟩ ?_
          rw [hkq]
          have htk := (Tn.ok_t (tn_at hok hkl)).1
          refine wN_mov (v := iv (kq : Int)) rfl ?_
          refine wN_end ?_
          refine wN_seq ?_
          refine wN_mov (v := .slice (some ⟨rb, 0, none⟩) us.length us.length) rfl ?_
          refine wN_mov (v := iv (kq : Int)) rfl ?_
          refine wN_mov (v := .slice (some ⟨rb, 0, none⟩) us.length us.length) rfl ?_
          refine wN_mov (v := iv (kq : Int)) rfl ?_
          refine wN_idx (b := rb) (o := 0) (k := kq) (j := (kq : Int)) rfl rfl rfl hkl ?_
          refine wN_addo (b := rb) (o := 0 + kq * 5) rfl ?_
          refine wN_ld (b := rb) (o := 0 + kq * 5) (v := iv (us.getD kq Tn.z).un) rfl rg.rd (tnc_atF (j := 0) hkl rfl) ?_
          refine wN_add (a := (us.getD kq Tn.z).un) (b := 1) rfl rfl ⟨by omega, by omega⟩ ?_
          refine wN_mm (a := 12) (b := ((us.getD kq Tn.z).un) + 1) rfl rfl ?_
          refine wN_idx (b := rb) (o := 0) (k := kq) (j := (kq : Int)) rfl rfl rfl hkl ?_
          refine wN_addo (b := rb) (o := 0 + kq * 5) rfl ?_
          refine wN_stT (b := rb) (o := 0 + kq * 5) (v := iv (min 12 (((us.getD kq Tn.z).un) + 1))) rfl rfl rg hrl rfl rfl (by rw [tnc_len]; omega) ?_
          intro H11 kH11 nH11 sH11
          have mH11 := kH11.1
          have hk := hk.new kH11 (fun b hb => by simp at hb ⊢; omega)
          have hs := kH11.sl hs (fun b e => by have := fs b e; first | (simp; done) | (simp; omega))
          have c1 := kH11.cl c1 (by first | (simp; done) | (simp; omega))
          have c4 := kH11.cl c4 (by first | (simp; done) | (simp; omega))
          have rg : Bk73 H11 rb (tnc (richT us kq)) := by rw [richT_tnc hkl]; exact sH11
          refine wN_end ?_
          refine wN_seq ?_
          refine wN_mov (v := .slice (some ⟨rb, 0, none⟩) us.length us.length) rfl ?_
          refine wN_lda (b := H.next) (o := 0) rfl c1.rd (show row 7 _ _ = some [iv r.un, iv r.s1, iv r.s2, iv r.a1, iv r.a2, iv r.c1, iv r.c2] from rfl) ?_
          have srich : Sl H11 (some ⟨rb, 0, none⟩) (richT us kq).length us.length (tnc (richT us kq)) := .inr ⟨rb, rfl, rg.rd, by rw [richT_len]; exact Nat.le_refl _⟩
          obtain ⟨aH12, cH12, H12, fH12, kH12, slH12⟩ := blend_ok (kn := kn) (lo := lo) (H := H11) (us := richT us kq) (r := r) srich (fun b e => by cases e; exact ⟨rg.1, .inr (.inr rg.2)⟩) (by rw [richT_len]; omega) (by omega)
          have mH12 := kH12.1
          have hk := hk.trans kH12
          have hs := kH12.sl0 hs
          have c1 := kH12.cl c1 (by simp)
          have c4 := kH12.cl c4 (by simp)
          have rg := kH12.r73 rg (by first | (simp; done) | (simp; omega))
          obtain ⟨pH12, qH12, rH12⟩ := bl0 (us := richT us kq) (r := r) (by rw [richT_len]; omega) (richT_ok hok hkl) hr (hI.rich hok)
          rw [pH12, qH12] at fH12
          rw [richT_len] at fH12
          rw [richT_cos] at rH12
          refine wN_callf (vs := [.slice (some ⟨rb, 0, none⟩) us.length us.length, .agg (Rc.f r).toArray]) rfl (callX_args fH12) ?_
          refine wN_mov (v := .tuple #[.slice aH12 us.length cH12, iv (blC (richT us kq) r), iv 0]) rfl ?_
          refine wN_pur (v := .slice aH12 us.length cH12) rfl (by kernel_rfl) ?_
          refine wN_pur (v := iv (blC (richT us kq) r)) rfl (by kernel_rfl) ?_
          refine wN_pur (v := iv 0) rfl (by kernel_rfl) ?_
          refine wN_mov (v := iv (blC (richT us kq) r)) rfl ?_
          refine wN_mov (v := iv 0) rfl ?_
          refine wN_end ?_
          refine wN_seq ?_
          refine wN_mov (v := iv 0) rfl ?_
          refine wN_b_eql (a := 0) (b := 0) rfl rfl ?_
          intro t4 g4; obtain rfl : t4 = true := by rw [← g4]; rfl
          refine wN_mov (v := .bool true) rfl ?_
          refine wN_g rfl (wN_mov (v := iv (blC (richT us kq) r)) rfl ?_)
          refine wN_g rfl (wN_mov (v := iv (cosB us (blB us r))) rfl ?_)
          refine wN_g rfl (wN_b_leq (a := (blC (richT us kq) r)) (b := (cosB us (blB us r))) rfl rfl ?_)
          intro t5 g5; cases t5
          · have g5 : ¬ ((blC (richT us kq) r) ≤ (cosB us (blB us r))) := of_decide_eq_false g5
            omega
          · have g5 : (blC (richT us kq) r) ≤ (cosB us (blB us r)) := of_decide_eq_true g5
            refine wN_pur (v := .bool true) rfl rfl ?_
            refine wN_mov (v := .bool true) rfl ?_
            refine wN_g rfl (wN_callf (vs := []) rfl (callX_known hkn) ?_)
            refine wN_pur (v := .bool true) rfl rfl ?_
            refine wN_mov (v := .bool true) rfl ?_
            refine wN_end ?_
            exact And.intro trivial (Exists.intro _ (And.intro rfl rfl))
        · have g3 : (us.length : Int) = 0 := by simpa using g3
          omega
      · have g2 : (blC us (wid r y4)) > (cosB us (blB us r)) := of_decide_eq_true g2
        omega
    · by_cases e4 : blE us r = 4
      · have e2 : blN us r = 0 := by unfold blN; rw [if_neg e0]
        have e3 : blC us r = 0 := by unfold blC; rw [if_neg e0]
        rw [e2, e3] at fH3
        rw [e4] at fH3
        obtain ⟨h5, hok, hr, hB⟩ := blE0 (us := us) (r := r) (.inr e4)
        rw [decide_eq_false e0] at hB
        have hru := (Rc.ok_t hr).1
        refine wN_callf (vs := [.slice sa us.length cap, .agg (Rc.f r).toArray]) rfl (callX_args fH3) ?_
        refine wN_mov (v := .tuple #[.slice a 0 c, iv 0, iv 4]) rfl ?_
        refine wN_pur (v := .slice a 0 c) rfl (by kernel_rfl) ?_
        refine wN_pur (v := iv 0) rfl (by kernel_rfl) ?_
        refine wN_pur (v := iv 4) rfl (by kernel_rfl) ?_
        refine wN_mov (v := .slice a 0 c) rfl ?_
        refine wN_mov (v := iv 0) rfl ?_
        refine wN_mov (v := iv 4) rfl ?_
        refine wN_end ?_
        refine wN_seq ?_
        refine wN_mov (v := iv 4) rfl ?_
        refine wN_c_neq (a := 4) (b := 0) rfl rfl ?_
        refine wN_end ?_
        refine condT ?_
        refine wN_seq ?_
        refine wN_mov (v := iv 0) rfl ?_
        refine wN_b_eql (a := 0) (b := 0) rfl rfl ?_
        intro t6 g6; obtain rfl : t6 = true := by rw [← g6]; rfl
        refine wN_mov (v := .bool true) rfl ?_
        refine wN_g rfl (wN_callf (vs := []) rfl (callX_known hkn) ?_)
        refine wN_pur (v := .bool true) rfl rfl ?_
        refine wN_mov (v := .bool true) rfl ?_
        refine wN_end ?_
        exact And.intro trivial (Exists.intro _ (And.intro rfl rfl))
      · have e2 : blN us r = 0 := by unfold blN; rw [if_neg e0]
        have e3 : blC us r = 0 := by unfold blC; rw [if_neg e0]
        rw [e2, e3] at fH3
        refine wN_callf (vs := [.slice sa us.length cap, .agg (Rc.f r).toArray]) rfl (callX_args fH3) ?_
        refine wN_mov (v := .tuple #[.slice a 0 c, iv 0, iv (blE us r)]) rfl ?_
        refine wN_pur (v := .slice a 0 c) rfl (by kernel_rfl) ?_
        refine wN_pur (v := iv 0) rfl (by kernel_rfl) ?_
        refine wN_pur (v := iv (blE us r)) rfl (by kernel_rfl) ?_
        refine wN_mov (v := .slice a 0 c) rfl ?_
        refine wN_mov (v := iv 0) rfl ?_
        refine wN_mov (v := iv (blE us r)) rfl ?_
        refine wN_end ?_
        refine wN_seq ?_
        refine wN_mov (v := iv (blE us r)) rfl ?_
        refine wN_c_neq (a := (blE us r)) (b := 0) rfl rfl ?_
        refine wN_end ?_
        refine And.intro (fun q7 => ?_) (fun q7 => ?_)
        · have q7 : (blE us r) ≠ 0 := by simpa using q7
          refine wN_seq ?_
          refine wN_mov (v := iv 0) rfl ?_
          refine wN_b_eql (a := 0) (b := 0) rfl rfl ?_
          intro t8 g8; obtain rfl : t8 = true := by rw [← g8]; rfl
          refine wN_mov (v := .bool true) rfl ?_
          refine wN_g rfl (wN_callf (vs := []) rfl (callX_known hkn) ?_)
          refine wN_pur (v := .bool true) rfl rfl ?_
          refine wN_mov (v := .bool true) rfl ?_
          refine wN_end ?_
          exact And.intro trivial (Exists.intro _ (And.intro rfl rfl))
        · have q7 : ¬ ((blE us r) ≠ 0) := by simpa using q7
          omega
  · refine wN_callf (vs := [.slice sa us.length cap, iv 3000]) rfl (callX_args fH2) ?_
    refine wN_end ?_
    refine condT ?_
    refine wN_seq ?_
    refine wN_callf (vs := []) rfl (callX_known hkn) ?_
    refine wN_mov (v := .bool true) rfl ?_
    refine wN_end ?_
    exact And.intro trivial (Exists.intro _ (And.intro rfl rfl))
end
end Go.Ax

namespace Go.Ax
open Go Go.RowKit Go.Proofs Go.ChangeShapes Go.WideShapes Go.Deep

/-- A type whose cells are whole numbers. -/
def IntT (P : Program) (t : TypeId) : Prop := ∀ (H : Type) (enc : TypeId × Value → H) (w : World) (base : Nat) (spare : Nat → Bool) (held : Bool) (fuel : Nat) (cs : List Value) (x : DataW H × List MemPlace),
  DataW.trod enc P w base spare held fuel t cs = some x → cs.length = P.cellsOf t ∧ ∀ j, j < cs.length → ∃ n, cs[j]? = some (.int .i64 n)
theorem IntT.int {P : Program} {t : TypeId} (ht : P.underlying t = some (.int .i64)) (hc : P.cellsOf t = 1) : IntT P t := by
  intro H enc w base spare held fuel cs x h
  obtain ⟨n, rfl, _⟩ := DataW.trod_int ht h
  refine ⟨by rw [hc]; rfl, fun j hj => ⟨n, ?_⟩⟩
  have : j = 0 := by simp at hj; omega
  subst this; rfl
theorem IntT.struct {P : Program} {t : TypeId} {fs : Array Field} (ht : P.underlying t = some (.struct fs)) (hf : ∀ f ∈ fs.toList, IntT P f.type)
    (hcov : ((List.range (P.cellsOf t)).all fun j => fs.toList.any fun f => decide (f.offset ≤ j) && decide (j < f.offset + P.cellsOf f.type)) = true) : IntT P t := by
  intro H enc w base spare held fuel cs x h
  obtain ⟨xs, n, _, _, hlen, hxl, hg⟩ := DataW.trod_struct ht h
  refine ⟨hlen, fun j hj => ?_⟩
  have h1 := List.all_eq_true.1 hcov j (List.mem_range.2 (by omega))
  obtain ⟨f, hfm, h2⟩ := List.any_eq_true.1 h1
  simp only [Bool.and_eq_true, decide_eq_true_eq] at h2
  obtain ⟨i, hi, hfi⟩ := List.getElem_of_mem hfm
  have hfs : fs[i]? = some f := by
    rw [← Array.getElem?_toList, List.getElem?_eq_getElem hi, hfi]
  have hi2 : i < xs.length := by simpa [hxl] using hi
  have h3 := hg i f hfs
  rw [List.getElem?_eq_getElem hi2] at h3
  obtain ⟨h4, h5⟩ := hf f hfm _ _ _ _ _ _ _ _ _ h3
  obtain ⟨m, hm⟩ := h5 (j - f.offset) (by omega)
  refine ⟨m, ?_⟩
  rw [List.getElem?_take] at hm
  split at hm
  · rw [List.getElem?_drop, show f.offset + (j - f.offset) = j by omega] at hm; exact hm
  · cases hm

/-- A slice of rows of whole numbers, as it is given. -/
structure Given {α : Type} (w : World) (v : Value) (f : α → List Value) (l : List α) (x : Imp) : Prop where
  ok : ∀ (i : Nat) u, x.cs[i]? = some u → w.cell? ⟨x.blk, x.off + i, none⟩ = some u ∧ flat1 u = true
  cs : x.cs = l.flatMap f
  v : (v = .slice none 0 0 ∧ l = []) ∨ ∃ cap, v = .slice (some ⟨x.blk, x.off, none⟩) l.length cap ∧ l.length ≤ cap
theorem flat_get {α : Type} {f : α → List Value} {k : Nat} (hk : 0 < k) : ∀ {l : List α} (_ : ∀ x ∈ l, (f x).length = k) (i : Nat) (u : Value), (l.flatMap f)[i]? = some u → ∃ x, l[i / k]? = some x ∧ (f x)[i % k]? = some u
  | [], _, i, u, h => by simp at h
  | y :: r, hl, i, u, h => by
    have hy := hl y (List.mem_cons_self ..)
    rw [List.flatMap_cons, List.getElem?_append] at h
    split at h
    · rename_i q
      rw [hy] at q
      refine ⟨y, ?_, ?_⟩
      · rw [Nat.div_eq_of_lt q]; rfl
      · rw [Nat.mod_eq_of_lt q]; exact h
    · rename_i q
      rw [hy] at q h
      obtain ⟨x, h1, h2⟩ := flat_get hk (fun x hx => hl x (List.mem_cons_of_mem _ hx)) _ u h
      refine ⟨x, ?_, ?_⟩
      · rw [Nat.div_eq_sub_div hk (by omega)]; exact h1
      · rw [Nat.mod_eq_sub_mod (by omega)]; exact h2
theorem slice_given {H : Type} {enc : TypeId × Value → H} {P : Program} {w : World} {base b0 : Nat} {r : Reach} {held : Bool} {α : Type} (f : α → List Value) (mk : (Nat → Int) → α) (k : Nat) {t e : TypeId} {fuel : Nat} {v : Value} {x : DataW H × List MemPlace}
    (ht : P.underlying t = some (.slice e)) (hI : IntT P e) (hc : P.cellsOf e = k) (hk : 0 < k) (hmk : ∀ N : Nat → Int, f (mk N) = (List.range k).map fun j => Value.int .i64 (N j))
    (hok : Cell.okWide P w r b0 t v) (h : DataW.trod enc P w base (fun _ => true) held fuel t [v] = some x) : ∃ (l : List α) (y : Imp), Given w v f l y := by
  rcases open_slice ht h with ⟨h0, _⟩ | ⟨a, len, cap, m, n, D, Pl, hcs, hb, hl, hm, hmm, hx, hi⟩
  · cases h0
    exact ⟨[], ⟨0, 0, []⟩, fun i u e => by simp at e, rfl, .inl ⟨rfl, rfl⟩⟩
  · cases hcs
    obtain ⟨blk, off, spot⟩ := a
    have hs : spot = none := by
      unfold Cell.okWide at hok
      rw [ht] at hok
      unfold Cell.ok at hok
      simp only [ht] at hok
      exact hok.2.2.2.1
    subst hs
    simp only [if_true] at hmm
    subst hmm
    have hcell : ∀ i, i < len → ∀ j, j < k → ∃ n, w.cell? ⟨blk, off + (i * k + j), none⟩ = some (.int .i64 n) := by
      intro i hil j hj
      obtain ⟨cs', h1, h2⟩ := hi i (by omega)
      obtain ⟨h3, h4⟩ := hI _ _ _ _ _ _ _ _ _ h2
      obtain ⟨_, h5, h6⟩ := World.cells?_some h1
      obtain ⟨n, hn⟩ := h4 j (by omega)
      refine ⟨n, ?_⟩
      have h7 := h6 j (by omega)
      rw [hn, hc, add_add] at h7
      have e : (⟨blk, off, none⟩ : Addr).add (i * k + j) = ⟨blk, off + (i * k + j), none⟩ := by
        unfold Addr.add
        by_cases q : i * k + j = 0
        · simp [q]
        · simp
      rw [e] at h7
      exact h7
    refine ⟨(List.range len).map fun i => mk fun j => match w.cell? ⟨blk, off + (i * k + j), none⟩ with | some (.int _ n) => n | _ => 0, ⟨blk, off, _⟩, ?_, rfl, .inr ⟨m, by simp, by simpa using hl⟩⟩
    intro i u hu
    obtain ⟨y, h1, h2⟩ := flat_get hk (fun y hy => by
      obtain ⟨i, _, rfl⟩ := List.mem_map.1 hy
      rw [hmk]; simp) i u hu
    have hlt : i / k < len := by
      have := get_lt h1
      simpa using this
    rw [List.getElem?_map, List.getElem?_range hlt] at h1
    simp only [Option.map_some, Option.some.injEq] at h1
    subst h1
    have hj : i % k < k := Nat.mod_lt _ hk
    rw [hmk, List.getElem?_map, List.getElem?_range hj] at h2
    simp only [Option.map_some, Option.some.injEq] at h2
    obtain ⟨n, hn⟩ := hcell _ hlt _ hj
    rw [hn] at h2
    subst h2
    rw [Nat.div_add_mod' ] at hn
    exact ⟨hn, rfl⟩
theorem Given.rel {α : Type} {w : World} {v : Value} {f : α → List Value} {l : List α} {x : Imp} (g : Given w v f l x) {r : Ren} {H : Hp} {b : Nat} (hr : r b = some ⟨x.blk, x.off, none⟩) (hb : b < H.next) (hc : cellsOf H b = some x.cs) (hro : H.t.get b = some (.ro x.cs)) :
    ∃ a cap, VR r (.slice a l.length cap) v ∧ Sl H a l.length cap (l.flatMap f) ∧ ∀ b, a = some ⟨b, 0, none⟩ → H.t.get b = some (.ro (l.flatMap f)) := by
  rcases g.v with ⟨rfl, rfl⟩ | ⟨cap, rfl, hl⟩
  · exact ⟨none, 0, .nilSlice, .inl ⟨.inl rfl, rfl, rfl, rfl⟩, fun b e => by cases e⟩
  · refine ⟨some ⟨b, 0, none⟩, cap, ?_, .inr ⟨b, rfl, ⟨hb, by rw [hc, g.cs]⟩, hl⟩, fun b' e => by cases e; rw [hro, g.cs]⟩
    have := VR.slice (o := 0) (n := l.length) (c := cap) hr rfl hl
    simpa using this
end Go.Ax

/-! Slices of rows of plain cells, as arguments. -/
namespace Go.Ax
open Go Go.RowKit Go.Proofs Go.ChangeShapes Go.WideShapes Go.Deep

theorem IntT.row {α : Type} {P : Program} {t : TypeId} {k : Nat} {f : α → List Value} {mk : (Nat → Int) → α} (h : IntT P t) (hc : P.cellsOf t = k) (hmk : ∀ N : Nat → Int, f (mk N) = (List.range k).map fun j => Value.int .i64 (N j))
    {H : Type} {enc : TypeId × Value → H} {w : World} {base : Nat} {spare : Nat → Bool} {held : Bool} (fuel : Nat) (cs : List Value) (x : DataW H × List MemPlace) (hx : DataW.trod enc P w base spare held fuel t cs = some x) : ∃ y : α, cs = f y ∧ True := by
  obtain ⟨h1, h2⟩ := h _ _ _ _ _ _ _ _ _ hx
  have : ∃ N : Nat → Int, ∀ j, j < cs.length → cs[j]? = some (.int .i64 (N j)) := by
    refine ⟨fun j => match cs[j]? with | some (.int _ n) => n | _ => 0, fun j hj => ?_⟩
    obtain ⟨n, hn⟩ := h2 j hj
    simp [hn]
  obtain ⟨N, hN⟩ := this
  refine ⟨mk N, ?_, trivial⟩
  rw [hmk]
  apply List.ext_getElem?
  intro j
  by_cases hj : j < k
  · rw [hN j (by omega), List.getElem?_map, List.getElem?_range hj]; rfl
  · rw [List.getElem?_eq_none (by omega), List.getElem?_eq_none (by simp; omega)]
end Go.Ax

/-! Arguments that point to what points: inner slices, rows of slices. -/
namespace Go.Ax
open Go Go.RowKit Go.Proofs Go.ChangeShapes Go.WideShapes Go.Deep

def renOf (imps : List Imp) : Ren := fun b => (imps[b]?).map fun x => ⟨x.blk, x.off, none⟩
theorem imports3 {P : Program} (imps outs : List Imp) (w : World) (h : ∀ x ∈ imps, ∀ (i : Nat) v, x.cs[i]? = some v → w.cell? ⟨x.blk, x.off + i, none⟩ = some v ∧ flat1 v = true)
    (hcs : ∀ x ∈ outs, ∀ (i : Nat) v, x.cs[i]? = some v → ∃ v', w.cell? ⟨x.blk, x.off + i, none⟩ = some v' ∧ VR (renOf imps) v v') :
    ∃ (r : Ren) (H : Hp), Rel P r w.heap.size H w ∧ H.next = (imps ++ outs).length ∧ (∀ b loc, r b = some loc → b < H.next) ∧ Ren.Le (renOf imps) r ∧ ∀ (b : Nat) x, (imps ++ outs)[b]? = some x → r b = some ⟨x.blk, x.off, none⟩ ∧ H.t.get b = some (.ro x.cs) := by
  have hall : ∀ x ∈ imps ++ outs, ∀ (i : Nat) v, x.cs[i]? = some v → ∃ v', w.cell? ⟨x.blk, x.off + i, none⟩ = some v' ∧ VR (renOf imps) v v' := by
    intro x hx i v hv
    rcases List.mem_append.1 hx with hx | hx
    · obtain ⟨h1, h2⟩ := h x hx i v hv
      exact ⟨v, h1, flat1_vr h2⟩
    · exact hcs x hx i v hv
  obtain ⟨t, ht⟩ := tr_of (fun b => ((imps ++ outs)[b]?).map fun x => .ro x.cs) (imps ++ outs).length
  have hle : Ren.Le (renOf imps) (fun b => ((imps ++ outs)[b]?).map fun x => ⟨x.blk, x.off, none⟩) := fun b loc e => by
    unfold renOf at e
    have hlt : b < imps.length := by
      rcases Nat.lt_or_ge b imps.length with q | q
      · exact q
      · rw [List.getElem?_eq_none q] at e; cases e
    show ((imps ++ outs)[b]?).map _ = _
    rw [List.getElem?_append_left hlt]; exact e
  have hr : ∀ (b : Nat) loc, ((imps ++ outs)[b]?).map (fun x => (⟨x.blk, x.off, none⟩ : Loc)) = some loc → ∃ x, (imps ++ outs)[b]? = some x ∧ b < (imps ++ outs).length ∧ loc = ⟨x.blk, x.off, none⟩ ∧ t.get b = some (.ro x.cs) := by
    intro b loc e
    cases hx : (imps ++ outs)[b]? with
    | none => rw [hx] at e; cases e
    | some x =>
      rw [hx] at e
      simp at e
      have hlt := get_lt hx
      exact ⟨x, rfl, hlt, e.symm, by rw [ht, if_pos hlt, hx]; rfl⟩
  have low : ∀ {g o : Nat} {v : Value}, w.cell? ⟨g, o, none⟩ = some v → g < w.heap.size := fun {g o v} hv => by
    unfold World.cell? at hv
    rcases Nat.lt_or_ge g w.heap.size with q | q
    · exact q
    · rw [Array.getElem?_eq_none q] at hv; cases hv
  refine ⟨fun b => ((imps ++ outs)[b]?).map fun x => ⟨x.blk, x.off, none⟩, { next := (imps ++ outs).length, t }, ⟨?_, ?_, ?_, Nat.le_refl _⟩, rfl, ?_, hle, ?_⟩
  · intro b loc e
    obtain ⟨x, hx, hlt, rfl, hg⟩ := hr b loc e
    refine ⟨hlt, ?_⟩
    show Dm _ _ _ (t.get b)
    rw [hg]
    cases hc : x.cs with
    | nil => exact .inl rfl
    | cons v l =>
      obtain ⟨v', h1, _⟩ := hall x (List.mem_of_getElem? hx) 0 v (by rw [hc]; rfl)
      exact .inr (low h1)
  · intro b loc o e eo
    obtain ⟨x, hx, hlt, rfl, hg⟩ := hr b loc e
    rw [hg] at eo; cases eo
    refine ⟨rfl, fun i v ev => ?_⟩
    obtain ⟨v', h1, h2⟩ := hall x (List.mem_of_getElem? hx) i v ev
    unfold World.cell? at h1
    simp only at h1
    split at h1
    · rename_i C e' f hC
      exact ⟨C, e', f, v', hC, by simpa using h1, h2.mono hle⟩
    · cases h1
  · intro b b' loc loc' e e' _ hl _
    obtain ⟨x, hx, hlt, rfl, hg⟩ := hr b loc e
    obtain ⟨o, h1, h2, h3⟩ := hl
    have : t.get b = some o := h1
    rw [hg] at this; cases this
    cases h3
  · intro b loc e
    obtain ⟨x, hx, hlt, rfl, hg⟩ := hr b loc e
    exact hlt
  · intro b x hx
    have hlt := get_lt hx
    refine ⟨by simp only [hx, Option.map_some], ?_⟩
    show t.get b = _
    rw [ht, if_pos hlt, hx]; rfl

/-- An inner slice, as it is given: an empty one may have any address. -/
structure GivI {α : Type} (w : World) (v : Value) (f : α → List Value) (l : List α) (x : Imp) : Prop where
  ok : ∀ (i : Nat) u, x.cs[i]? = some u → w.cell? ⟨x.blk, x.off + i, none⟩ = some u ∧ flat1 u = true
  cs : x.cs = l.flatMap f
  v : ((v = .slice none 0 0 ∨ ∃ a', v = .slice (some a') 0 0) ∧ l = []) ∨ ∃ cap, v = .slice (some ⟨x.blk, x.off, none⟩) l.length cap ∧ l.length ≤ cap
theorem GivI.rel {α : Type} {w : World} {v : Value} {f : α → List Value} {l : List α} {x : Imp} (g : GivI w v f l x) {r : Ren} {b : Nat} (hr : r b = some ⟨x.blk, x.off, none⟩) :
    ∃ a cap, VR r (.slice a l.length cap) v ∧ (∀ y, a = some ⟨y, 0, none⟩ → y = b) ∧ ∀ H : Hp, b < H.next → H.t.get b = some (.ro x.cs) → Sl H a l.length cap (l.flatMap f) := by
  rcases g.v with ⟨rfl | ⟨a', rfl⟩, rfl⟩ | ⟨cap, rfl, hl⟩
  · exact ⟨none, 0, .nilSlice, fun y e => by (cases e), fun H _ _ => .inl ⟨.inl rfl, rfl, rfl, rfl⟩⟩
  · exact ⟨some ⟨0, 0, some 0⟩, 0, .weird, fun y e => by (cases e), fun H _ _ => .inl ⟨.inr rfl, rfl, rfl, rfl⟩⟩
  · refine ⟨some ⟨b, 0, none⟩, cap, ?_, fun y e => by (cases e; rfl), fun H hb hc => .inr ⟨b, rfl, ⟨hb, by unfold cellsOf; rw [hc, g.cs]⟩, hl⟩⟩
    have := VR.slice (o := 0) (n := l.length) (c := cap) hr rfl hl
    simpa using this
structure RV where
  rv : Value
  l : List Int
  x : Imp
def RV.f (r : RV) : List Value := [r.rv]
def RV.Q (w : World) (r : RV) : Prop := GivI w r.rv (fun n : Int => [iv n]) r.l r.x
end Go.Ax

/-! Machines and what is flat as arguments. -/
namespace Go.Ax
open Go Go.RowKit Go.Proofs Go.ChangeShapes Go.WideShapes Go.Deep

/-- A machine, as it is given. -/
structure MV where
  rv : Value
  l : List Ou
  x : Imp
def MV.f (r : MV) : List Value := [r.rv]
def MV.Q (w : World) (r : MV) : Prop := GivI w r.rv Ou.f r.l r.x
theorem imports_flat {P : Program} (pre : List Imp) {w : World} (h : ∀ x ∈ pre, ∀ (i : Nat) v, x.cs[i]? = some v → w.cell? ⟨x.blk, x.off + i, none⟩ = some v ∧ flat1 v = true) :
    ∃ (r : Ren) (H : Hp), Rel P r w.heap.size H w ∧ (∀ b loc, r b = some loc → b < H.next) ∧ (∀ (b : Nat) x, pre[b]? = some x → b < H.next ∧ r b = some ⟨x.blk, x.off, none⟩ ∧ H.t.get b = some (.ro x.cs)) := by
  obtain ⟨r, H, h1, h2, h3, h4, h5⟩ := imports3 (P := P) pre [] w h (fun x hx => by simp at hx)
  refine ⟨r, H, h1, h3, fun b x hx => ?_⟩
  have := get_lt hx
  obtain ⟨a, c⟩ := h5 b x (by simpa using hx)
  exact ⟨by rw [h2]; simpa using this, a, c⟩
end Go.Ax


import Derived.Test.YtbgdbnnbfankeaaMc
import Derived.Test.YtbgdbnnbfankeaaAxW10
import Derived.Test.YtbgdbnnbfankeaaAxW9
import Derived.Test.YtbgdbnnbfankeaaChecked
import Derived.Test.YtbgdbnnbfankeaaAxO
import Derived.Deep.Slices
import Derived.Deep.Fields
import Derived.ChangeSame
set_option linter.all false
/-
  Plant: all blends, one behind the other (101, 102, 100, 75) (written by program).
-/
namespace Go.Ax
open Go Go.RowKit Go.Proofs

section
variable {kn : FuncId → Option Bool} {lo : Nat} {H : Hp}
theorem cmpl_0 {us : List Tn} {m : Nat} {u : Int} {b : Bl} {s : List Bl} (h : ¬ u > 0) : cmpl us 0 m u b ++ s = b :: s := by
  show (if u > 0 then [] else [b]) ++ s = _
  rw [if_neg h]; rfl
theorem cmpl_00 {us : List Tn} {m : Nat} {u : Int} {b : Bl} {s : List Bl} (h : u > 0) : cmpl us 0 m u b ++ s = s := by
  show (if u > 0 then [] else [b]) ++ s = _
  rw [if_pos h]; rfl
theorem comp_zero {J : List Bl → Hp → Prop} {base : Nat} {Wy : List Nat} {cv : Array Value} {sa : Option Addr} {cap : Nat} {us : List Tn} (hn : us.length ≤ 5) (hok : us.all Tn.ok = true) (hlb : lo ≤ base) (hW : ∀ x ∈ Wy, x < base) (jm : ∀ s H1 H2 W, J s H1 → Keep H1 H2 W → (∀ x ∈ W, base ≤ x) → J s H2) (jt : ∀ s H1, J s H1 → Sl H1 sa us.length cap (tnc us) ∧ ∀ b, sa = some ⟨b, 0, none⟩ → Ft H1 b (tnc us)) (step : ∀ x s H1, (∀ i, 0 ≤ x i ∧ x i ≤ 12) → base ≤ H1.next → J (x :: s) H1 → ∃ H2, CallsX Try.prog kn lo (.fn (.func 102) cv) [.agg (bc x).toArray] H1 (.bool true) H2 ∧ J s H2 ∧ Keep H1 H2 Wy) {u : Int} {b : Bl} {s : List Bl} (hb : ∀ i, 0 ≤ b i ∧ b i ≤ 12) (hbn : base ≤ H.next) (hJ : J (cmpl us 0 us.length u b ++ s) H) :
    ∃ H', FnX Try.prog kn lo 101 [.agg (bc b).toArray, .slice sa us.length cap, iv (us.length : Int), iv u, .func (.func 102) #[] cv] H (.bool true) H' ∧ J s H' ∧ Keep H H' Wy := by
  have key := fnX_low (kn := kn) (lo := lo) (H := H) (args := [.agg (bc b).toArray, .slice sa us.length cap, iv (us.length : Int), iv u, .func (.func 102) #[] cv]) (Q := fun w H' => w = .bool true ∧ J s H' ∧ Keep H H' Wy) Try.func101 B101 N101 Z101 L101 (by simp) ?_
  · obtain ⟨w, H', h, rfl, q⟩ := key; exact ⟨H', h, q⟩
  have hk := Keep.refl H Wy
  refine wN_seq ?_
  refine wN_box (v := .agg (bc b).toArray) rfl ?_
  intro H1 kH1 nH1 c1
  have c1 : Cl H1 H.next [iv (b 0), iv (b 1), iv (b 2), iv (b 3), iv (b 4)] := c1
  have mH1 := kH1.1
  have hk := hk.new kH1 (fun b hb => .inr (by first | (simp at hb; done) | (simp at hb; omega)))
  have hJ := jm _ _ _ _ hJ kH1 (fun x hx => by first | (simp at hx; done) | (simp at hx; omega))
  refine wN_mov (v := .bool false) rfl ?_
  refine wN_end ?_
  refine wN_seq ?_
  refine wN_mov (v := iv (us.length : Int)) rfl ?_
  refine wN_mov (v := .slice sa us.length cap) rfl ?_
  refine wN_len (m := us.length) rfl ?_
  refine wN_c_eql (a := (us.length : Int)) (b := (us.length : Int)) rfl rfl ?_
  refine wN_end ?_
  refine And.intro (fun q1 => ?_) (fun q1 => ?_)
  · have q1 : (us.length : Int) = (us.length : Int) := by simpa using q1
    refine wN_seq ?_
    refine wN_mov (v := iv u) rfl ?_
    refine wN_b_gtr (a := u) (b := 0) rfl rfl ?_
    intro t2 g2; cases t2
    · have g2 : ¬ (u > 0) := of_decide_eq_false g2
      refine wN_mov (v := .bool false) rfl ?_
      refine wN_g rfl (wN_mov (v := .func (.func 102) #[] cv) rfl ?_)
      refine wN_g rfl (wN_lda (b := H.next) (o := 0) rfl c1.rd (show row 5 _ _ = some [iv (b 0), iv (b 1), iv (b 2), iv (b 3), iv (b 4)] from rfl) ?_)
      obtain ⟨H2, fH2, jH2, kH2⟩ := step b s H1 hb (by omega) (by rw [cmpl_0 (by omega)] at hJ; exact hJ)
      refine wN_g rfl (wN_callf (vs := [.agg (bc b).toArray]) rfl fH2 ?_)
      have mH2 := kH2.1
      have hk := hk.new kH2 (fun b hb => .inl hb)
      have hJ := jH2
      have c1 := kH2.cl c1 (fun q => by have := hW _ q; omega)
      refine wN_pur (v := .bool true) rfl rfl ?_
      refine wN_mov (v := .bool true) rfl ?_
      refine wN_end ?_
      exact And.intro trivial (Exists.intro _ (And.intro rfl ⟨rfl, hJ, hk⟩))
    · have g2 : u > 0 := of_decide_eq_true g2
      refine wN_mov (v := .bool true) rfl ?_
      refine wN_gs rfl ?_
      refine wN_gs rfl ?_
      refine wN_gs rfl ?_
      refine wN_pur (v := .bool true) rfl rfl ?_
      refine wN_mov (v := .bool true) rfl ?_
      refine wN_end ?_
      exact And.intro trivial (Exists.intro _ (And.intro rfl ⟨rfl, (by rw [cmpl_00 (by omega)] at hJ; exact hJ), hk⟩))
  · have q1 : ¬ ((us.length : Int) = (us.length : Int)) := by simpa using q1
    exact absurd rfl q1
theorem comp_succ {J : List Bl → Hp → Prop} {base : Nat} {Wy : List Nat} {cv : Array Value} {sa : Option Addr} {cap : Nat} {us : List Tn} (hn : us.length ≤ 5) (hok : us.all Tn.ok = true) (hlb : lo ≤ base) (hW : ∀ x ∈ Wy, x < base) (jm : ∀ s H1 H2 W, J s H1 → Keep H1 H2 W → (∀ x ∈ W, base ≤ x) → J s H2) (jt : ∀ s H1, J s H1 → Sl H1 sa us.length cap (tnc us) ∧ ∀ b, sa = some ⟨b, 0, none⟩ → Ft H1 b (tnc us)) {d nx : Nat} {u : Int} {b : Bl} {s : List Bl} (hd : nx + (d + 1) = us.length) (ih : ∀ (u : Int) (b : Bl) (s : List Bl) (H : Hp), 0 ≤ u → u ≤ 60 → (∀ i, 0 ≤ b i ∧ b i ≤ 12) → base ≤ H.next → J (cmpl us d (nx + 1) u b ++ s) H → ∃ H', FnX Try.prog kn lo 101 [.agg (bc b).toArray, .slice sa us.length cap, iv ((nx : Int) + 1), iv u, .func (.func 102) #[] cv] H (.bool true) H' ∧ J s H' ∧ Keep H H' Wy) (hu0 : 0 ≤ u) (hu : u ≤ 60) (hb : ∀ i, 0 ≤ b i ∧ b i ≤ 12) (hbn : base ≤ H.next) (hJ : J (cmpl us (d + 1) nx u b ++ s) H) :
    ∃ H', FnX Try.prog kn lo 101 [.agg (bc b).toArray, .slice sa us.length cap, iv (nx : Int), iv u, .func (.func 102) #[] cv] H (.bool true) H' ∧ J s H' ∧ Keep H H' Wy := by
  have key := fnX_low (kn := kn) (lo := lo) (H := H) (args := [.agg (bc b).toArray, .slice sa us.length cap, iv (nx : Int), iv u, .func (.func 102) #[] cv]) (Q := fun w H' => w = .bool true ∧ J s H' ∧ Keep H H' Wy) Try.func101 B101 N101 Z101 L101 (by simp) ?_
  · obtain ⟨w, H', h, rfl, q⟩ := key; exact ⟨H', h, q⟩
  have hk := Keep.refl H Wy
  refine wN_seq ?_
  refine wN_box (v := .agg (bc b).toArray) rfl ?_
  intro H1 kH1 nH1 c1
  have c1 : Cl H1 H.next [iv (b 0), iv (b 1), iv (b 2), iv (b 3), iv (b 4)] := c1
  have mH1 := kH1.1
  have hk := hk.new kH1 (fun b hb => .inr (by first | (simp at hb; done) | (simp at hb; omega)))
  have hJ := jm _ _ _ _ hJ kH1 (fun x hx => by first | (simp at hx; done) | (simp at hx; omega))
  refine wN_mov (v := .bool false) rfl ?_
  refine wN_end ?_
  refine wN_seq ?_
  refine wN_mov (v := iv (nx : Int)) rfl ?_
  refine wN_mov (v := .slice sa us.length cap) rfl ?_
  refine wN_len (m := us.length) rfl ?_
  refine wN_c_eql (a := (nx : Int)) (b := (us.length : Int)) rfl rfl ?_
  refine wN_end ?_
  refine And.intro (fun q1 => ?_) (fun q1 => ?_)
  · have q1 : (nx : Int) = (us.length : Int) := by simpa using q1
    omega
  · have q1 : ¬ ((nx : Int) = (us.length : Int)) := by simpa using q1
    first | refine wN_skip ?_ | skip
    refine wN_seq ?_
    refine wN_mov (v := iv u) rfl ?_
    refine wN_mov (v := .slice sa us.length cap) rfl ?_
    refine wN_mov (v := iv (nx : Int)) rfl ?_
    refine wN_add (a := (nx : Int)) (b := 1) rfl rfl ⟨by omega, by omega⟩ ?_
    obtain ⟨hs, hf⟩ := jt _ _ hJ
    obtain ⟨a', c', kd, eA, hlt, hv⟩ := heap_fromT (lo := lo) (k := nx + 1) hs rfl hf (by omega) (by omega)
    refine wN_memh (k := kd) rfl (by kernel_rfl) (eA _ _ _ _ _ _ _ rfl rfl) (fun x e => hlt x e) ?_
    have hun : ∀ i, i < (us.drop (nx + 1)).length → 0 ≤ ((us.drop (nx + 1)).getD i Tn.z).un ∧ ((us.drop (nx + 1)).getD i Tn.z).un ≤ 12 := fun i hi => by rw [List.length_drop] at hi; rw [getD_drop]; exact (Tn.ok_t (tn_at hok (by omega))).1
    obtain ⟨H2, fH2, kH2⟩ := held_ok (kn := kn) (lo := lo) (H := H1) (c := c') hv List.length_drop (by omega) hun (by omega)
    have hhd := hd_in hun (us.length - (nx + 1)) (by rw [List.length_drop]; exact Nat.le_refl _)
    refine wN_callf (vs := [.slice a' (us.length - (nx + 1)) c']) rfl (callX_args fH2) ?_
    have mH2 := kH2.1
    have hk := hk.new kH2 (fun b hb => .inr (by first | (simp at hb; done) | (simp at hb; omega)))
    have hJ := jm _ _ _ _ hJ kH2 (fun x hx => by first | (simp at hx; done) | (simp at hx; omega))
    have c1 := kH2.cl c1 (by simp)
    refine wN_sub (a := u) (b := (hdN (us.drop (nx + 1)) (us.length - (nx + 1)))) rfl rfl ⟨by omega, by omega⟩ ?_
    refine wN_mm (a := 0) (b := u - (hdN (us.drop (nx + 1)) (us.length - (nx + 1)))) rfl rfl ?_
    refine wN_mov (v := iv (max 0 (u - (hdN (us.drop (nx + 1)) (us.length - (nx + 1)))))) rfl ?_
    refine wN_end ?_
    refine wN_seq ?_
    refine wN_mov (v := iv u) rfl ?_
    refine wN_mov (v := .slice sa us.length cap) rfl ?_
    refine wN_mov (v := iv (nx : Int)) rfl ?_
    obtain ⟨hs, hf⟩ := jt _ _ hJ
    rcases id hs with ⟨_, h0, _⟩ | ⟨sb, es, rs, _⟩
    · omega
    have lsb := rs.lt
    have ht := (Tn.ok_t (tn_at hok (show nx < us.length by omega))).1
    refine wN_idx (b := sb) (o := 0) (k := nx) (j := (nx : Int)) (by rw [← es]; rfl) rfl rfl (by omega) ?_
    refine wN_addo (b := sb) (o := 0 + nx * 5) rfl ?_
    refine wN_ld (b := sb) (o := 0 + nx * 5) (v := iv (us.getD nx Tn.z).un) rfl rs (tnc_atF (j := 0) (by omega) rfl) ?_
    refine wN_mm (a := u) (b := (us.getD nx Tn.z).un) rfl rfl ?_
    refine wN_mov (v := iv (min u ((us.getD nx Tn.z).un))) rfl ?_
    refine wN_end ?_
    refine wN_seq ?_
    refine wN_mov (v := iv (max 0 (u - (hdN (us.drop (nx + 1)) (us.length - (nx + 1)))))) rfl ?_
    refine wN_mov (v := iv (max 0 (u - (hdN (us.drop (nx + 1)) (us.length - (nx + 1)))))) rfl ?_
    refine wN_end ?_
    have hl0 : 0 ≤ lstU us nx u := by unfold lstU; omega
    have hm1 : mstU us nx u ≤ u := by unfold mstU; omega
    have hm2 : mstU us nx u ≤ 12 := by unfold mstU unF; omega
    refine loop_low (fn := Try.f101) E101_1 N101 L101x1 (fun v : Int => [(1, .slice sa us.length cap), (2, iv (nx : Int)), (3, iv u), (4, .func (.func 102) #[] cv), (5, pt H.next), (12, iv (mstU us nx u)), (13, iv v)])
      (fun k v H' => k = (mstU us nx u + 1 - v).toNat ∧ lstU us nx u ≤ v ∧ Keep H H' Wy ∧ H2.next ≤ H'.next ∧ (∃ b2, Cl H' H.next (bc b2) ∧ ∀ x, upd b2 nx x = upd b nx x) ∧ J (runs (fun v => cmpl us d (nx + 1) (u - v) (upd b nx v)) k v ++ s) H') (mstU us nx u + 1 - lstU us nx u).toNat (lstU us nx u) ⟨rfl, Int.le_refl _, hk, Nat.le_refl _, ⟨b, c1, fun _ => rfl⟩, hJ⟩ ⟨rfl, rfl, rfl, rfl, rfl, rfl, rfl, trivial⟩ ?_
    rintro k v L1 ⟨hkv, hlv, hk, hnx2, ⟨b2, c5, eb⟩, hJ⟩
    refine wN_seq ?_
    refine wN_mov (v := iv v) rfl ?_
    refine wN_mov (v := iv (mstU us nx u)) rfl ?_
    refine wN_c_leq (a := v) (b := (mstU us nx u)) rfl rfl ?_
    refine wN_end ?_
    refine And.intro (fun q2 => ?_) (fun q2 => ?_)
    · have q2 : v ≤ (mstU us nx u) := of_decide_eq_true q2
      obtain ⟨k, rfl⟩ : ∃ q, k = q + 1 := ⟨k - 1, by omega⟩
      have hJ : J (cmpl us d (nx + 1) (u - v) (upd b nx v) ++ (runs (fun v => cmpl us d (nx + 1) (u - v) (upd b nx v)) k (v + 1) ++ s)) L1 := by rw [← List.append_assoc]; exact hJ
      first | refine wN_skip ?_ | skip
      refine wN_seq ?_
      refine wN_mov (v := iv (nx : Int)) rfl ?_
      refine wN_mov (v := iv v) rfl ?_
      refine wN_idxa (b := H.next) (o := 0) (k := nx) (j := (nx : Int)) rfl rfl rfl (by omega) ?_
      refine wN_st (b := H.next) (o := 0 + nx * 1) (v := iv v) rfl rfl c5 (by omega) rfl rfl (by show 0 + nx * 1 < 5; omega) ?_
      intro H3 kH3 nH3 sH3
      have mH3 := kH3.1
      have hk := hk.new kH3 (fun b hb => .inr (by first | (simp at hb; done) | (simp at hb; omega)))
      have hJ := jm _ _ _ _ hJ kH3 (fun x hx => by first | (simp at hx; done) | (simp at hx; omega))
      have c5 : Cl H3 H.next (bc (upd b nx v)) := by rw [bc_set (by omega), eb] at sH3; exact sH3
      refine wN_end ?_
      refine wN_seq ?_
      refine wN_lda (b := H.next) (o := 0) rfl c5.rd (show row 5 (bc _) 0 = some (bc _) from rfl) ?_
      refine wN_mov (v := .slice sa us.length cap) rfl ?_
      refine wN_mov (v := iv (nx : Int)) rfl ?_
      refine wN_add (a := (nx : Int)) (b := 1) rfl rfl ⟨by omega, by omega⟩ ?_
      refine wN_mov (v := iv u) rfl ?_
      refine wN_mov (v := iv v) rfl ?_
      refine wN_sub (a := u) (b := v) rfl rfl ⟨by omega, by omega⟩ ?_
      refine wN_mov (v := .func (.func 102) #[] cv) rfl ?_
      obtain ⟨H4, fH4, jH4, kH4⟩ := ih (u - v) (upd b nx v) _ H3 (by omega) (by omega) (fun i => by unfold upd; split <;> first | omega | exact hb i) (by omega) hJ
      refine wN_callf (vs := [.agg (bc (upd b nx v)).toArray, .slice sa us.length cap, iv ((nx : Int) + 1), iv (u - v), .func (.func 102) #[] cv]) rfl (callX_args fH4) ?_
      have mH4 := kH4.1
      have hk := hk.new kH4 (fun b hb => .inl hb)
      have hJ := jH4
      have c5 := kH4.cl c5 (fun q => by have := hW _ q; omega)
      refine wN_pur (v := .bool false) rfl rfl ?_
      refine wN_end ?_
      refine condF ?_
      first | refine wN_skip ?_ | skip
      first | refine wN_reg ?_ | refine wN_blk ?_ | refine wN_bseq ?_ | (refine wOps_nil ?_; refine wN_reg ?_)
      refine wN_mov (v := iv v) rfl ?_
      refine wN_add (a := v) (b := 1) rfl rfl ⟨by omega, by omega⟩ ?_
      refine wN_mov (v := iv (v + 1)) rfl ?_
      refine wN_end ?_
      exact ⟨k, v + 1, by omega, ⟨by omega, by omega, hk, by omega, ⟨_, c5, fun x => upd_upd b nx v x⟩, hJ⟩, rfl, rfl, rfl, rfl, rfl, rfl, rfl, trivial⟩
    · have q2 : ¬ (v ≤ (mstU us nx u)) := of_decide_eq_false q2
      have k0 : k = 0 := by omega
      subst k0
      have hJ : J s L1 := hJ
      first | (refine wN_exit ?_; show wC _ _ _ _ _ _ _ _ _) | skip
      refine wN_seq ?_
      refine wN_mov (v := .bool true) rfl ?_
      refine wN_end ?_
      exact And.intro trivial (Exists.intro _ (And.intro rfl ⟨rfl, hJ, hk⟩))
/-- complete -/
theorem comp_ok {J : List Bl → Hp → Prop} {base : Nat} {Wy : List Nat} {cv : Array Value} {sa : Option Addr} {cap : Nat} {us : List Tn} (hn : us.length ≤ 5) (hok : us.all Tn.ok = true) (hlb : lo ≤ base) (hW : ∀ x ∈ Wy, x < base) (jm : ∀ s H1 H2 W, J s H1 → Keep H1 H2 W → (∀ x ∈ W, base ≤ x) → J s H2) (jt : ∀ s H1, J s H1 → Sl H1 sa us.length cap (tnc us) ∧ ∀ b, sa = some ⟨b, 0, none⟩ → Ft H1 b (tnc us)) (step : ∀ x s H1, (∀ i, 0 ≤ x i ∧ x i ≤ 12) → base ≤ H1.next → J (x :: s) H1 → ∃ H2, CallsX Try.prog kn lo (.fn (.func 102) cv) [.agg (bc x).toArray] H1 (.bool true) H2 ∧ J s H2 ∧ Keep H1 H2 Wy) : ∀ (d nx : Nat) (u : Int) (b : Bl) (s : List Bl) (H : Hp), nx + d = us.length → 0 ≤ u → u ≤ 60 → (∀ i, 0 ≤ b i ∧ b i ≤ 12) → base ≤ H.next → J (cmpl us d nx u b ++ s) H →
    ∃ H', FnX Try.prog kn lo 101 [.agg (bc b).toArray, .slice sa us.length cap, iv (nx : Int), iv u, .func (.func 102) #[] cv] H (.bool true) H' ∧ J s H' ∧ Keep H H' Wy
  | 0, nx, u, b, s, H, hd, hu0, hu, hb, hbn, hJ => by
    obtain rfl : nx = us.length := by omega
    exact comp_zero hn hok hlb hW jm jt step hb hbn hJ
  | d + 1, nx, u, b, s, H, hd, hu0, hu, hb, hbn, hJ =>
    comp_succ hn hok hlb hW jm jt hd (fun u b s H => comp_ok hn hok hlb hW jm jt step d (nx + 1) u b s H (by omega)) hu0 hu hb hbn hJ
theorem clos102_ok {Z : Hp → Prop} {x : Bl} {r : Rc} {l bL bR bY : Nat} {sa : Option Addr} {cap : Nat} {us : List Tn} (hs : Sl H sa us.length cap (tnc us)) (hn : us.length ≤ 5) (hok : us.all Tn.ok = true) (hr : r.ok = true) (hb : ∀ i, 0 ≤ x i ∧ x i ≤ 12) (hlo : lo ≤ H.next)
    (rL : Rd H bL [.slice sa us.length cap]) (rR : Rd H bR (Rc.f r)) (rY : Rd H bY [.func (.yield l) #[] #[]])
    (hy : rigB us r x = true → ∀ H1, Keep H H1 [] → ∃ H', CallsX Try.prog kn lo (.fn (.yield l) #[]) [.agg (bc x).toArray] H1 (.bool true) H' ∧ Z H')
    (hz : rigB us r x = false → ∀ H1, Keep H H1 [] → Z H1) :
    ∃ H', FnX Try.prog kn lo 102 [.agg (bc x).toArray, pt bL, pt bR, pt bY] H (.bool true) H' ∧ Z H' := by
  have key := fnX_low (kn := kn) (lo := lo) (H := H) (args := [.agg (bc x).toArray, pt bL, pt bR, pt bY]) (Q := fun w H' => w = .bool true ∧ Z H') Try.func102 B102 N102 Z102 L102 (by simp) ?_
  · obtain ⟨w, H', h, rfl, q⟩ := key; exact ⟨H', h, q⟩
  have hk := Keep.refl H []
  have fs := hs.old
  have lL := rL.lt
  have lR := rR.lt
  have lY := rY.lt
  refine wN_seq ?_
  refine wN_box (v := .agg (bc x).toArray) rfl ?_
  intro H1 kH1 nH1 c1
  have c1 : Cl H1 H.next [iv (x 0), iv (x 1), iv (x 2), iv (x 3), iv (x 4)] := c1
  have mH1 := kH1.1
  have hk := hk.trans kH1
  have rL := kH1.rd rL (by simp)
  have rR := kH1.rd rR (by simp)
  have rY := kH1.rd rY (by simp)
  have hs := kH1.sl0 hs
  refine wN_mov (v := .bool false) rfl ?_
  refine wN_end ?_
  refine wN_seq ?_
  refine wN_lda (b := H.next) (o := 0) rfl c1.rd (show row 5 _ _ = some [iv (x 0), iv (x 1), iv (x 2), iv (x 3), iv (x 4)] from rfl) ?_
  refine wN_ld (b := bL) (o := 0) (v := .slice sa us.length cap) rfl rL rfl ?_
  refine wN_lda (b := bR) (o := 0) rfl rR (show row 7 (Rc.f _) 0 = some (Rc.f _) from rfl) ?_
  obtain ⟨H2, fH2, kH2⟩ := right_ok (kn := kn) (lo := lo) (H := H1) (b := x) (r := r) hs rfl hb hok hn hr (by omega)
  have mH2 := kH2.1
  have hk := hk.trans kH2
  have rL := kH2.rd rL (by simp)
  have rR := kH2.rd rR (by simp)
  have rY := kH2.rd rY (by simp)
  have hs := kH2.sl0 hs
  have c1 := kH2.cl c1 (by simp)
  cases hm9 : rigB us r x
  · rw [hm9] at fH2
    refine wN_callf (vs := [.agg (bc x).toArray, .slice sa us.length cap, .agg (Rc.f r).toArray]) rfl (callX_args fH2) ?_
    refine wN_pur (v := .bool true) rfl rfl ?_
    refine wN_mov (v := .bool true) rfl ?_
    refine wN_gs rfl ?_
    refine wN_gs rfl ?_
    refine wN_gs rfl ?_
    refine wN_pur (v := .bool true) rfl rfl ?_
    refine wN_mov (v := .bool true) rfl ?_
    refine wN_end ?_
    exact And.intro trivial (Exists.intro _ (And.intro rfl ⟨rfl, hz (by assumption) _ hk⟩))
  · rw [hm9] at fH2
    refine wN_callf (vs := [.agg (bc x).toArray, .slice sa us.length cap, .agg (Rc.f r).toArray]) rfl (callX_args fH2) ?_
    refine wN_pur (v := .bool false) rfl rfl ?_
    refine wN_mov (v := .bool false) rfl ?_
    refine wN_g rfl (wN_ld (b := bY) (o := 0) (v := .func (.yield l) #[] #[]) rfl rY rfl ?_)
    refine wN_g rfl (wN_lda (b := H.next) (o := 0) rfl c1.rd (show row 5 _ _ = some [iv (x 0), iv (x 1), iv (x 2), iv (x 3), iv (x 4)] from rfl) ?_)
    obtain ⟨H3, fH3, zH3⟩ := hy (by assumption) _ hk
    refine wN_g rfl (wN_callf (vs := [.agg (bc x).toArray]) rfl fH3 ?_)
    refine wN_pur (v := .bool true) rfl rfl ?_
    refine wN_mov (v := .bool true) rfl ?_
    refine wN_end ?_
    exact And.intro trivial (Exists.intro _ (And.intro rfl ⟨rfl, zH3⟩))
theorem iter100_ok {J : List Bl → Hp → Prop} {base : Nat} {Wy : List Nat} {r : Rc} {l bL bR : Nat} {sa : Option Addr} {cap : Nat} {us : List Tn} (hn : us.length ≤ 5) (hok : us.all Tn.ok = true) (hr : r.ok = true) (hlb : lo ≤ base) (hW : ∀ x ∈ Wy, x < base) (jm : ∀ s H1 H2 W, J s H1 → Keep H1 H2 W → (∀ x ∈ W, base ≤ x) → J s H2) (je : ∀ s H1, J s H1 → Rd H1 bL [.slice sa us.length cap] ∧ Rd H1 bR (Rc.f r) ∧ Sl H1 sa us.length cap (tnc us) ∧ ∀ b, sa = some ⟨b, 0, none⟩ → Ft H1 b (tnc us))
    (step : ∀ x s H1, (∀ i, 0 ≤ x i ∧ x i ≤ 12) → rigB us r x = true → J (x :: s) H1 → base ≤ H1.next → ∃ H2, CallsX Try.prog kn lo (.fn (.yield l) #[]) [.agg (bc x).toArray] H1 (.bool true) H2 ∧ J s H2 ∧ Keep H1 H2 Wy)
    (skip : ∀ x s H1, rigB us r x = false → J (x :: s) H1 → J s H1) (hbn : base ≤ H.next) (hJ : J (allB us r) H) :
    ∃ H', FnX Try.prog kn lo 100 [.func (.yield l) #[] #[], pt bL, pt bR] H unit H' ∧ J [] H' := by
  have key := fnX_low (kn := kn) (lo := lo) (H := H) (args := [.func (.yield l) #[] #[], pt bL, pt bR]) (Q := fun w H' => w = unit ∧ J [] H') Try.func100 B100 N100 Z100 L100 (by simp) ?_
  · obtain ⟨w, H', h, rfl, q⟩ := key; exact ⟨H', h, q⟩
  have hk := Keep.refl H []
  obtain ⟨rL, rR, hs, hf⟩ := je _ _ hJ
  have lL := rL.lt
  have lR := rR.lt
  have hro := (Rc.ok_t hr).1
  refine wN_seq ?_
  refine wN_box (v := .func (.yield l) #[] #[]) rfl ?_
  intro H1 kH1 nH1 c1
  have c1 : Cl H1 H.next [.func (.yield l) #[] #[]] := c1
  have mH1 := kH1.1
  have hk := hk.trans kH1
  have rL := kH1.rd rL (by simp)
  have rR := kH1.rd rR (by simp)
  have hJ := jm _ _ _ _ hJ kH1 (fun x hx => by first | (simp at hx; done) | (simp at hx; omega))
  refine wN_end ?_
  first | refine wN_reg ?_ | refine wN_blk ?_ | refine wN_bseq ?_ | (refine wOps_nil ?_; refine wN_reg ?_)
  refine wN_pur (v := .agg #[iv 0, iv 0, iv 0, iv 0, iv 0]) rfl (by kernel_rfl) ?_
  refine wN_ld (b := bL) (o := 0) (v := .slice sa us.length cap) rfl rL rfl ?_
  refine wN_addo (b := bR) (o := 0) rfl ?_
  refine wN_ld (b := bR) (o := 0) (v := iv r.un) rfl rR rfl ?_
  refine wN_pur (v := .func (.func 102) #[] #[pt bL, pt bR, pt H.next]) rfl (by kernel_rfl) ?_
  obtain ⟨H2, fH2, jH2, kH2⟩ := comp_ok (kn := kn) (lo := lo) (J := fun s H1 => J s H1 ∧ Rd H1 H.next [.func (.yield l) #[] #[]]) (base := H.next + 1) (Wy := Wy) (cv := #[pt bL, pt bR, pt H.next]) (sa := sa) (cap := cap) (us := us) hn hok (by omega) (fun x hx => by have := hW x hx; omega)
    (fun s H1 H2 W j k hw => ⟨jm _ _ _ _ j.1 k (fun x hx => by have := hw x hx; omega), k.rd j.2 (fun q => by have := hw _ q; omega)⟩) (fun s H1 j => ⟨(je _ _ j.1).2.2.1, (je _ _ j.1).2.2.2⟩)
    (fun x s H1 hx hb1 j => by
      obtain ⟨e1, e2, e3, e4⟩ := je _ _ j.1
      obtain ⟨H2, g2, j2, k2⟩ := clos102_ok (kn := kn) (lo := lo) (H := H1) (Z := fun H2 => (J s H2 ∧ Rd H2 H.next [.func (.yield l) #[] #[]]) ∧ Keep H1 H2 Wy) (x := x) e3 hn hok hr hx (by omega) e1 e2 j.2
        (fun hrt H2 k2 => by
          obtain ⟨H3, g3, j3, k3⟩ := step x s H2 hx hrt (jm _ _ _ _ j.1 k2 (fun x hx => by simp at hx)) (by have := k2.1; omega)
          exact ⟨H3, g3, ⟨j3, k3.rd (k2.rd j.2 (by simp)) (fun q => by have := hW _ q; omega)⟩, (k2.mono (by simp)).trans k3⟩)
        (fun hrf H2 k2 => ⟨⟨jm _ _ _ _ (skip x s H1 hrf j.1) k2 (fun x hx => by simp at hx), k2.rd j.2 (by simp)⟩, k2.mono (by simp)⟩)
      exact ⟨H2, callX_func rfl (by simpa using g2), j2, k2⟩)
    us.length 0 r.un bz [] H1 (by omega) (by omega) (by omega) (fun _ => ⟨Int.le_refl _, (by decide : (0:Int) ≤ 12)⟩) (by omega) ⟨by rw [List.append_nil]; exact hJ, c1.rd⟩
  refine wN_callf (vs := [.agg (bc bz).toArray, .slice sa us.length cap, iv 0, iv r.un, .func (.func 102) #[] #[pt bL, pt bR, pt H.next]]) rfl (callX_args fH2) ?_
  refine wN_end ?_
  exact And.intro trivial (Exists.intro _ (And.intro rfl ⟨rfl, jH2.1⟩))
/-- blends -/
theorem blends75_ok {sa : Option Addr} {n cap : Nat} {r : Rc} (hlo : lo ≤ H.next) : ∃ H', FnX Try.prog kn lo 75 [.slice sa n cap, .agg (Rc.f r).toArray] H (.func (.func 100) #[] #[pt H.next, pt (H.next + 1)]) H' ∧ Rd H' H.next [.slice sa n cap] ∧ Rd H' (H.next + 1) (Rc.f r) ∧ H'.next = H.next + 2 ∧ Keep H H' [] := by
  have key := fnX_low (kn := kn) (lo := lo) (H := H) (args := [.slice sa n cap, .agg (Rc.f r).toArray]) (Q := fun w H' => w = (.func (.func 100) #[] #[pt H.next, pt (H.next + 1)]) ∧ Rd H' H.next [.slice sa n cap] ∧ Rd H' (H.next + 1) (Rc.f r) ∧ H'.next = H.next + 2 ∧ Keep H H' []) Try.func75 B75 N75 Z75 L75 (by simp) ?_
  · obtain ⟨w, H', h, rfl, q⟩ := key; exact ⟨H', h, q⟩
  have hk := Keep.refl H []
  refine wN_seq ?_
  refine wN_box (v := .slice sa n cap) rfl ?_
  intro H1 kH1 nH1 c1
  have c1 : Cl H1 H.next [.slice sa n cap] := c1
  have mH1 := kH1.1
  have hk := hk.trans kH1
  refine wN_box (v := .agg (Rc.f r).toArray) rfl ?_
  intro H2 kH2 nH2 c2
  have c2 : Cl H2 H1.next [iv r.un, iv r.s1, iv r.s2, iv r.a1, iv r.a2, iv r.c1, iv r.c2] := c2
  have mH2 := kH2.1
  have hk := hk.trans kH2
  have c1 := kH2.cl c1 (by simp)
  refine wN_mov (v := .nilFunc) rfl ?_
  refine wN_end ?_
  refine wN_seq ?_
  refine wN_pur (v := .func (.func 100) #[] #[pt H.next, pt H1.next]) rfl (by kernel_rfl) ?_
  refine wN_mov (v := .func (.func 100) #[] #[pt H.next, pt H1.next]) rfl ?_
  refine wN_end ?_
  have e2 : H1.next = H.next + 1 := by omega
  rw [e2] at c2
  exact And.intro trivial (Exists.intro _ (And.intro rfl ⟨by rw [e2]; rfl, c1.rd, c2.rd, by omega, hk⟩))
end
end Go.Ax

/-
  Plant: the cheapest blend (53) (written by program).
-/
namespace Go.Ax
open Go Go.RowKit Go.Proofs

noncomputable abbrev asg53 : Code := at_ Try.f53 [1, 0, 1, 0, 0]
noncomputable abbrev body53 : Code := at_ Try.f53 [1, 0, 1, 0, 1]
abbrev S53 (h : Nat) : Rg := [(2, pt h), (4, pt (h + 2)), (5, pt (h + 3))]
theorem isb4 : isAggB Try.prog 4 = some false := by kernel_rfl
theorem res_cab {P : Program} {S : Rg} {H : Hp} {a b x y n : Nat} {t t2 : TypeId} {cs : List Value} {v : Value} (ha : lk S a = some (.pointer (some ⟨x, 0, none⟩))) (hb : lk S b = some (.pointer (some ⟨y, 0, none⟩))) (h1 : isAggB P t = some true) (h2 : isAggB P t2 = some false) (hi : ∃ i, P.info? t = some i ∧ i.size = n) (hl : cs.length = n) (h : Cl H x cs) (h3 : Cl H y [v]) :
    resS P S H [.cell a t, .cell b t2] = some [.agg cs.toArray, v] := by
  simp only [resS, ha, hb, load_agg h1 hi h.rd hl, load_one h2 h3.rd]
structure J53 (us : List Tn) (r : Rc) (sa : Option Addr) (cap : Nat) (H0 : Hp) (s : List Bl) (H' : Hp) : Prop where
  acc : ∃ a, bstB us r a s = bestB us r ∧ Cl H' (H0.next + 2) (bc (a.getD bz)) ∧ Cl H' (H0.next + 3) [.bool a.isSome] ∧ ∀ x, a = some x → ∀ i, 0 ≤ x i ∧ x i ≤ 12
  rL : Rd H' H0.next [.slice sa us.length cap]
  r4 : Rd H' (H0.next + 4) [.slice sa us.length cap]
  r5 : Rd H' (H0.next + 5) (Rc.f r)
  lp : Lp Try.prog H' (H0.next + 7) .ready none 25 (S53 H0.next) [10] asg53 body53 (H0.next + 6)
  dfr : H'.t.get (H0.next + 6) = some (.dfr (some []))
  ll : H0.next + 8 ≤ H'.next
  kp : Keep H0 H' []
theorem J53.keep {us : List Tn} {r : Rc} {sa : Option Addr} {cap : Nat} {H0 : Hp} {s : List Bl} {H1 H2 : Hp} (j : J53 us r sa cap H0 s H1) {W : List Nat} (k : Keep H1 H2 W) (hW : ∀ b ∈ W, H0.next + 8 ≤ b) : J53 us r sa cap H0 s H2 := by
  have nw : ∀ x, x < H0.next + 8 → x ∉ W := fun x hx q => by have := hW x q; omega
  have ll := j.ll
  obtain ⟨a, e, fd, fo, q⟩ := j.acc
  exact ⟨⟨a, e, k.cl fd (nw _ (by omega)), k.cl fo (nw _ (by omega)), q⟩, k.rd j.rL (nw _ (by omega)), k.rd j.r4 (nw _ (by omega)), k.rd j.r5 (nw _ (by omega)), j.lp.keep k (by omega) (nw _ (by omega)), by rw [k.2 _ (by omega) (nw _ (by omega))]; exact j.dfr, Nat.le_trans j.ll k.1, j.kp.new k (fun b q => .inr (by have := hW b q; omega))⟩
section
variable {kn : FuncId → Option Bool} {lo : Nat} {H : Hp}
set_option maxRecDepth 100000 in
theorem round53 {us : List Tn} {r : Rc} {sa : Option Addr} {cap : Nat} {H0 : Hp} (hs : Sl H0 sa us.length cap (tnc us)) (hn : us.length ≤ 5) (hok : us.all Tn.ok = true) (hlo : lo ≤ H0.next) {x : Bl} {s : List Bl} (hx : ∀ i, 0 ≤ x i ∧ x i ≤ 12) (hrt : rigB us r x = true) (j : J53 us r sa cap H0 (x :: s) H) (hnx : H0.next + 8 ≤ H.next) :
    ∃ H', CallsX Try.prog kn lo (.fn (.yield (H0.next + 7)) #[]) [.agg (bc x).toArray] H (.bool true) H' ∧ J53 us r sa cap H0 s H' ∧ Keep H H' [H0.next + 2, H0.next + 3, H0.next + 7] := by
  have L1 : low Try.prog 25 asg53 = some R53x1 := N53 ▸ L53x1
  have L2 : low Try.prog 25 body53 = some R53x2 := N53 ▸ L53x2
  have key := yield_ok (kn := kn) (P := Try.prog) (lo := lo) (S1 := (10, .agg (bc x).toArray) :: S53 H0.next) (args := [.agg (bc x).toArray]) (Q := fun t H' => t = true ∧ J53 us r sa cap H0 s H' ∧ Keep H H' [H0.next + 2, H0.next + 3, H0.next + 7]) j.lp (by omega) (by rfl) rfl (wC_sound true _ L1 ?_)
  · obtain ⟨t, H', h, rfl, q⟩ := key; exact ⟨H', h, q⟩
  have ll := j.ll
  refine wN_reg ?_
  refine wN_alc ?_
  intro H1 k1 n1 c1
  refine wN_sta (b := H.next) (o := 0) (v := .agg (bc x).toArray) rfl rfl c1 (by omega) rfl rfl (by simp) ?_
  intro H2 k2 n2 c2
  have c2 : Cl H2 H.next (bc x) := c2
  refine wN_end ?_
  have k02 : Keep H H2 [] := k1.new k2 (fun b hb => by simp at hb; omega)
  have m2 := k02.1
  have fs0 := hs.old
  refine And.intro trivial (And.intro (j.lp.keep k02 (by omega) (by simp)) ?_)
  intro H3 s3
  have k3 := s3.keep
  have hn3 : H3.next = H2.next := s3.1
  have lp3 := s3.lp (j.lp.keep k02 (by omega) (by simp))
  have nl : ∀ x, x ≠ H0.next + 7 → x ∉ [H0.next + 7] := fun x hx => by simpa using hx
  obtain ⟨a, ea, c20, c30, hab⟩ := j.acc
  have k03 : Keep H H3 [H0.next + 7] := (k02.mono (by simp)).trans k3
  have c6 := k3.cl c2 (nl _ (by omega))
  have c2 := k03.cl c20 (nl _ (by omega))
  have c3 := k03.cl c30 (nl _ (by omega))
  have rL := k03.rd j.rL (nl _ (by omega))
  have kp3 := j.kp.new k03 (fun b q => .inr (by simp at q; omega))
  have hs := kp3.sl0 hs
  have fs := hs.old
  rw [bstB_step hrt] at ea
  have nn : ∀ x, x ≠ H0.next + 2 → x ≠ H0.next + 3 → x ∉ [H0.next + 2, H0.next + 3] := fun x h1 h2 => by simp; omega
  have fin : ∀ H4 a4, Keep H3 H4 [H0.next + 2, H0.next + 3] → Cl H4 (H0.next + 2) (bc (a4.getD bz)) → Cl H4 (H0.next + 3) [.bool a4.isSome] → pickB us a x = a4 → (∀ x, a4 = some x → ∀ i, 0 ≤ x i ∧ x i ≤ 12) →
      Lp Try.prog H4 (H0.next + 7) .busy none 25 (S53 H0.next) [10] asg53 body53 (H0.next + 6) ∧ ∀ H5, SetLp H4 (H0.next + 7) .ready none H5 → (true = true ∧ J53 us r sa cap H0 s H5 ∧ Keep H H5 [H0.next + 2, H0.next + 3, H0.next + 7]) := by
    intro H4 a4 k4 d2 d3 ep hb4
    have m4 := k4.1
    have lp4 := lp3.keep k4 (by omega) (nn _ (by omega) (by omega))
    refine ⟨lp4, fun H5 s5 => ?_⟩
    have k5 := s5.keep
    have hn5 : H5.next = H4.next := s5.1
    have k05 : Keep H H5 [H0.next + 2, H0.next + 3, H0.next + 7] := ((k03.mono (by simp)).trans (k4.mono (by simp))).trans (k5.mono (by simp))
    have n3 : ∀ x, x ≠ H0.next + 2 → x ≠ H0.next + 3 → x ≠ H0.next + 7 → x ∉ [H0.next + 2, H0.next + 3, H0.next + 7] := fun x h1 h2 h3 => by simp; omega
    rw [ep] at ea
    exact ⟨rfl, ⟨⟨a4, ea, k5.cl d2 (nl _ (by omega)), k5.cl d3 (nl _ (by omega)), hb4⟩, k05.rd j.rL (n3 _ (by omega) (by omega) (by omega)), k05.rd j.r4 (n3 _ (by omega) (by omega) (by omega)), k05.rd j.r5 (n3 _ (by omega) (by omega) (by omega)), s5.lp lp4, by rw [k05.2 _ (by omega) (n3 _ (by omega) (by omega) (by omega))]; exact j.dfr, by omega, j.kp.new k05 (fun b q => .inr (by simp at q; omega))⟩, k05⟩
  have hk := Keep.refl H3 [H0.next + 2, H0.next + 3]
  refine wC_sound true _ L2 ?_
  cases a with
  | none =>
    have c2 : Cl H3 (H0.next + 2) (bc bz) := c2
    have c3 : Cl H3 (H0.next + 3) [.bool false] := c3
    refine wD_seq ?_
    refine wD_ld (b := (H0.next + 3)) (o := 0) (v := .bool false) rfl c3.rd rfl ?_
    refine wD_pur (v := .bool true) rfl rfl ?_
    refine wD_mov (v := .bool true) rfl ?_
    refine wD_gs rfl ?_
    refine wD_gs rfl ?_
    refine wD_gs rfl ?_
    refine wD_gs rfl ?_
    refine wD_gs rfl ?_
    refine wD_gs rfl ?_
    refine wD_gs rfl ?_
    refine wD_pur (v := .bool true) rfl rfl ?_
    refine wD_end (by repeat' first | exact True.intro | exact (fun h => h) | refine And.intro ?_ ?_ | (intro h; have h : (_ : Nat) = _ := h; omega)) ?_
    refine condT ?_
    first | refine wN_reg ?_ | refine wN_blk ?_ | refine wN_bseq ?_ | (refine wOps_nil ?_; refine wN_reg ?_)
    refine wN_lda (b := H.next) (o := 0) rfl c6.rd (show row 5 _ _ = some [iv (x 0), iv (x 1), iv (x 2), iv (x 3), iv (x 4)] from rfl) ?_
    refine wN_sta (b := (H0.next + 2)) (o := 0) rfl rfl c2 (by omega) rfl rfl (by simp) ?_
    intro H1 kH1 nH1 sH1
    have mH1 := kH1.1
    have hk := hk.new kH1 (fun b hb => .inl (by first | (simp at hb; done) | (simp at hb; simp [hb])))
    have c3 := kH1.cl c3 (by first | (simp; done) | (simp; omega))
    have c6 := kH1.cl c6 (by first | (simp; done) | (simp; omega))
    have rL := kH1.rd rL (by first | (simp; done) | (simp; omega))
    have hs := kH1.sl hs (fun b e => by have := fs0 b e; first | (simp; done) | (simp; omega))
    have c2 : Cl H1 (H0.next + 2) [iv (x 0), iv (x 1), iv (x 2), iv (x 3), iv (x 4)] := sH1
    refine wN_st (b := (H0.next + 3)) (o := 0) rfl rfl c3 (by omega) rfl rfl (by simp) ?_
    intro H2 kH2 nH2 sH2
    have mH2 := kH2.1
    have hk := hk.new kH2 (fun b hb => .inl (by first | (simp at hb; done) | (simp at hb; simp [hb])))
    have c6 := kH2.cl c6 (by first | (simp; done) | (simp; omega))
    have rL := kH2.rd rL (by first | (simp; done) | (simp; omega))
    have hs := kH2.sl hs (fun b e => by have := fs0 b e; first | (simp; done) | (simp; omega))
    have c2 := kH2.cl c2 (by first | (simp; done) | (simp; omega))
    have c3 : Cl H2 (H0.next + 3) [.bool true] := sH2
    refine wN_end ?_
    exact fin _ (some x) hk c2 c3 rfl (fun z e i => by cases e; exact hx i)
  | some y =>
    have c2 : Cl H3 (H0.next + 2) (bc y) := c2
    have hy := hab y rfl
    have c3 : Cl H3 (H0.next + 3) [.bool true] := c3
    refine wD_seq ?_
    refine wD_ld (b := (H0.next + 3)) (o := 0) (v := .bool true) rfl c3.rd rfl ?_
    refine wD_pur (v := .bool false) rfl rfl ?_
    refine wD_mov (v := .bool false) rfl ?_
    refine wD_g rfl (wD_lda (b := H.next) (o := 0) rfl c6.rd (show row 5 _ _ = some [iv (x 0), iv (x 1), iv (x 2), iv (x 3), iv (x 4)] from rfl) ?_)
    refine wD_g rfl (wD_ld (b := H0.next) (o := 0) (v := .slice sa us.length cap) rfl rL rfl ?_)
    obtain ⟨H1, fH1, kH1⟩ := cost_ok (kn := kn) (lo := H3.next) (H := H3) (b := x) hs rfl hx hok hn (by omega)
    refine wD_g rfl (wD_callh (vs := [.agg (bc x).toArray, .slice sa us.length cap]) rfl rfl (callX_args fH1) ?_)
    have mH1 := kH1.1
    have hk := hk.new kH1 (fun b hb => .inl (by first | (simp at hb; done) | (simp at hb; simp [hb])))
    have c2 := kH1.cl c2 (by simp)
    have c3 := kH1.cl c3 (by simp)
    have c6 := kH1.cl c6 (by simp)
    have rL := kH1.rd rL (by simp)
    have hs := kH1.sl0 hs
    refine wD_g rfl (wD_lda (b := (H0.next + 2)) (o := 0) rfl c2.rd (show row 5 _ _ = some [iv (y 0), iv (y 1), iv (y 2), iv (y 3), iv (y 4)] from rfl) ?_)
    refine wD_g rfl (wD_ld (b := H0.next) (o := 0) (v := .slice sa us.length cap) rfl rL rfl ?_)
    obtain ⟨H2, fH2, kH2⟩ := cost_ok (kn := kn) (lo := lo) (H := H1) (b := y) hs rfl hy hok hn (by omega)
    refine wD_g rfl (wD_callf (vs := [.agg (bc y).toArray, .slice sa us.length cap]) rfl (callX_args fH2) ?_)
    have mH2 := kH2.1
    have hk := hk.new kH2 (fun b hb => .inl (by first | (simp at hb; done) | (simp at hb; simp [hb])))
    have c2 := kH2.cl c2 (by simp)
    have c3 := kH2.cl c3 (by simp)
    have c6 := kH2.cl c6 (by simp)
    have rL := kH2.rd rL (by simp)
    have hs := kH2.sl0 hs
    refine wD_g rfl (wD_b_lss (a := (cosB us x)) (b := (cosB us y)) rfl rfl ?_)
    intro t1 g1; cases t1
    · have g1 : ¬ ((cosB us x) < (cosB us y)) := of_decide_eq_false g1
      refine wD_pur (v := .bool false) rfl rfl ?_
      refine wD_end (by repeat' first | exact True.intro | exact (fun h => h) | refine And.intro ?_ ?_ | (intro h; have h : (_ : Nat) = _ := h; omega)) ?_
      refine condF ?_
      first | refine wN_skip ?_ | skip
      exact fin _ (some y) hk c2 c3 (by unfold pickB; simp only; rw [if_neg (by omega)]) (fun z e i => by cases e; exact hy i)
    · have g1 : (cosB us x) < (cosB us y) := of_decide_eq_true g1
      refine wD_pur (v := .bool true) rfl rfl ?_
      refine wD_end (by repeat' first | exact True.intro | exact (fun h => h) | refine And.intro ?_ ?_ | (intro h; have h : (_ : Nat) = _ := h; omega)) ?_
      refine condT ?_
      first | refine wN_reg ?_ | refine wN_blk ?_ | refine wN_bseq ?_ | (refine wOps_nil ?_; refine wN_reg ?_)
      refine wN_lda (b := H.next) (o := 0) rfl c6.rd (show row 5 _ _ = some [iv (x 0), iv (x 1), iv (x 2), iv (x 3), iv (x 4)] from rfl) ?_
      refine wN_sta (b := (H0.next + 2)) (o := 0) rfl rfl c2 (by omega) rfl rfl (by simp) ?_
      intro H3 kH3 nH3 sH3
      have mH3 := kH3.1
      have hk := hk.new kH3 (fun b hb => .inl (by first | (simp at hb; done) | (simp at hb; simp [hb])))
      have c3 := kH3.cl c3 (by first | (simp; done) | (simp; omega))
      have c6 := kH3.cl c6 (by first | (simp; done) | (simp; omega))
      have rL := kH3.rd rL (by first | (simp; done) | (simp; omega))
      have hs := kH3.sl hs (fun b e => by have := fs0 b e; first | (simp; done) | (simp; omega))
      have c2 : Cl H3 (H0.next + 2) [iv (x 0), iv (x 1), iv (x 2), iv (x 3), iv (x 4)] := sH3
      refine wN_st (b := (H0.next + 3)) (o := 0) rfl rfl c3 (by omega) rfl rfl (by simp) ?_
      intro H4 kH4 nH4 sH4
      have mH4 := kH4.1
      have hk := hk.new kH4 (fun b hb => .inl (by first | (simp at hb; done) | (simp at hb; simp [hb])))
      have c6 := kH4.cl c6 (by first | (simp; done) | (simp; omega))
      have rL := kH4.rd rL (by first | (simp; done) | (simp; omega))
      have hs := kH4.sl hs (fun b e => by have := fs0 b e; first | (simp; done) | (simp; omega))
      have c2 := kH4.cl c2 (by first | (simp; done) | (simp; omega))
      have c3 : Cl H4 (H0.next + 3) [.bool true] := sH4
      refine wN_end ?_
      exact fin _ (some x) hk c2 c3 (by unfold pickB; simp only; rw [if_pos (by omega)]) (fun z e i => by cases e; exact hx i)
set_option maxRecDepth 100000 in
/-- cheapest -/
theorem cheap_ok {us : List Tn} {r : Rc} {sa : Option Addr} {cap : Nat} (hs : Sl H sa us.length cap (tnc us)) (hf : ∀ b, sa = some ⟨b, 0, none⟩ → Ft H b (tnc us)) (hn : us.length ≤ 5) (hok : us.all Tn.ok = true) (hr : r.ok = true) (hlo : lo ≤ H.next) :
    ∃ H', FnX Try.prog kn lo 53 [.slice sa us.length cap, .agg (Rc.f r).toArray] H (.tuple #[.agg (bc ((bestB us r).getD bz)).toArray, .bool (bestB us r).isSome]) H' ∧ Keep H H' [] := by
  have key := fnX_lowR (kn := kn) (lo := lo) (H := H) (args := [.slice sa us.length cap, .agg (Rc.f r).toArray]) (Q := fun w H' => w = .tuple #[.agg (bc ((bestB us r).getD bz)).toArray, .bool (bestB us r).isSome] ∧ Keep H H' []) Try.func53 B53 N53 Z53 L53 (by simp) ?_
  · obtain ⟨w, H', h, rfl, q⟩ := key; exact ⟨H', h, q⟩
  intro y hy
  refine TriR.lowR hy ?_
  refine wN_reg ?_
  refine wN_box (v := .slice sa us.length cap) rfl ?_
  intro H1 k1 n1 c1
  have c1 : Cl H1 H.next [.slice sa us.length cap] := c1
  refine wN_box (v := .agg (Rc.f r).toArray) rfl ?_
  intro H2 k2 n2 c2
  have c2 : Cl H2 H1.next (Rc.f r) := c2
  refine wN_alc ?_
  intro H3 k3 n3 c3
  have c3 : Cl H3 H2.next (bc bz) := c3
  refine wN_alc ?_
  intro H4 k4 n4 c4
  have c4 : Cl H4 H3.next [.bool false] := c4
  refine wN_end ?_
  intro y hy
  refine TriR.lowL hy ?_
  intro z hz
  refine TriR.lowR hz ?_
  refine wN_reg ?_
  have k24 := k3.trans k4
  have k14 := k2.trans k24
  have k04 := k1.trans k14
  refine wN_ld (b := H.next) (o := 0) (v := .slice sa us.length cap) rfl (k14.cl c1 (by simp)).rd rfl ?_
  refine wN_lda (b := H1.next) (o := 0) rfl (k24.cl c2 (by simp)).rd (show row 7 (Rc.f r) 0 = some (Rc.f r) from rfl) ?_
  have e4 : H4.next = H.next + 4 := by omega
  obtain ⟨H5, f5, g1, g2, n5, k5⟩ := blends75_ok (kn := kn) (lo := lo) (H := H4) (sa := sa) (n := us.length) (cap := cap) (r := r) (by omega)
  refine wN_callf (vs := [.slice sa us.length cap, .agg (Rc.f r).toArray]) rfl (callX_args f5) ?_
  refine wN_end ?_
  intro y hy
  refine TriR.lowB hy ?_
  rw [E53_1]
  refine TriR.range rfl ?_
  intro H7 k7 n7 hdf hlp
  have e5 : H5.next = H.next + 6 := by omega
  have hlp : Lp Try.prog H7 (H5.next + 1) .ready none 25 [(2, pt H.next), (4, pt H2.next), (5, pt H3.next)] [10] asg53 body53 H5.next := hlp.weak ⟨rfl, rfl, rfl, trivial⟩
  rw [show H2.next = H.next + 2 by omega, show H3.next = H.next + 3 by omega, e5] at hlp
  rw [e5] at hdf n7
  have k47 : Keep H4 H7 [] := k5.trans k7
  have k07 : Keep H H7 [] := k04.trans k47
  have d1 := (k14.trans k47).cl c1 (by simp)
  have d3 := (k4.trans k47).cl c3 (by simp)
  have d4 := k47.cl c4 (by simp)
  rw [show H2.next = H.next + 2 by omega] at d3
  rw [show H3.next = H.next + 3 by omega] at d4
  rw [e4] at g1 g2
  have j0 : J53 us r sa cap H (allB us r) H7 := ⟨⟨none, rfl, d3, d4, fun x e => by cases e⟩, d1.rd, k7.rd g1 (by simp), k7.rd g2 (by simp), hlp, hdf, by omega, k07⟩
  obtain ⟨H8, f8, j8⟩ := iter100_ok (kn := kn) (lo := lo) (H := H7) (J := J53 us r sa cap H) (base := H.next + 8) (Wy := [H.next + 2, H.next + 3, H.next + 7]) (r := r) (l := H.next + 7) (bL := H.next + 4) (bR := H.next + 5) (sa := sa) (cap := cap) (us := us) hn hok hr (by omega) (fun x hx => by simp at hx; omega)
    (fun s H1 H2 W j k hw => j.keep k hw) (fun s H1 j => ⟨j.r4, j.r5, j.kp.sl0 hs, fun b e => j.kp.ft (hf b e) (by simp)⟩)
    (fun x s H1 hx hrt j hb => round53 hs hn hok hlo hx hrt j hb)
    (fun x s H1 hrf j => by
      obtain ⟨a, e, q⟩ := j.acc
      rw [bstB_skip hrf] at e
      exact { j with acc := ⟨a, e, q⟩ }) (by omega) j0
  refine Exists.intro _ (Exists.intro H8 (And.intro (callX_func rfl (by rw [e4, e5]; simpa using f8)) ?_))
  have lp8 : Lp Try.prog H8 (H5.next + 1) .ready none 25 (S53 H.next) [10] asg53 body53 H5.next := by rw [e5]; exact j8.lp
  refine ⟨.ready, none, _, lp8, by simp, ?_⟩
  intro H9 s9
  have k9 := s9.keep
  have hn9 : H9.next = H8.next := s9.1
  rw [e5] at k9
  have ll := j8.ll
  have nl : ∀ x, x ≠ H.next + 7 → x ∉ [H.next + 6 + 1] := fun x hx => by simp; omega
  have d9 : H9.t.get H5.next = some (.dfr (some [])) := by rw [e5, k9.2 _ (by omega) (nl _ (by omega))]; exact j8.dfr
  obtain ⟨a, ea, fd, fo, hab⟩ := j8.acc
  have ea : a = bestB us r := ea
  have fd := k9.cl fd (nl _ (by omega))
  have fo := k9.cl fo (nl _ (by omega))
  have kp9 : Keep H H9 [] := j8.kp.new k9 (fun b q => .inr (by simp at q; omega))
  rw [← ea]
  have e2 : H2.next = H.next + 2 := by omega
  have e3 : H3.next = H.next + 3 := by omega
  rw [← e2] at fd
  rw [← e3] at fo
  refine wD_seq ?_
  refine wD_lda (b := H2.next) (o := 0) (q := bc (a.getD bz)) rfl fd.rd rfl ?_
  refine wD_ld (b := H3.next) (o := 0) (v := .bool a.isSome) rfl fo.rd rfl ?_
  refine wD_sta (b := H2.next) (o := 0) (v := .agg (bc (a.getD bz)).toArray) rfl rfl fd (by omega) rfl rfl (by simp) ?_
  intro H10 k10 n10 c10
  have c10 : Cl H10 H2.next (bc (a.getD bz)) := c10
  have fo := k10.cl fo (by simp; omega)
  refine wD_st (b := H3.next) (o := 0) (v := .bool a.isSome) rfl rfl fo (by omega) rfl rfl (by simp) ?_
  intro H11 k11 n11 c11
  have c11 : Cl H11 H3.next [.bool a.isSome] := c11
  have c10 := k11.cl c10 (by simp; omega)
  refine wD_end (by repeat' first | exact True.intro | exact (fun h => h) | refine And.intro ?_ ?_ | (intro h; have h : (_ : Nat) = _ := h; omega)) ?_
  have kpA : Keep H H11 [] := (kp9.new k10 (fun b q => .inr (by simp at q; omega))).new k11 (fun b q => .inr (by simp at q; omega))
  refine And.intro trivial (Or.inr ⟨H5.next, rfl, by omega, by rw [k11.2 _ (by omega) (by simp; omega), k10.2 _ (by omega) (by simp; omega)]; exact d9, fun H12 hn12 hk12 => ?_⟩)
  exact ⟨_, res_cab (x := H2.next) (y := H3.next) rfl rfl a89 isb4 i89s rfl (hk12.cl c10 (by simp; omega)) (hk12.cl c11 (by simp; omega)), rfl, kpA.new hk12 (fun b q => .inr (by simp at q; omega))⟩
end
end Go.Ax

/-
  Plant: an hour, step by step; append that leaves all but its own block (written by program).
-/
namespace Go.Ax
open Go Go.RowKit

theorem heap_append_out {P : Program} {lo : Nat} {H : Hp} {t0 t1 e ep : TypeId} {size k cap2 f : Nat} {a : Option Addr} {v : Value} {cs news : List Value} (he : sliceElem P t0 = some (e, size)) (ht : P.underlying t1 = some (.slice ep))
    (hs : Sl H a 1 cap2 news) (hl : news.length = 1 * size) (hz : 0 < size) (hone : news.all one = true) (hcl : cs.length = k * size) (hk : k < 1000) (ha : Acc lo f e H v k cs) (hlo : lo ≤ H.next) (hf : f ≤ H.next) :
    ∃ H1 kd, (∀ (n : Nat) (S : Rg) (d : Option Tmp) (x y : Operand) (ty : TypeId) (p : String), evS S x = some v → evS S y = some (.slice a 1 cap2) → heapOp P lo (frS n S) H ⟨d, .call ⟨.builtin .append, #[x, y], #[t0, t1]⟩, ty, p, #[], none⟩ = some (.val (.slice (some ⟨H.next, 0, none⟩) (k + 1) (k + 1)) H1, kd)) ∧ (kd = .heavy ∨ ∃ b, kd = .store b ∧ f ≤ b) ∧
      Acc lo f e H1 (.slice (some ⟨H.next, 0, none⟩) (k + 1) (k + 1)) (k + 1) (cs ++ news) ∧ Keep H H1 (bkv v).toList := by
  rcases ha with ⟨rfl, rfl, rfl⟩ | ⟨b, rfl, h0, hb, hlb, hn, hg⟩
  · refine ⟨H.new (.cells news e true), .heavy, ?_, .inl rfl, ?_, (new_facts rfl).1.mono (by simp)⟩
    · intro n S d x y ty p hx hy
      unfold heapOp
      simp only [evs, ev_frS, hx, hy, builtinV, List.getElem?_toArray, List.getElem?_cons_zero, List.getElem?_cons_succ, he, ht, src_of hs hl, appendV]
      rfl
    · refine .inr ⟨H.next, rfl, by omega, hf, hlo, Nat.lt_succ_self _, ?_⟩
      show (H.t.set H.next _).get H.next = _
      rw [Tr.get_set, if_pos rfl]; rfl
  · have h1 : Nat.ble (0 + (k + 1) * size) cs.length = false := by
      cases h : Nat.ble (0 + (k + 1) * size) cs.length with
      | false => rfl
      | true => have := Nat.le_of_ble_eq_true h; rw [hcl, Nat.succ_mul] at this; omega
    have h2 : Nat.beq (0 + k * size) cs.length = true := by rw [hcl, Nat.zero_add]; exact Nat.beq_refl _
    have h3 : Nat.ble (k + 1) 1048576 = true := Nat.ble_eq_true_of_le (by omega)
    have h4 : Nat.beq e e = true := Nat.beq_refl e
    refine ⟨({ H with t := H.t.set b .dead } : Hp).new (.cells (cs ++ news) e true), .store b, ?_, .inr ⟨b, rfl, hb⟩, ?_, ?_⟩
    · intro n S d x y ty p hx hy
      unfold heapOp
      simp only [evs, ev_frS, hx, hy, builtinV, List.getElem?_toArray, List.getElem?_cons_zero, List.getElem?_cons_succ, he, ht, src_of hs hl, appendV, hg, h1, h2, h3, h4, hone, Nat.ble_eq_true_of_le hlb, Bool.and_self, cond_true, cond_false, List.drop_zero, show Nat.beq 1 0 = false from rfl]
    · refine .inr ⟨H.next, rfl, by omega, hf, hlo, Nat.lt_succ_self _, ?_⟩
      show ((H.t.set b .dead).set H.next _).get H.next = _
      rw [Tr.get_set, if_pos rfl]
    · refine ⟨Nat.le_succ _, fun c hc hn => ?_, fun c xs hc hx => ?_⟩
      · have hne : c ≠ b := by simpa [bkv] using hn
        show ((H.t.set b .dead).set H.next _).get c = _
        rw [Tr.get_set, if_neg (by omega), Tr.get_set, if_neg hne]
      · have hx : ((H.t.set b .dead).set H.next (.cells (cs ++ news) e true)).get c = some (.ro xs) := hx
        have hc : c < H.next + 1 := hc
        rw [Tr.get_set] at hx
        split at hx
        · cases hx
        · rw [Tr.get_set] at hx
          split at hx
          · cases hx
          · exact ⟨by omega, hx⟩
theorem bkv_in {lo f : Nat} {e : TypeId} {H : Hp} {v : Value} {n : Nat} {cs : List Value} (h : Acc lo f e H v n cs) : ∀ x ∈ (bkv v).toList, f ≤ x ∧ x < H.next := by
  intro x hx
  rcases h with ⟨_, _, rfl⟩ | ⟨b, rfl, _, h2, _, h3, _⟩
  · simp [bkv] at hx
  · simp [bkv] at hx; subst hx; exact ⟨h2, h3⟩
section
variable {L : Nat → Nat} {rd left dn ms : Nat → Int} {h R : Int} {n k t : Nat}
theorem hst_wait (hr : rd (L k) ≤ h) : hst L rd h R left (k + 1) = (upd (hst L rd h R left k).1 (L k) ((hst L rd h R left k).1 (L k) - min (hst L rd h R left k).2 ((hst L rd h R left k).1 (L k))), (hst L rd h R left k).2 - min (hst L rd h R left k).2 ((hst L rd h R left k).1 (L k))) := by
  have g : gt rd h (hst L rd h R left k) (L k) = min (hst L rd h R left k).2 ((hst L rd h R left k).1 (L k)) := by unfold gt; rw [if_pos hr]
  show (upd _ _ (_ - gt rd h (hst L rd h R left k) (L k)), _ - gt rd h (hst L rd h R left k) (L k)) = _
  rw [g]
theorem upd_same (f : Nat → Int) (x : Nat) : upd f x (f x) = f := by
  funext y; unfold upd; split
  · rename_i e; rw [e]
  · rfl
theorem hst_idle (hi : ¬ (rd (L k) ≤ h ∧ 0 < (hst L rd h R left k).1 (L k))) (nn : 0 ≤ (hst L rd h R left k).1 (L k)) (hm : 0 ≤ (hst L rd h R left k).2) : hst L rd h R left (k + 1) = hst L rd h R left k := by
  have g : gt rd h (hst L rd h R left k) (L k) = 0 := by unfold gt; split <;> omega
  show (upd _ _ (_ - gt rd h (hst L rd h R left k) (L k)), _ - gt rd h (hst L rd h R left k) (L k)) = _
  rw [g, Int.sub_zero, Int.sub_zero, upd_same]
theorem dst_idle (hi : ¬ (rd (L k) ≤ h ∧ 0 < (hst L rd h R left k).1 (L k))) (nn : 0 ≤ (hst L rd h R left k).1 (L k)) (hm : 0 ≤ (hst L rd h R left k).2) : dst L rd h R left dn (k + 1) = dst L rd h R left dn k := by
  show (if _ then _ else _) = _
  rw [hst_idle hi nn hm, if_neg (by omega)]
theorem dst_go (h1 : 0 < (hst L rd h R left k).1 (L k)) (h2 : (hst L rd h R left (k + 1)).1 (L k) = 0) : dst L rd h R left dn (k + 1) = upd (dst L rd h R left dn k) (L k) (h + 1) := by
  show (if _ then _ else _) = _
  rw [if_pos ⟨h1, h2⟩]
theorem dst_no (h2 : (hst L rd h R left (k + 1)).1 (L k) ≠ 0) : dst L rd h R left dn (k + 1) = dst L rd h R left dn k := by
  show (if _ then _ else _) = _
  rw [if_neg (fun q => h2 q.2)]
variable {du : Nat → Int}
theorem lfA_nn (hO : OO du n n L) (hm : ∀ x, x < n → 0 ≤ ms x) (hR : 0 ≤ R) : ∀ t p, p < n → 0 ≤ lfA L rd R ms n t (L p) ∧ lfA L rd R ms n t (L p) ≤ ms (L p)
  | 0, p, hp => ⟨hm _ (hO.lt p hp), Int.le_refl _⟩
  | t + 1, p, hp => by
    have a := fun p hp => (lfA_nn hO hm hR t p hp).1
    have b := (hst_hr (L := L) (rd := rd) (h := (t : Int)) (R := R) hO.inj a hR).nn p hp
    have c := (lfA_nn hO hm hR t p hp).2
    exact ⟨b.1, Int.le_trans b.2 c⟩
/-- within an hour -/
theorem hst_in (hO : OO du n n L) (hm : ∀ x, x < n → 0 ≤ ms x) (hR : 0 ≤ R) (hk : k ≤ n) : (∀ p, p < n → 0 ≤ (hst L rd t R (lfA L rd R ms n t) k).1 (L p) ∧ (hst L rd t R (lfA L rd R ms n t) k).1 (L p) ≤ ms (L p)) ∧ 0 ≤ (hst L rd t R (lfA L rd R ms n t) k).2 ∧ (hst L rd t R (lfA L rd R ms n t) k).2 ≤ R := by
  have a := lfA_nn (rd := rd) hO hm hR t
  obtain ⟨_, b2, _, b4, b5, _⟩ := hst_all (rd := rd) (h := (t : Int)) hO.inj (fun p hp => (a p hp).1) hR k hk
  refine ⟨fun p hp => ⟨(b2 p hp).1, Int.le_trans (b2 p hp).2 (a p hp).2⟩, b4, ?_⟩
  have : 0 ≤ sm (fun p => lfA L rd R ms n t (L p) - (hst L rd t R (lfA L rd R ms n t) k).1 (L p)) k := sm_nn fun p hp => by have := (b2 p (by omega)).2; omega
  omega
theorem hour_stop (hO : OO du n n L) (hm : ∀ x, x < n → 0 ≤ ms x) (hR : 0 ≤ R) (hk : k ≤ n) (h0 : (hst L rd t R (lfA L rd R ms n t) k).2 = 0) :
    lfA L rd R ms n (t + 1) = (hst L rd t R (lfA L rd R ms n t) k).1 ∧ ∀ dn, dst L rd t R (lfA L rd R ms n t) dn n = dst L rd t R (lfA L rd R ms n t) dn k := by
  have nn : ∀ q, q ≤ n → ∀ p, p < n → 0 ≤ (hst L rd t R (lfA L rd R ms n t) q).1 (L p) := fun q hq p hp => ((hst_in (rd := rd) (t := t) hO hm hR hq).1 p hp).1
  have a := hst_stop nn h0 (n - k) (by omega)
  rw [show k + (n - k) = n by omega] at a
  refine ⟨?_, fun dn => ?_⟩
  · show (hst L rd t R (lfA L rd R ms n t) n).1 = _; rw [a]
  · have b := dst_stop (dn := dn) nn h0 (n - k) (by omega)
    rw [show k + (n - k) = n by omega] at b; exact b
end
end Go.Ax

/-
  Plant: the program's freezer: Frozen (written by program).
-/
namespace Go.Ax
open Go Go.RowKit Go.Proofs

section
variable {kn : FuncId → Option Bool} {lo : Nat} {H : Hp}
theorem first81_ok {x : Fz} (hlo : lo ≤ H.next) : ∃ H', FnX Try.prog kn lo 81 [.agg (Fz.f x).toArray] H (iv (if x.ms = 0 then x.rd else 501)) H' ∧ Keep H H' [] := by
  have key := fnX_low (kn := kn) (lo := lo) (H := H) (args := [.agg (Fz.f x).toArray]) (Q := fun w H' => w = iv (if x.ms = 0 then x.rd else 501) ∧ Keep H H' []) Try.func81 B81 N81 Z81 L81 (by simp) ?_
  · obtain ⟨w, H', h, rfl, q⟩ := key; exact ⟨H', h, q⟩
  have hk := Keep.refl H []
  refine wN_seq ?_
  refine wN_box (v := .agg (Fz.f x).toArray) rfl ?_
  intro H1 kH1 nH1 c1
  have c1 : Cl H1 H.next [iv x.rd, iv x.du, iv x.ms] := c1
  have mH1 := kH1.1
  have hk := hk.trans kH1
  refine wN_mov (v := iv 0) rfl ?_
  refine wN_end ?_
  refine wN_seq ?_
  refine wN_addo (b := H.next) (o := 0) rfl ?_
  refine wN_ld (b := H.next) (o := 2) (v := iv x.ms) rfl c1.rd rfl ?_
  refine wN_c_eql (a := x.ms) (b := 0) rfl rfl ?_
  refine wN_end ?_
  refine And.intro (fun q1 => ?_) (fun q1 => ?_)
  · have q1 : x.ms = 0 := by simpa using q1
    refine wN_seq ?_
    refine wN_addo (b := H.next) (o := 0) rfl ?_
    refine wN_ld (b := H.next) (o := 0) (v := iv x.rd) rfl c1.rd rfl ?_
    refine wN_mov (v := iv x.rd) rfl ?_
    refine wN_end ?_
    exact And.intro trivial (Exists.intro _ (And.intro rfl ⟨congrArg iv (show (x.rd : Int) = (if x.ms = 0 then x.rd else 501) from (by symm; rw [if_pos (by omega)])), hk⟩))
  · have q1 : ¬ (x.ms = 0) := by simpa using q1
    first | refine wN_skip ?_ | skip
    refine wN_seq ?_
    refine wN_mov (v := iv 501) rfl ?_
    refine wN_end ?_
    exact And.intro trivial (Exists.intro _ (And.intro rfl ⟨congrArg iv (show (501 : Int) = (if x.ms = 0 then x.rd else 501) from (by symm; rw [if_neg (by omega)])), hk⟩))
/-- isWaiting -/
theorem waiting_ok {sa : Option Addr} {n cap bl cl x : Nat} {us : List Fz} {lf : Nat → Int} {h : Int} (hs : Sl H sa n cap (fzc us)) (hl : us.length = n) (hx : x < n) (hn : n ≤ 1000000) (cl0 : Cl H bl (nf lf n)) (hlo : lo ≤ H.next) : ∃ H', FnX Try.prog kn lo 83 [.agg #[.slice sa n cap, .slice (some ⟨bl, 0, none⟩) n cl], iv (x : Int), iv h] H (.bool (decide (rdF us x ≤ h ∧ 0 < lf x))) H' ∧ Keep H H' [] := by
  have key := fnX_low (kn := kn) (lo := lo) (H := H) (args := [.agg #[.slice sa n cap, .slice (some ⟨bl, 0, none⟩) n cl], iv (x : Int), iv h]) (Q := fun w H' => w = .bool (decide (rdF us x ≤ h ∧ 0 < lf x)) ∧ Keep H H' []) Try.func83 B83 N83 Z83 L83 (by simp) ?_
  · obtain ⟨w, H', h, rfl, q⟩ := key; exact ⟨H', h, q⟩
  have hk := Keep.refl H []
  obtain ⟨y, hy⟩ := get_some (l := us) (i := x) (by omega)
  rcases id hs with ⟨_, h0, _⟩ | ⟨sb, es, rs, _⟩
  · omega
  have lsb := rs.lt
  have lbl := cl0.lt
  refine wN_seq ?_
  refine wN_box (v := .agg #[.slice sa n cap, .slice (some ⟨bl, 0, none⟩) n cl]) rfl ?_
  intro H1 kH1 nH1 c1
  have c1 : Cl H1 H.next [.slice sa n cap, .slice (some ⟨bl, 0, none⟩) n cl] := c1
  have mH1 := kH1.1
  have hk := hk.trans kH1
  have rs := kH1.rd rs (by simp)
  have cl0 := kH1.cl cl0 (by simp)
  refine wN_mov (v := .bool false) rfl ?_
  refine wN_end ?_
  refine wN_seq ?_
  refine wN_addo (b := H.next) (o := 0) rfl ?_
  refine wN_ld (b := H.next) (o := 0) (v := .slice sa n cap) rfl c1.rd rfl ?_
  refine wN_mov (v := iv (x : Int)) rfl ?_
  refine wN_idx (b := sb) (o := 0) (k := x) (j := (x : Int)) (by rw [← es]; rfl) rfl rfl (by omega) ?_
  refine wN_addo (b := sb) (o := 0 + x * 3) rfl ?_
  refine wN_ld (b := sb) (o := 0 + x * 3) (v := iv (rdF us x)) rfl rs (by rw [(Fz.at hy).2.1]; exact (by have q := fzc_at (j := 0) hy rfl; exact q)) ?_
  refine wN_mov (v := iv h) rfl ?_
  refine wN_b_leq (a := (rdF us x)) (b := h) rfl rfl ?_
  intro t1 g1; cases t1
  · have g1 : ¬ ((rdF us x) ≤ h) := of_decide_eq_false g1
    refine wN_mov (v := .bool false) rfl ?_
    refine wN_gs rfl ?_
    refine wN_gs rfl ?_
    refine wN_gs rfl ?_
    refine wN_gs rfl ?_
    refine wN_gs rfl ?_
    refine wN_gs rfl ?_
    refine wN_pur (v := .bool false) rfl rfl ?_
    refine wN_mov (v := .bool false) rfl ?_
    refine wN_end ?_
    exact And.intro trivial (Exists.intro _ (And.intro rfl ⟨congrArg Value.bool (show false = decide (rdF us x ≤ h ∧ 0 < lf x) from (by symm; first | (exact decide_eq_true (by omega)) | (exact decide_eq_false (by omega)))), hk⟩))
  · have g1 : (rdF us x) ≤ h := of_decide_eq_true g1
    refine wN_mov (v := .bool true) rfl ?_
    refine wN_g rfl (wN_addo (b := H.next) (o := 0) rfl ?_)
    refine wN_g rfl (wN_ld (b := H.next) (o := 1) (v := .slice (some ⟨bl, 0, none⟩) n cl) rfl c1.rd rfl ?_)
    refine wN_g rfl (wN_mov (v := iv (x : Int)) rfl ?_)
    refine wN_g rfl (wN_idx (b := bl) (o := 0) (k := x) (j := (x : Int)) rfl rfl rfl (by omega) ?_)
    refine wN_g rfl (wN_ld (b := bl) (o := 0 + x * 1) (v := iv (lf x)) rfl cl0.rd (nf_at (f := lf) (by omega)) ?_)
    refine wN_g rfl (wN_b_gtr (a := (lf x)) (b := 0) rfl rfl ?_)
    intro t2 g2; cases t2
    · have g2 : ¬ ((lf x) > 0) := of_decide_eq_false g2
      refine wN_pur (v := .bool false) rfl rfl ?_
      refine wN_mov (v := .bool false) rfl ?_
      refine wN_end ?_
      exact And.intro trivial (Exists.intro _ (And.intro rfl ⟨congrArg Value.bool (show false = decide (rdF us x ≤ h ∧ 0 < lf x) from (by symm; first | (exact decide_eq_true (by omega)) | (exact decide_eq_false (by omega)))), hk⟩))
    · have g2 : (lf x) > 0 := of_decide_eq_true g2
      refine wN_pur (v := .bool true) rfl rfl ?_
      refine wN_mov (v := .bool true) rfl ?_
      refine wN_end ?_
      exact And.intro trivial (Exists.intro _ (And.intro rfl ⟨congrArg Value.bool (show true = decide (rdF us x ≤ h ∧ 0 < lf x) from (by symm; first | (exact decide_eq_true (by omega)) | (exact decide_eq_false (by omega)))), hk⟩))
/-- freeze -/
theorem freeze_ok {sa : Option Addr} {n cap bl cl x : Nat} {us : List Fz} {lf : Nat → Int} {h : Int} (hs : Sl H sa n cap (fzc us)) (hl : us.length = n) (hx : x < n) (hn : n ≤ 1000000) (cl0 : Cl H bl (nf lf n)) (hlo : lo ≤ H.next) (hlb : lo ≤ bl) (hR : 0 ≤ h ∧ h ≤ 17592186044416) (hlf : 0 ≤ lf x ∧ lf x ≤ 1099511627776) : ∃ H', FnX Try.prog kn lo 84 [.agg #[.slice sa n cap, .slice (some ⟨bl, 0, none⟩) n cl], iv (x : Int), iv h] H (iv (h - min h (lf x))) H' ∧ Keep H H' [bl] ∧ Cl H' bl (nf (upd lf x (lf x - min h (lf x))) n) := by
  have key := fnX_low (kn := kn) (lo := lo) (H := H) (args := [.agg #[.slice sa n cap, .slice (some ⟨bl, 0, none⟩) n cl], iv (x : Int), iv h]) (Q := fun w H' => w = iv (h - min h (lf x)) ∧ Keep H H' [bl] ∧ Cl H' bl (nf (upd lf x (lf x - min h (lf x))) n)) Try.func84 B84 N84 Z84 L84 (by simp) ?_
  · obtain ⟨w, H', h, rfl, q⟩ := key; exact ⟨H', h, q⟩
  have hk := Keep.refl H [bl]
  have lbl := cl0.lt
  refine wN_seq ?_
  refine wN_box (v := .agg #[.slice sa n cap, .slice (some ⟨bl, 0, none⟩) n cl]) rfl ?_
  intro H1 kH1 nH1 c1
  have c1 : Cl H1 H.next [.slice sa n cap, .slice (some ⟨bl, 0, none⟩) n cl] := c1
  have mH1 := kH1.1
  have hk := hk.trans (kH1.mono (by simp))
  have cl0 := kH1.cl cl0 (by simp)
  refine wN_mov (v := iv 0) rfl ?_
  refine wN_end ?_
  refine wN_seq ?_
  refine wN_mov (v := iv h) rfl ?_
  refine wN_addo (b := H.next) (o := 0) rfl ?_
  refine wN_ld (b := H.next) (o := 1) (v := .slice (some ⟨bl, 0, none⟩) n cl) rfl c1.rd rfl ?_
  refine wN_mov (v := iv (x : Int)) rfl ?_
  refine wN_idx (b := bl) (o := 0) (k := x) (j := (x : Int)) rfl rfl rfl (by omega) ?_
  refine wN_ld (b := bl) (o := 0 + x * 1) (v := iv (lf x)) rfl cl0.rd (nf_at (f := lf) (by omega)) ?_
  refine wN_mm (a := h) (b := (lf x)) rfl rfl ?_
  refine wN_mov (v := iv (min h (lf x))) rfl ?_
  refine wN_end ?_
  refine wN_seq ?_
  refine wN_addo (b := H.next) (o := 0) rfl ?_
  refine wN_ld (b := H.next) (o := 1) (v := .slice (some ⟨bl, 0, none⟩) n cl) rfl c1.rd rfl ?_
  refine wN_mov (v := iv (x : Int)) rfl ?_
  refine wN_idx (b := bl) (o := 0) (k := x) (j := (x : Int)) rfl rfl rfl (by omega) ?_
  refine wN_ld (b := bl) (o := 0 + x * 1) (v := iv (lf x)) rfl cl0.rd (nf_at (f := lf) (by omega)) ?_
  refine wN_mov (v := iv (min h (lf x))) rfl ?_
  refine wN_sub (a := (lf x)) (b := min h (lf x)) rfl rfl ⟨by omega, by omega⟩ ?_
  refine wN_idx (b := bl) (o := 0) (k := x) (j := (x : Int)) rfl rfl rfl (by omega) ?_
  refine wN_st (b := bl) (o := 0 + x * 1) (v := iv ((lf x) - (min h (lf x)))) rfl rfl cl0 (by omega) rfl rfl (by rw [nf_len]; omega) ?_
  intro H2 kH2 nH2 sH2
  have mH2 := kH2.1
  have hk := hk.new kH2 (fun b hb => by simp at hb ⊢; omega)
  have c1 := kH2.cl c1 (by first | (simp; done) | (simp; omega))
  have c2 := sH2
  rw [nf_set hx] at c2
  refine wN_end ?_
  refine wN_seq ?_
  refine wN_mov (v := iv h) rfl ?_
  refine wN_mov (v := iv (min h (lf x))) rfl ?_
  refine wN_sub (a := h) (b := min h (lf x)) rfl rfl ⟨by omega, by omega⟩ ?_
  refine wN_mov (v := iv (h - (min h (lf x)))) rfl ?_
  refine wN_end ?_
  exact And.intro trivial (Exists.intro _ (And.intro rfl ⟨rfl, hk, c2⟩))
set_option maxHeartbeats 2000000 in
/-- frozen -/
theorem frozen_ok {sa : Option Addr} {n cap : Nat} {us : List Fz} {R : Int} {L : Nat → Nat} (hs : Sl H sa n cap (fzc us)) (hl : us.length = n) (hn : n ≤ 16) (hL : L = srt (duF us) n) (hok : us.all Fz.ok = true) (hR : 1 ≤ R ∧ R ≤ 17592186044416) (hlo : lo ≤ H.next) : ∃ b H', FnX Try.prog kn lo 58 [.slice sa n cap, iv R] H (slv b n n) H' ∧ Keep H H' [] ∧ H.next ≤ b ∧ Cl H' b (nf (dnA L (rdF us) R (msF us) n 500) n) := by
  have key := fnX_low (kn := kn) (lo := lo) (H := H) (args := [.slice sa n cap, iv R]) (Q := fun w H' => ∃ b, w = slv b n n ∧ Keep H H' [] ∧ H.next ≤ b ∧ Cl H' b (nf (dnA L (rdF us) R (msF us) n 500) n)) Try.func58 B58 N58 Z58 L58 (by simp) ?_
  · obtain ⟨w, H', h, a, rfl, q⟩ := key; exact ⟨a, H', h, q⟩
  have hk := Keep.refl H []
  have fs := hs.old
  have hO : OO (duF us) n n L := by rw [hL]; exact srt_ok n (Nat.le_refl _)
  have hM : ∀ x, x < n → 0 ≤ msF us x ∧ msF us x ≤ 1099511627776 := fun x hx => (all_at hok (by omega)).2.2
  have hms : ∀ x, x < n → 0 ≤ msF us x := fun x hx => (hM x hx).1
  refine wN_seq ?_
  refine wN_mov (v := .slice none 0 0) rfl ?_
  refine wN_end ?_
  first | refine wN_scp ?_ | refine wN_sscp ?_
  refine wN_seq ?_
  refine wN_mov (v := .slice sa n cap) rfl ?_
  refine wN_pur (v := .agg #[.slice sa n cap, .slice none 0 0]) rfl (by kernel_rfl) ?_
  refine wN_alc ?_
  intro H1 kH1 nH1 c1
  have c1 : Cl H1 H.next [.slice none 0 0, .slice none 0 0] := c1
  have mH1 := kH1.1
  have hk := hk.trans kH1
  have hs := kH1.sl0 hs
  refine wN_sta (b := H.next) (o := 0) rfl rfl c1 (by omega) rfl rfl (by simp) ?_
  intro H2 kH2 nH2 sH2
  have mH2 := kH2.1
  have hk := hk.new kH2 (fun b hb => by simp at hb ⊢; omega)
  have hs := kH2.sl hs (fun b e => by have := fs b e; first | (simp; done) | (simp; omega))
  have c1 : Cl H2 H.next [.slice sa n cap, .slice none 0 0] := sH2
  refine wN_end ?_
  refine wN_seq ?_
  refine wN_mov (v := .slice sa n cap) rfl ?_
  refine wN_len (m := n) rfl ?_
  obtain ⟨ie, hie, hib⟩ := in3b
  obtain ⟨H3, hH3⟩ : ∃ H3, H2.new (.cells (zeros [iv 0] n) 3 false) = H3 := ⟨_, rfl⟩
  refine wN_memh (v := .slice (some ⟨H2.next, 0, none⟩) 0 n) (H' := H3) (k := .heavy) rfl (by kernel_rfl) ((heap_makeR (a := 0) (m := n) se42 z3 hie hib rfl rfl (by omega) (by omega)).trans (by rw [← hH3]; rfl)) (fun b e => by cases e) ?_
  obtain ⟨kH3, nH3, _⟩ := new_facts hH3
  have dd0 := new_sc hH3
  rw [zeros_nf] at dd0
  have mH3 := kH3.1
  have hk := hk.trans kH3
  have hs := kH3.sl0 hs
  have c1 := kH3.cl c1 (by simp)
  obtain ⟨bdd, ebdd⟩ : ∃ b, b = H2.next := ⟨_, rfl⟩
  have dd : Sc H3 bdd (nf (fun _ => 0) n) := by rw [ebdd]; exact dd0
  rw [← ebdd]
  have l0dd := dd.lt
  refine wN_mov (v := .slice (some ⟨bdd, 0, none⟩) 0 n) rfl ?_
  refine wN_end ?_
  refine wN_seq ?_
  refine wN_mov (v := .slice sa n cap) rfl ?_
  refine wN_len (m := n) rfl ?_
  refine wN_mov (v := iv 0) rfl ?_
  refine wN_end ?_
  have dd : Sc H3 bdd (nf (fun x => if x < 0 then dn0 (rdF us) (msF us) x else 0) n) := by rw [nf_congr (g := fun _ => 0) (fun k hk => if_neg (by omega))]; exact dd
  have ac0 : Acc lo H3.next 3 H3 (.slice none 0 0) 0 (nf (msF us) 0) := .inl ⟨rfl, rfl, rfl⟩
  refine loop_low (fn := Try.f58) E58_1 N58 L58x1 (fun i : Nat => [(1, iv R), (5, pt H.next), (6, .slice (some ⟨bdd, 0, none⟩) i n), (19, .slice sa n cap), (20, iv (n : Int)), (21, iv (i : Int))])
    (fun d i H' => i + d = n ∧ Keep H H' [] ∧ H3.next ≤ H'.next ∧ Sl H' sa n cap (fzc us) ∧ Sc H' bdd (nf (fun x => if x < i then dn0 (rdF us) (msF us) x else 0) n) ∧ ∃ wv, Acc lo H3.next 3 H' wv i (nf (msF us) i) ∧ Cl H' H.next [.slice sa n cap, wv]) n 0 ⟨by omega, hk, Nat.le_refl _, hs, dd, _, ac0, c1⟩ ⟨rfl, rfl, rfl, rfl, rfl, rfl, trivial⟩ ?_
  rintro d i L1 ⟨hid, hk, hnx, hs, dd, wv, hacc, c5⟩
  have kacc := Keep.refl L1 []
  have mki := hk.1
  have hbk := bkv_in hacc
  refine wN_seq ?_
  refine wN_c_lss (a := (i : Int)) (b := (n : Int)) rfl rfl ?_
  refine wN_end ?_
  refine And.intro (fun q1 => ?_) (fun q1 => ?_)
  · have q1 : (i : Int) < (n : Int) := of_decide_eq_true q1
    have hi : i < n := by omega
    obtain ⟨x, hx⟩ := get_some (l := us) (i := i) (by omega)
    rcases id hs with ⟨_, h0, _⟩ | ⟨sb, esb, hsd, _⟩
    · omega
    have lsb := fs sb esb
    obtain ⟨fx1, fx2, fx3⟩ := Fz.at hx
    first | refine wN_skip ?_ | skip
    refine wN_seq ?_
    refine wN_idx (b := sb) (o := 0) (k := i) (j := (i : Int)) (by rw [← esb]; rfl) rfl rfl hi ?_
    refine wN_lda (b := sb) (o := 0 + i * 3) rfl hsd (fzc_row hx) ?_
    refine wN_alc ?_
    intro H4 kH4 nH4 c4
    have c4 : Cl H4 L1.next [iv 0, iv 0, iv 0] := c4
    have mH4 := kH4.1
    have hk := hk.trans kH4
    have hs := kH4.sl0 hs
    have kacc := kacc.trans kH4
    have dd := kH4.sc dd (by simp)
    have c5 := kH4.cl c5 (by simp)
    have hsd := kH4.rd hsd (by simp)
    refine wN_sta (b := L1.next) (o := 0) rfl rfl c4 (by omega) rfl rfl (by simp) ?_
    intro H5 kH5 nH5 sH5
    have mH5 := kH5.1
    have hk := hk.new kH5 (fun b hb => by simp at hb ⊢; omega)
    have hs := kH5.sl hs (fun b e => by have := fs b e; first | (simp; done) | (simp; omega))
    have kacc := kacc.new kH5 (fun b hb => by simp at hb ⊢; omega)
    have dd := kH5.sc dd (by first | (simp; done) | (simp; omega))
    have c5 := kH5.cl c5 (by first | (simp; done) | (simp; omega))
    have hsd := kH5.rd hsd (by first | (simp; done) | (simp; omega))
    have c4 : Cl H5 L1.next [iv x.rd, iv x.du, iv x.ms] := sH5
    refine wN_end ?_
    refine wN_seq ?_
    refine wN_addo (b := H.next) (o := 0) rfl ?_
    refine wN_ld (b := H.next) (o := 1) (v := wv) rfl c5.rd rfl ?_
    refine wN_addo (b := L1.next) (o := 0) rfl ?_
    refine wN_ld (b := L1.next) (o := 2) (v := iv x.ms) rfl c4.rd rfl ?_
    obtain ⟨H6, hH6⟩ : ∃ H6, H5.new (.cells [iv x.ms] 3 false) = H6 := ⟨_, rfl⟩
    refine wN_memh (H' := H6) (k := .heavy) rfl (by kernel_rfl) ((heap_build1 (v := iv x.ms) se42 z3 rfl rfl rfl (by decide)).trans (by rw [← hH6]; rfl)) (fun b e => by cases e) ?_
    obtain ⟨kH6, nH6, c6⟩ := new_facts hH6; clear hH6
    have c6 : Cl H6 H5.next [iv x.ms] := c6
    have mH6 := kH6.1
    have hk := hk.trans kH6
    have hs := kH6.sl0 hs
    have kacc := kacc.trans kH6
    have dd := kH6.sc dd (by simp)
    have c5 := kH6.cl c5 (by simp)
    have hsd := kH6.rd hsd (by simp)
    have c4 := kH6.cl c4 (by simp)
    obtain ⟨H7, kdH7, eH7, dH7, hacc2, kbH7⟩ := heap_append_out (P := Try.prog) (lo := lo) (k := i) (t1 := 42) se42 u42 (c6.sl (Nat.le_refl 1)) rfl (by decide) rfl (by rw [nf_len]; omega) (by omega) (hacc.keep kacc) (by omega) (by omega)
    refine wN_memh (k := kdH7) rfl (by cases wv <;> kernel_rfl) (eH7 _ _ _ _ _ _ _ rfl rfl) (reg_ok dH7 _) ?_
    rw [← fx3, ← nf_succ] at hacc2
    have hk := hk.new kbH7 (fun b hb => .inr (by have := hbk _ hb; omega))
    have hs := kbH7.sl hs (fun b e hx => by have := fs b e; have := hbk _ hx; omega)
    have dd := kbH7.sc dd (fun hx => by have := hbk _ hx; omega)
    have c5 := kbH7.cl c5 (fun hx => by have := hbk _ hx; omega)
    have hsd := kbH7.rd hsd (fun hx => by have := hbk _ hx; omega)
    have c4 := kbH7.cl c4 (fun hx => by have := hbk _ hx; omega)
    have mH7 := kbH7.1
    refine wN_addo (b := H.next) (o := 0) rfl ?_
    refine wN_st (b := H.next) (o := 1) rfl rfl c5 (by omega) rfl rfl (by simp) ?_
    intro H8 kH8 nH8 sH8
    have mH8 := kH8.1
    have hk := hk.new kH8 (fun b hb => by simp at hb ⊢; omega)
    have hs := kH8.sl hs (fun b e => by have := fs b e; first | (simp; done) | (simp; omega))
    have dd := kH8.sc dd (by first | (simp; done) | (simp; omega))
    have hsd := kH8.rd hsd (by first | (simp; done) | (simp; omega))
    have c4 := kH8.cl c4 (by first | (simp; done) | (simp; omega))
    have hacc2 := hacc2.keepW kH8 (by omega)
    have c5 : Cl H8 H.next [.slice sa n cap, .slice (some ⟨H6.next, 0, none⟩) (i + 1) (i + 1)] := sH8
    refine wN_end ?_
    first | refine wN_reg ?_ | refine wN_blk ?_ | refine wN_bseq ?_ | (refine wOps_nil ?_; refine wN_reg ?_)
    refine wN_mov (v := .slice (some ⟨bdd, 0, none⟩) i n) rfl ?_
    refine wN_lda (b := L1.next) (o := 0) rfl c4.rd (show row 3 _ _ = some [iv x.rd, iv x.du, iv x.ms] from rfl) ?_
    obtain ⟨H9, fH9, kH9⟩ := first81_ok (kn := kn) (lo := lo) (H := H8) (x := x) (by omega)
    refine wN_callf (vs := [.agg (Fz.f x).toArray]) rfl (callX_args fH9) ?_
    have mH9 := kH9.1
    have hk := hk.trans kH9
    have hs := kH9.sl0 hs
    have dd := kH9.sc dd (by simp)
    have hsd := kH9.rd hsd (by simp)
    have c4 := kH9.cl c4 (by simp)
    have hacc2 := hacc2.keep kH9
    have c5 := kH9.cl c5 (by simp)
    obtain ⟨H10, hH10⟩ : ∃ H10, H9.new (.cells [iv (if x.ms = 0 then x.rd else 501)] 3 false) = H10 := ⟨_, rfl⟩
    refine wN_memh (H' := H10) (k := .heavy) rfl (by kernel_rfl) ((heap_build1 (v := iv (if x.ms = 0 then x.rd else 501)) se42 z3 rfl rfl rfl (by decide)).trans (by rw [← hH10]; rfl)) (fun b e => by cases e) ?_
    obtain ⟨kH10, nH10, c10⟩ := new_facts hH10; clear hH10
    have c10 : Cl H10 H9.next [iv (if x.ms = 0 then x.rd else 501)] := c10
    have mH10 := kH10.1
    have hk := hk.trans kH10
    have hs := kH10.sl0 hs
    have dd := kH10.sc dd (by simp)
    have hsd := kH10.rd hsd (by simp)
    have c4 := kH10.cl c4 (by simp)
    have hacc2 := hacc2.keep kH10
    have c5 := kH10.cl c5 (by simp)
    obtain ⟨H11, eH11, kH11, nH11, aH11⟩ := heap_append_room (P := Try.prog) (lo := lo) (k := i) (cap := n) (t1 := 42) se42 u42 (c10.sl (Nat.le_refl 1)) rfl rfl dd hi (by omega) (by rw [nf_len]; omega) (by omega)
    refine wN_memh (k := .store bdd) rfl (by kernel_rfl) (eH11 _ _ _ _ _ _ _ rfl rfl) (fun b e => by cases e) ?_
    have mH11 := kH11.1
    have hk := hk.new kH11 (fun b hb => by simp at hb ⊢; omega)
    have hs := kH11.sl hs (fun b e => by have := fs b e; first | (simp; done) | (simp; omega))
    have hsd := kH11.rd hsd (by first | (simp; done) | (simp; omega))
    have c4 := kH11.cl c4 (by first | (simp; done) | (simp; omega))
    have hacc2 := hacc2.keepW kH11 (by omega)
    have c5 := kH11.cl c5 (by first | (simp; done) | (simp; omega))
    have c10 := kH11.cl c10 (by first | (simp; done) | (simp; omega))
    have dd : Sc H11 bdd ((nf (fun x => if x < i then dn0 (rdF us) (msF us) x else 0) n).set (0 + i * 1) (iv (if x.ms = 0 then x.rd else 501))) := aH11
    rw [nf_set hi] at dd
    have dd : Sc H11 bdd (nf (fun x => if x < i + 1 then dn0 (rdF us) (msF us) x else 0) n) := by
      rw [nf_congr (g := upd (fun x => if x < i then dn0 (rdF us) (msF us) x else 0) i (if x.ms = 0 then x.rd else 501)) (fun k hk => by
        show (if k < i + 1 then dn0 (rdF us) (msF us) k else 0) = (if k = i then (if x.ms = 0 then x.rd else 501) else (if k < i then dn0 (rdF us) (msF us) k else 0))
        by_cases e : k = i
        · subst e; rw [if_pos (by omega), if_pos rfl]; unfold dn0; rw [fx2, fx3]
        · rw [if_neg e]; by_cases q : k < i
          · rw [if_pos (by omega), if_pos q]
          · rw [if_neg (by omega), if_neg q])]
      exact dd
    refine wN_mov (v := .slice (some ⟨bdd, 0, none⟩) (i + 1) n) rfl ?_
    refine wN_end ?_
    first | refine wN_reg ?_ | refine wN_blk ?_ | refine wN_bseq ?_ | (refine wOps_nil ?_; refine wN_reg ?_)
    refine wN_add (a := (i : Int)) (b := 1) rfl rfl ⟨by omega, by omega⟩ ?_
    refine wN_mov (v := iv ((i : Int) + 1)) rfl ?_
    refine wN_end ?_
    exact ⟨d - 1, i + 1, by omega, ⟨by omega, hk, by omega, hs, dd, _, hacc2, c5⟩, rfl, rfl, rfl, rfl, rfl, rfl, trivial⟩
  · have q1 : ¬ ((i : Int) < (n : Int)) := of_decide_eq_false q1
    have e : n = i := by omega
    subst e
    have dd : Cl L1 bdd (nf (dnA L (rdF us) R (msF us) n 0) n) := by show Cl L1 bdd (nf (dn0 (rdF us) (msF us)) n); rw [nf_congr (g := fun x => if x < n then dn0 (rdF us) (msF us) x else 0) (fun k hk => (if_pos hk).symm)]; exact dd.cl
    obtain ⟨bl, hwv, hcl, hbl⟩ : ∃ bl, (0 < n → wv = .slice (some ⟨bl, 0, none⟩) n n) ∧ (0 < n → Cl L1 bl (nf (lfA L (rdF us) R (msF us) n 0) n)) ∧ (0 < n → H3.next ≤ bl ∧ lo ≤ bl ∧ bl < L1.next) := by
      rcases hacc with ⟨q, _, _⟩ | ⟨b, q1, q2, q3, q4, q5, q6⟩
      · exact ⟨0, fun z => absurd z (by omega), fun z => absurd z (by omega), fun z => absurd z (by omega)⟩
      · exact ⟨b, fun _ => q1, fun _ => ⟨q5, _, _, q6⟩, fun _ => ⟨q3, q4, q5⟩⟩
    first | (refine wN_exit ?_; show wC _ _ _ _ _ _ _ _ _) | skip
    refine wN_seq ?_
    refine wN_lda (b := H.next) (o := 0) rfl c5.rd (show row 2 _ _ = some [.slice sa n cap, wv] from rfl) ?_
    obtain ⟨bo, H12, fH12, kH12, lbo, co⟩ := order_ok (kn := kn) (lo := lo) (H := L1) (lv := wv) hs hl hn (by omega)
    refine wN_callf (vs := [.agg #[.slice sa n cap, wv]]) rfl (callX_args fH12) ?_
    have mH12 := kH12.1
    have hk := hk.trans kH12
    have hs := kH12.sl0 hs
    have dd := kH12.cl dd (by simp)
    have c5 := kH12.cl c5 (by simp)
    have hcl := fun z => kH12.cl (hcl z) (by simp)
    rw [← hL] at co
    have lco := co.lt
    refine wN_mov (v := .slice (some ⟨bo, 0, none⟩) n n) rfl ?_
    refine wN_end ?_
    first | refine wN_skip ?_ | skip
    refine wN_seq ?_
    refine wN_mov (v := iv 0) rfl ?_
    refine wN_end ?_
    refine loop_low (fn := Try.f58) E58_2 N58 L58x2 (fun t : Nat => [(1, iv R), (5, pt H.next), (6, .slice (some ⟨bdd, 0, none⟩) n n), (9, .slice (some ⟨bo, 0, none⟩) n n), (40, iv (t : Int))])
      (fun d t H' => t + d = 500 ∧ Keep H H' [] ∧ H12.next ≤ H'.next ∧ Sl H' sa n cap (fzc us) ∧ Cl H' bdd (nf (dnA L (rdF us) R (msF us) n t) n) ∧ (0 < n → Cl H' bl (nf (lfA L (rdF us) R (msF us) n t) n)) ∧ Cl H' bo (nf (fun p => (L p : Int)) n) ∧ Cl H' H.next [.slice sa n cap, wv]) 500 0 ⟨by omega, hk, Nat.le_refl _, hs, dd, hcl, co, c5⟩ ⟨rfl, rfl, rfl, rfl, rfl, trivial⟩ ?_
    rintro d t L2 ⟨htd, hk, hnx2, hs, dd, hcl, co, c5⟩
    have mki := hk.1
    refine wN_seq ?_
    refine wN_c_lss (a := (t : Int)) (b := 500) rfl rfl ?_
    refine wN_end ?_
    refine And.intro (fun q2 => ?_) (fun q2 => ?_)
    · have q2 : (t : Int) < 500 := of_decide_eq_true q2
      first | refine wN_skip ?_ | skip
      refine wN_seq ?_
      refine wN_mov (v := iv (t : Int)) rfl ?_
      refine wN_mov (v := iv (t : Int)) rfl ?_
      refine wN_end ?_
      refine wN_seq ?_
      refine wN_mov (v := iv R) rfl ?_
      refine wN_mov (v := iv R) rfl ?_
      refine wN_end ?_
      refine wN_seq ?_
      refine wN_mov (v := .slice (some ⟨bo, 0, none⟩) n n) rfl ?_
      refine wN_len (m := n) rfl ?_
      refine wN_mov (v := iv 0) rfl ?_
      refine wN_end ?_
      refine loop_low (fn := Try.f58) E58_3 N58 L58x3 (fun k : Nat => [(1, iv R), (5, pt H.next), (6, .slice (some ⟨bdd, 0, none⟩) n n), (9, .slice (some ⟨bo, 0, none⟩) n n), (10, iv (t : Int)), (11, iv ((hst L (rdF us) (t : Int) R (lfA L (rdF us) R (msF us) n t) k).2)), (40, iv (t : Int)), (44, .slice (some ⟨bo, 0, none⟩) n n), (45, iv (n : Int)), (46, iv (k : Int))])
        (fun e k H' => k + e = n ∧ Keep H H' [] ∧ L2.next ≤ H'.next ∧ Sl H' sa n cap (fzc us) ∧ Cl H' bdd (nf (dst L (rdF us) (t : Int) R (lfA L (rdF us) R (msF us) n t) (dnA L (rdF us) R (msF us) n t) k) n) ∧ (0 < n → Cl H' bl (nf (hst L (rdF us) (t : Int) R (lfA L (rdF us) R (msF us) n t) k).1 n)) ∧ Cl H' bo (nf (fun p => (L p : Int)) n) ∧ Cl H' H.next [.slice sa n cap, wv]) n 0 ⟨by omega, hk, Nat.le_refl _, hs, dd, hcl, co, c5⟩ ⟨rfl, rfl, rfl, rfl, rfl, rfl, rfl, rfl, rfl, rfl, trivial⟩ ?_
      rintro e k L3 ⟨hke, hk, hnx3, hs, dd, hcl, co, c5⟩
      have mkj := hk.1
      obtain ⟨hin, hr0, hrR⟩ := hst_in (rd := rdF us) (R := R) (t := t) hO hms (by omega) (show k ≤ n by omega)
      refine wN_seq ?_
      refine wN_c_lss (a := (k : Int)) (b := (n : Int)) rfl rfl ?_
      refine wN_end ?_
      refine And.intro (fun q3 => ?_) (fun q3 => ?_)
      · have q3 : (k : Int) < (n : Int) := of_decide_eq_true q3
        have hkn : k < n := by omega
        have h0 : 0 < n := by omega
        have hLk := hO.lt k hkn
        have hlb := hbl h0
        have hp1 := hin k hkn
        have hms2 := (hM (L k) hLk)
        first | refine wN_skip ?_ | skip
        refine wN_seq ?_
        refine wN_idx (b := bo) (o := 0) (k := k) (j := (k : Int)) rfl rfl rfl hkn ?_
        refine wN_ld (b := bo) (o := 0 + k * 1) (v := iv (L k : Int)) rfl co.rd (nf_at (f := fun p => (L p : Int)) (by omega)) ?_
        refine wN_mov (v := iv (L k : Int)) rfl ?_
        refine wN_end ?_
        refine wN_seq ?_
        refine wN_mov (v := iv ((hst L (rdF us) (t : Int) R (lfA L (rdF us) R (msF us) n t) k).2)) rfl ?_
        refine wN_c_eql (a := ((hst L (rdF us) (t : Int) R (lfA L (rdF us) R (msF us) n t) k).2)) (b := 0) rfl rfl ?_
        refine wN_end ?_
        refine And.intro (fun q4 => ?_) (fun q4 => ?_)
        · have q4 : ((hst L (rdF us) (t : Int) R (lfA L (rdF us) R (msF us) n t) k).2) = 0 := by simpa using q4
          obtain ⟨hq1, hq2⟩ := hour_stop (rd := rdF us) (R := R) (t := t) hO hms (by omega) (show k ≤ n by omega) (by omega)
          have dd2 : Cl L3 bdd (nf (dnA L (rdF us) R (msF us) n (t + 1)) n) := by
            have q : (dnA L (rdF us) R (msF us) n (t + 1)) = (dst L (rdF us) (t : Int) R (lfA L (rdF us) R (msF us) n t) (dnA L (rdF us) R (msF us) n t) k) := hq2 _
            rw [q]; exact dd
          have hcl2 : 0 < n → Cl L3 bl (nf (lfA L (rdF us) R (msF us) n (t + 1)) n) := fun z => by rw [hq1]; exact hcl z
          first | (refine wN_exit ?_; show wC _ _ _ _ _ _ _ _ _) | skip
          first | refine wN_reg ?_ | refine wN_blk ?_ | refine wN_bseq ?_ | (refine wOps_nil ?_; refine wN_reg ?_)
          refine wN_add (a := (t : Int)) (b := 1) rfl rfl ⟨by omega, by omega⟩ ?_
          refine wN_mov (v := iv ((t : Int) + 1)) rfl ?_
          refine wN_end ?_
          exact ⟨d - 1, t + 1, by omega, ⟨by omega, hk, by omega, hs, dd2, hcl2, co, c5⟩, rfl, rfl, rfl, rfl, rfl, trivial⟩
        · have q4 : ¬ (((hst L (rdF us) (t : Int) R (lfA L (rdF us) R (msF us) n t) k).2) = 0) := by simpa using q4
          first | refine wN_skip ?_ | skip
          refine wN_seq ?_
          refine wN_lda (b := H.next) (o := 0) rfl c5.rd (show row 2 _ _ = some [.slice sa n cap, wv] from rfl) ?_
          refine wN_mov (v := iv (L k : Int)) rfl ?_
          refine wN_mov (v := iv (t : Int)) rfl ?_
          obtain ⟨H13, fH13, kH13⟩ := waiting_ok (kn := kn) (lo := lo) (H := L3) (x := L k) (h := (t : Int)) (cl := n) hs hl hLk (by omega) (hcl h0) (by omega)
          rw [← hwv h0] at fH13
          have mH13 := kH13.1
          have hk := hk.trans kH13
          have hs := kH13.sl0 hs
          have dd := kH13.cl dd (by simp)
          have hcl := fun z => kH13.cl (hcl z) (by simp)
          have co := kH13.cl co (by simp)
          have c5 := kH13.cl c5 (by simp)
          cases hw : decide (rdF us (L k) ≤ (t : Int) ∧ 0 < (hst L (rdF us) (t : Int) R (lfA L (rdF us) R (msF us) n t) k).1 (L k))
          · rw [hw] at fH13
            refine wN_callf (vs := [.agg #[.slice sa n cap, wv], iv (L k : Int), iv (t : Int)]) rfl (callX_args fH13) ?_
            have hw := of_decide_eq_false hw
            have hroom : (hst L (rdF us) (t : Int) R (lfA L (rdF us) R (msF us) n t) (k + 1)).2 = (hst L (rdF us) (t : Int) R (lfA L (rdF us) R (msF us) n t) k).2 := by rw [hst_idle hw hp1.1 hr0]
            have dd3 : Cl H13 bdd (nf (dst L (rdF us) (t : Int) R (lfA L (rdF us) R (msF us) n t) (dnA L (rdF us) R (msF us) n t) (k + 1)) n) := by rw [dst_idle hw hp1.1 hr0]; exact dd
            have hcl3 : 0 < n → Cl H13 bl (nf (hst L (rdF us) (t : Int) R (lfA L (rdF us) R (msF us) n t) (k + 1)).1 n) := fun z => by rw [hst_idle hw hp1.1 hr0]; exact hcl z
            refine wN_pur (v := .bool true) rfl rfl ?_
            refine wN_end ?_
            refine condT ?_
            first | (refine wN_exit ?_; show wC _ _ _ _ _ _ _ _ _) | skip
            first | refine wN_reg ?_ | refine wN_blk ?_ | refine wN_bseq ?_ | (refine wOps_nil ?_; refine wN_reg ?_)
            refine wN_add (a := (k : Int)) (b := 1) rfl rfl ⟨by omega, by omega⟩ ?_
            refine wN_mov (v := iv ((k : Int) + 1)) rfl ?_
            refine wN_end ?_
            exact ⟨e - 1, k + 1, by omega, ⟨by omega, hk, by omega, hs, dd3, hcl3, co, c5⟩, rfl, rfl, rfl, rfl, rfl, by rw [hroom]; rfl, rfl, rfl, rfl, rfl, trivial⟩
          · rw [hw] at fH13
            refine wN_callf (vs := [.agg #[.slice sa n cap, wv], iv (L k : Int), iv (t : Int)]) rfl (callX_args fH13) ?_
            have hw := of_decide_eq_true hw
            have hws := hst_wait (L := L) (left := (lfA L (rdF us) R (msF us) n t)) (R := R) (k := k) hw.1
            refine wN_pur (v := .bool false) rfl rfl ?_
            refine wN_end ?_
            refine condF ?_
            first | refine wN_skip ?_ | skip
            refine wN_seq ?_
            refine wN_lda (b := H.next) (o := 0) rfl c5.rd (show row 2 _ _ = some [.slice sa n cap, wv] from rfl) ?_
            refine wN_mov (v := iv (L k : Int)) rfl ?_
            refine wN_mov (v := iv ((hst L (rdF us) (t : Int) R (lfA L (rdF us) R (msF us) n t) k).2)) rfl ?_
            obtain ⟨H14, fH14, kH14, cH14⟩ := freeze_ok (kn := kn) (lo := lo) (H := H13) (x := L k) (h := (hst L (rdF us) (t : Int) R (lfA L (rdF us) R (msF us) n t) k).2) (cl := n) hs hl hLk (by omega) (hcl h0) (by omega) hlb.2.1 ⟨hr0, by omega⟩ ⟨hp1.1, by omega⟩
            rw [← hwv h0] at fH14
            refine wN_callf (vs := [.agg #[.slice sa n cap, wv], iv (L k : Int), iv (hst L (rdF us) (t : Int) R (lfA L (rdF us) R (msF us) n t) k).2]) rfl (callX_args fH14) ?_
            have mH14 := kH14.1
            have hk := hk.new kH14 (fun b hb => by simp at hb ⊢; omega)
            have hs := kH14.sl hs (fun b e => by have := fs b e; first | (simp; done) | (simp; omega))
            have dd := kH14.cl dd (by first | (simp; done) | (simp; omega))
            have co := kH14.cl co (by first | (simp; done) | (simp; omega))
            have c5 := kH14.cl c5 (by first | (simp; done) | (simp; omega))
            have hroom : (hst L (rdF us) (t : Int) R (lfA L (rdF us) R (msF us) n t) (k + 1)).2 = (hst L (rdF us) (t : Int) R (lfA L (rdF us) R (msF us) n t) k).2 - min (hst L (rdF us) (t : Int) R (lfA L (rdF us) R (msF us) n t) k).2 ((hst L (rdF us) (t : Int) R (lfA L (rdF us) R (msF us) n t) k).1 (L k)) := by rw [hws]
            have cl3 : Cl H14 bl (nf (hst L (rdF us) (t : Int) R (lfA L (rdF us) R (msF us) n t) (k + 1)).1 n) := by rw [hws]; exact cH14
            rw [hwv h0] at c5
            refine wN_mov (v := iv ((hst L (rdF us) (t : Int) R (lfA L (rdF us) R (msF us) n t) k).2 - min (hst L (rdF us) (t : Int) R (lfA L (rdF us) R (msF us) n t) k).2 ((hst L (rdF us) (t : Int) R (lfA L (rdF us) R (msF us) n t) k).1 (L k)))) rfl ?_
            refine wN_end ?_
            refine wN_seq ?_
            refine wN_addo (b := H.next) (o := 0) rfl ?_
            refine wN_ld (b := H.next) (o := 1) (v := .slice (some ⟨bl, 0, none⟩) n n) rfl c5.rd rfl ?_
            refine wN_mov (v := iv (L k : Int)) rfl ?_
            refine wN_idx (b := bl) (o := 0) (k := L k) (j := (L k : Int)) rfl rfl rfl hLk ?_
            refine wN_ld (b := bl) (o := 0 + (L k) * 1) (v := iv ((hst L (rdF us) (t : Int) R (lfA L (rdF us) R (msF us) n t) (k + 1)).1 (L k))) rfl cl3.rd (nf_at (f := (hst L (rdF us) (t : Int) R (lfA L (rdF us) R (msF us) n t) (k + 1)).1) hLk) ?_
            refine wN_c_eql (a := ((hst L (rdF us) (t : Int) R (lfA L (rdF us) R (msF us) n t) (k + 1)).1 (L k))) (b := 0) rfl rfl ?_
            refine wN_end ?_
            refine And.intro (fun q5 => ?_) (fun q5 => ?_)
            · have q5 : ((hst L (rdF us) (t : Int) R (lfA L (rdF us) R (msF us) n t) (k + 1)).1 (L k)) = 0 := by simpa using q5
              first | refine wN_reg ?_ | refine wN_blk ?_ | refine wN_bseq ?_ | (refine wOps_nil ?_; refine wN_reg ?_)
              refine wN_mov (v := .slice (some ⟨bdd, 0, none⟩) n n) rfl ?_
              refine wN_mov (v := iv (L k : Int)) rfl ?_
              refine wN_mov (v := iv (t : Int)) rfl ?_
              refine wN_add (a := (t : Int)) (b := 1) rfl rfl ⟨by omega, by omega⟩ ?_
              refine wN_idx (b := bdd) (o := 0) (k := L k) (j := (L k : Int)) rfl rfl rfl hLk ?_
              refine wN_st (b := bdd) (o := 0 + L k * 1) (v := iv ((t : Int) + 1)) rfl rfl dd (by omega) rfl rfl (by rw [nf_len]; omega) ?_
              intro H15 kH15 nH15 sH15
              have mH15 := kH15.1
              have hk := hk.new kH15 (fun b hb => by simp at hb ⊢; omega)
              have hs := kH15.sl hs (fun b e => by have := fs b e; first | (simp; done) | (simp; omega))
              have co := kH15.cl co (by first | (simp; done) | (simp; omega))
              have c5 := kH15.cl c5 (by first | (simp; done) | (simp; omega))
              have cl3 := kH15.cl cl3 (by first | (simp; done) | (simp; omega))
              have dd3 : Cl H15 bdd (nf (dst L (rdF us) (t : Int) R (lfA L (rdF us) R (msF us) n t) (dnA L (rdF us) R (msF us) n t) (k + 1)) n) := by
                have q := sH15; rw [nf_set hLk] at q; rw [dst_go hw.2 (by omega)]; exact q
              have hcl3 : 0 < n → Cl H15 bl (nf (hst L (rdF us) (t : Int) R (lfA L (rdF us) R (msF us) n t) (k + 1)).1 n) := fun _ => cl3
              have c5 : Cl H15 H.next [.slice sa n cap, wv] := by rw [hwv h0]; exact c5
              refine wN_end ?_
              first | refine wN_reg ?_ | refine wN_blk ?_ | refine wN_bseq ?_ | (refine wOps_nil ?_; refine wN_reg ?_)
              refine wN_add (a := (k : Int)) (b := 1) rfl rfl ⟨by omega, by omega⟩ ?_
              refine wN_mov (v := iv ((k : Int) + 1)) rfl ?_
              refine wN_end ?_
              exact ⟨e - 1, k + 1, by omega, ⟨by omega, hk, by omega, hs, dd3, hcl3, co, c5⟩, rfl, rfl, rfl, rfl, rfl, by rw [hroom]; rfl, rfl, rfl, rfl, rfl, trivial⟩
            · have q5 : ¬ (((hst L (rdF us) (t : Int) R (lfA L (rdF us) R (msF us) n t) (k + 1)).1 (L k)) = 0) := by simpa using q5
              have dd3 : Cl H14 bdd (nf (dst L (rdF us) (t : Int) R (lfA L (rdF us) R (msF us) n t) (dnA L (rdF us) R (msF us) n t) (k + 1)) n) := by rw [dst_no (by omega)]; exact dd
              have hcl3 : 0 < n → Cl H14 bl (nf (hst L (rdF us) (t : Int) R (lfA L (rdF us) R (msF us) n t) (k + 1)).1 n) := fun _ => cl3
              have c5 : Cl H14 H.next [.slice sa n cap, wv] := by rw [hwv h0]; exact c5
              first | refine wN_skip ?_ | skip
              first | refine wN_reg ?_ | refine wN_blk ?_ | refine wN_bseq ?_ | (refine wOps_nil ?_; refine wN_reg ?_)
              refine wN_add (a := (k : Int)) (b := 1) rfl rfl ⟨by omega, by omega⟩ ?_
              refine wN_mov (v := iv ((k : Int) + 1)) rfl ?_
              refine wN_end ?_
              exact ⟨e - 1, k + 1, by omega, ⟨by omega, hk, by omega, hs, dd3, hcl3, co, c5⟩, rfl, rfl, rfl, rfl, rfl, by rw [hroom]; rfl, rfl, rfl, rfl, rfl, trivial⟩
      · have q3 : ¬ ((k : Int) < (n : Int)) := of_decide_eq_false q3
        have ek : k = n := by omega
        have dd2 : Cl L3 bdd (nf (dnA L (rdF us) R (msF us) n (t + 1)) n) := by rw [ek] at dd; exact dd
        have hcl2 : 0 < n → Cl L3 bl (nf (lfA L (rdF us) R (msF us) n (t + 1)) n) := fun z => by have q := hcl z; rw [ek] at q; exact q
        first | (refine wN_exit ?_; show wC _ _ _ _ _ _ _ _ _) | skip
        first | refine wN_reg ?_ | refine wN_blk ?_ | refine wN_bseq ?_ | (refine wOps_nil ?_; refine wN_reg ?_)
        refine wN_add (a := (t : Int)) (b := 1) rfl rfl ⟨by omega, by omega⟩ ?_
        refine wN_mov (v := iv ((t : Int) + 1)) rfl ?_
        refine wN_end ?_
        exact ⟨d - 1, t + 1, by omega, ⟨by omega, hk, by omega, hs, dd2, hcl2, co, c5⟩, rfl, rfl, rfl, rfl, rfl, trivial⟩
    · have q2 : ¬ ((t : Int) < 500) := of_decide_eq_false q2
      first | (refine wN_exit ?_; show wC _ _ _ _ _ _ _ _ _) | skip
      refine wN_seq ?_
      refine wN_mov (v := .slice (some ⟨bdd, 0, none⟩) n n) rfl ?_
      refine wN_mov (v := .slice (some ⟨bdd, 0, none⟩) n n) rfl ?_
      refine wN_end ?_
      have et : t = 500 := by omega
      subst et
      exact And.intro trivial (Exists.intro _ (And.intro rfl ⟨_, rfl, hk, by omega, dd⟩))
end
end Go.Ax

/-
 Plant: Blend; the document's Tanks, Recipe, Right (written by program).
-/
namespace Go.Ax
open Go Go.RowKit Go.Proofs

def blE (us : List Tn) (r : Rc) : Int := if us.length > 5 then 3 else if (us.all Tn.ok && r.ok) = true then (if (bestB us r).isSome = true then 0 else 4) else 1
def blB (us : List Tn) (r : Rc) : Bl := (bestB us r).getD bz
def blN (us : List Tn) (r : Rc) : Nat := if blE us r = 0 then us.length else 0
def blC (us : List Tn) (r : Rc) : Int := if blE us r = 0 then cosB us (blB us r) else 0
theorem in3s : ∃ i, Try.prog.info? 3 = some i ∧ i.size = 1 := by
 have h : (Try.prog.info? 3).map (fun i => Nat.beq i.size 1) = some true := by kernel_rfl
 cases e : Try.prog.info? 3 with
 | none => rw [e] at h; cases h
 | some i => rw [e] at h; exact ⟨i, rfl, by simpa using h⟩
theorem u89 : Try.prog.underlying 89 = some (.array 5 3) := by kernel_rfl
theorem bc_take {b : Bl} {n : Nat} (h : n ≤ 5) : (bc b).take n = nf b n := by
 match n, h with
 | 0, _ => rfl
 | 1, _ => rfl
 | 2, _ => rfl
 | 3, _ => rfl
 | 4, _ => rfl
 | 5, _ => rfl
 | n + 6, h => exact absurd h (by omega)
theorem wN_boxS {P : Program} {kn : FuncId → Option Bool} {lo n : Nat} {r : List RO} {S : Rg} {H : Hp} {K : Rg → Hp → Prop} {d : Option Nat} {x : Operand} {e : TypeId} {v : Value} (hx : evS S x = some v) (h : ∀ H1, Keep H H1 [] → H1.next = H.next + 1 → Sc H1 H.next v.cells.toList → wOps P kn lo n r (putS S d (.pointer (some ⟨H.next, 0, none⟩))) H1 K) : wOps P kn lo n (⟨d, none, .box e x⟩ :: r) S H K := by
 simp only [wOps, wRO, wRI, hx]
 intro H1 hH1
 obtain ⟨k1, n1, _⟩ := new_facts hH1
 exact h H1 k1 n1 (new_sc hH1)
theorem heap_arr5 {lo n : Nat} {S : Rg} {H : Hp} {d : Option Tmp} {ty : TypeId} {x y : Operand} {p : String} {b k : Nat} {c : Bl} (h0 : Sc H b (bc c)) (hk : k ≤ 5) (hx : evS S x = some (pt b)) (hy : evS S y = some (iv (k : Int))) :
  heapOp Try.prog lo (frS n S) H ⟨d, .slice 89 x none (some y) none, ty, p, #[], none⟩ = some (.val (.slice (some ⟨b, 0, none⟩) k 5) H, .read b) := by
 obtain ⟨i, hi, hs⟩ := in3s
 obtain ⟨_, e, h2⟩ := h0
 have b0 : boundOf (frS n S) 5 (some y) = some k := by unfold boundOf; simp only [ev_frS, hy]
 have b1 : boundOf (frS n S) 0 none = some 0 := rfl
 unfold heapOp
 simp only [ev_frS, hx, u89, hi, b0, b1, h2, hs, add_none, Nat.mul_one, Nat.add_zero, Nat.ble_eq_true_of_le hk, Nat.ble_eq_true_of_le (Nat.zero_le k), Bool.and_self, cond_true]
 rfl
theorem heap_app5 {lo n : Nat} {S : Rg} {H : Hp} {d : Option Tmp} {ty : TypeId} {x y : Operand} {p : String} {b k : Nat} {c : Bl} (h0 : Cl H b (bc c)) (hk0 : 0 < k) (hk : k ≤ 5) (hx : evS S x = some (.slice none 0 0)) (hy : evS S y = some (.slice (some ⟨b, 0, none⟩) k 5)) :
  heapOp Try.prog lo (frS n S) H ⟨d, .call ⟨.builtin .append, #[x, y], #[42, 42]⟩, ty, p, #[], none⟩ = some (.val (.slice (some ⟨H.next, 0, none⟩) k k) (H.new (.cells (nf c k) 3 true)), .heavy) := by
 have hm : row (k * 1) (bc c) 0 = some (nf c k) := by
  rw [← bc_take hk]
  unfold row
  simp only [List.drop_zero, Nat.mul_one, beq_eq, List.length_take, List.length_cons, List.length_nil, Nat.zero_add, Nat.reduceAdd, Nat.min_eq_left hk, decide_true, cond_true]
 have hsr : srcCells H 1 (.slice (some ⟨b, 0, none⟩) k 5) = some (k, nf c k) := by simp only [srcCells, h0.rd.of, hm]
 have h1 : Nat.beq k 0 = false := by rw [beq_eq]; simp; omega
 unfold heapOp
 simp only [evs, ev_frS, hx, hy, builtinV, List.getElem?_toArray, List.getElem?_cons_zero, List.getElem?_cons_succ, se42, u42, hsr, appendV, h1, Nat.ble_eq_true_of_le (show k ≤ 1048576 by omega), Nat.beq_refl, Bool.and_true, cond_true, cond_false]
 rfl
theorem heap_app0 {lo n : Nat} {S : Rg} {H : Hp} {d : Option Tmp} {ty : TypeId} {x y : Operand} {p : String} {b : Nat} {c : Bl} (h0 : Cl H b (bc c)) (hx : evS S x = some (.slice none 0 0)) (hy : evS S y = some (.slice (some ⟨b, 0, none⟩) 0 5)) :
  heapOp Try.prog lo (frS n S) H ⟨d, .call ⟨.builtin .append, #[x, y], #[42, 42]⟩, ty, p, #[], none⟩ = some (.val (.slice none 0 0) H, .pure) := by
 have hm : row (0 * 1) (bc c) 0 = some [] := rfl
 have hsr : srcCells H 1 (.slice (some ⟨b, 0, none⟩) 0 5) = some (0, []) := by simp only [srcCells, h0.rd.of, hm]
 unfold heapOp
 simp only [evs, ev_frS, hx, hy, builtinV, List.getElem?_toArray, List.getElem?_cons_zero, List.getElem?_cons_succ, se42, u42, hsr, appendV, Nat.beq_refl, Bool.and_true, cond_true, cond_false]
 rfl
theorem heap_list {lo : Nat} {H : Hp} {b k : Nat} {c : Bl} (h0 : Cl H b (bc c)) (hk : k ≤ 5) : ∃ a c' H1 kd, (∀ (n : Nat) (S : Rg) (d : Option Tmp) (x y : Operand) (ty : TypeId) (p : String), evS S x = some (.slice none 0 0) → evS S y = some (.slice (some ⟨b, 0, none⟩) k 5) → heapOp Try.prog lo (frS n S) H ⟨d, .call ⟨.builtin .append, #[x, y], #[42, 42]⟩, ty, p, #[], none⟩ = some (.val (.slice a k c') H1, kd)) ∧ (∀ x, kd ≠ .read x) ∧ Keep H H1 [] ∧ Sl H1 a k c' (nf c k) := by
 rcases Nat.eq_zero_or_pos k with rfl | hp
 ·exact ⟨none, 0, H, .pure, fun n S d x y ty p hx hy => heap_app0 h0 hx hy, (fun x e => by cases e), Keep.refl _ _, .inl ⟨.inl rfl, rfl, rfl, rfl⟩⟩
 ·exact ⟨some ⟨H.next, 0, none⟩, k, _, .heavy, fun n S d x y ty p hx hy => heap_app5 h0 hp hk hx hy, (fun x e => by cases e), (new_facts rfl).1, .inr ⟨H.next, rfl, ⟨(new_facts rfl).2.2.1, by unfold cellsOf; rw [new_get rfl]⟩, Nat.le_refl _⟩⟩
section
variable {kn : FuncId → Option Bool} {lo : Nat} {H : Hp}
theorem list54_ok {b : Bl} {sa : Option Addr} {cap : Nat} {us : List Tn} (hn : us.length ≤ 5) (hlo : lo ≤ H.next) : ∃ a c H', FnX Try.prog kn lo 54 [.agg (bc b).toArray, .slice sa us.length cap] H (.slice a us.length c) H' ∧ Keep H H' [] ∧ Sl H' a us.length c (nf b us.length) := by
 have key := fnX_low (kn := kn) (lo := lo) (H := H) (args := [.agg (bc b).toArray, .slice sa us.length cap]) (Q := fun w H' => ∃ a c, w = .slice a us.length c ∧ Keep H H' [] ∧ Sl H' a us.length c (nf b us.length)) Try.func54 B54 N54 Z54 L54 (by simp) ?_
 ·obtain ⟨w, H', h, a, c, rfl, q⟩ := key; exact ⟨a, c, H', h, q⟩
 have hk := Keep.refl H []
 refine wN_seq ?_
 refine wN_boxS (v := .agg (bc b).toArray) rfl ?_
 intro H1 k1 n1 cb
 have cb : Sc H1 H.next (bc b) := cb
 have mH1 := k1.1
 have hk := hk.trans k1
 refine wN_mov (v := .slice none 0 0) rfl ?_
 refine wN_end ?_
 refine wN_seq ?_
 refine wN_mov (v := .slice sa us.length cap) rfl ?_
 refine wN_len (m := us.length) rfl ?_
 refine wN_memh (k := .read H.next) rfl (by kernel_rfl) (heap_arr5 cb hn rfl rfl) (fun x e => by cases e; exact cb.lt) ?_
 obtain ⟨a, c, H2, kd, eH2, dH2, kH2, sl⟩ := heap_list (lo := lo) cb.cl hn
 refine wN_memh (k := kd) rfl (by kernel_rfl) (eH2 _ _ _ _ _ _ _ rfl rfl) (fun x e => absurd e (dH2 x)) ?_
 have mH2 := kH2.1
 have hk := hk.trans kH2
 refine wN_mov (v := .slice a us.length c) rfl ?_
 refine wN_end ?_
 exact And.intro trivial (Exists.intro _ (And.intro rfl ⟨a, c, rfl, hk, sl⟩))
theorem blB_in {us : List Tn} {r : Rc} (hA : us.all Tn.ok = true) (hr : 1 ≤ r.un) : ∀ i, 0 ≤ blB us r i ∧ blB us r i ≤ 12 := by
 have h := bestB_says (us := us) (r := r) (by omega)
 unfold blB
 cases e : bestB us r with
 | none => intro i; exact ⟨Int.le_refl _, (by decide : (0 : Int) ≤ 12)⟩
 | some b =>
  rw [e] at h
  intro i
  show 0 ≤ b i ∧ b i ≤ 12
  rcases Nat.lt_or_ge i us.length with q | q
  ·have a := h.1.un i q
   have c := (Tn.ok_t (tn_at hA q)).1
   unfold unF at a
   omega
  ·rw [h.1.z i q]; exact ⟨Int.le_refl _, by decide⟩
/-- Blend -/
theorem blend_ok {r : Rc} {sa : Option Addr} {cap : Nat} {us : List Tn} (hs : Sl H sa us.length cap (tnc us)) (hf : ∀ b, sa = some ⟨b, 0, none⟩ → Ft H b (tnc us)) (hn2 : us.length ≤ 1000000) (hlo : lo ≤ H.next) : ∃ a c H', FnX Try.prog kn lo 25 [.slice sa us.length cap, .agg (Rc.f r).toArray] H (.tuple #[.slice a (blN us r) c, iv (blC us r), iv (blE us r)]) H' ∧ Keep H H' [] ∧ Sl H' a (blN us r) c (nf (blB us r) (blN us r)) := by
 have key := fnX_low (kn := kn) (lo := lo) (H := H) (args := [.slice sa us.length cap, .agg (Rc.f r).toArray]) (Q := fun w H' => ∃ a c, w = .tuple #[.slice a (blN us r) c, iv (blC us r), iv (blE us r)] ∧ Keep H H' [] ∧ Sl H' a (blN us r) c (nf (blB us r) (blN us r))) Try.func25 B25 N25 Z25 L25 (by simp) ?_
 ·obtain ⟨w, H', h, a, c, rfl, q⟩ := key; exact ⟨a, c, H', h, q⟩
 have hk := Keep.refl H []
 have fs := hs.old
 refine wN_seq ?_
 refine wN_box (v := .agg (Rc.f r).toArray) rfl ?_
 intro H1 kH1 nH1 c1
 have c1 : Cl H1 H.next [iv r.un, iv r.s1, iv r.s2, iv r.a1, iv r.a2, iv r.c1, iv r.c2] := c1
 have mH1 := kH1.1
 have hk := hk.trans kH1
 have hs := kH1.sl0 hs
 refine wN_mov (v := .slice none 0 0) rfl ?_
 refine wN_mov (v := iv 0) rfl ?_
 refine wN_mov (v := iv 0) rfl ?_
 refine wN_end ?_
 refine wN_seq ?_
 refine wN_mov (v := .slice sa us.length cap) rfl ?_
 refine wN_len (m := us.length) rfl ?_
 refine wN_c_gtr (a := (us.length : Int)) (b := 5) rfl rfl ?_
 refine wN_end ?_
 refine And.intro (fun q1 => ?_) (fun q1 => ?_)
 ·have q1 : (us.length : Int) > 5 := of_decide_eq_true q1
  refine wN_seq ?_
  refine wN_mov (v := .slice none 0 0) rfl ?_
  refine wN_mov (v := iv 0) rfl ?_
  refine wN_mov (v := iv 3) rfl ?_
  refine wN_end ?_
  have e : blE us r = 3 := by unfold blE; rw [if_pos (by omega)]
  have e2 : blN us r = 0 := by unfold blN; rw [if_neg (by omega)]
  have e3 : blC us r = 0 := by unfold blC; rw [if_neg (by omega)]
  exact And.intro trivial (Exists.intro _ (And.intro rfl ⟨none, 0, by rw [e, e2, e3]; rfl, hk, by rw [e2]; exact .inl ⟨.inl rfl, rfl, rfl, rfl⟩⟩))
 ·have q1 : ¬ ((us.length : Int) > 5) := of_decide_eq_false q1
  first | refine wN_skip ?_ | skip
  refine wN_seq ?_
  refine wN_mov (v := .slice sa us.length cap) rfl ?_
  obtain ⟨H2, fH2, kH2⟩ := vtanks_ok (kn := kn) (lo := lo) (H := H1) hs rfl (by omega) (by omega)
  rw [decide_eq_true (Nat.zero_le _), decide_eq_true (show us.length ≤ 5 by omega), Bool.true_and, Bool.true_and] at fH2
  have mH2 := kH2.1
  have hk := hk.trans kH2
  have hs := kH2.sl0 hs
  have c1 := kH2.cl c1 (by simp)
  cases hA : us.all Tn.ok
  ·rw [hA] at fH2
   refine wN_callf (vs := [.slice sa us.length cap]) rfl (callX_args fH2) ?_
   refine wN_pur (v := .bool true) rfl rfl ?_
   refine wN_mov (v := .bool true) rfl ?_
   refine wN_gs rfl ?_
   refine wN_gs rfl ?_
   refine wN_gs rfl ?_
   refine wN_pur (v := .bool true) rfl rfl ?_
   refine wN_end ?_
   refine condT ?_
   refine wN_seq ?_
   refine wN_mov (v := .slice none 0 0) rfl ?_
   refine wN_mov (v := iv 0) rfl ?_
   refine wN_mov (v := iv 1) rfl ?_
   refine wN_end ?_
   have e : blE us r = 1 := by unfold blE; rw [if_neg (by omega), if_neg (by simp [hA]; try simp [hR])]
   have e2 : blN us r = 0 := by unfold blN; rw [if_neg (by omega)]
   have e3 : blC us r = 0 := by unfold blC; rw [if_neg (by omega)]
   exact And.intro trivial (Exists.intro _ (And.intro rfl ⟨none, 0, by rw [e, e2, e3]; rfl, hk, by rw [e2]; exact .inl ⟨.inl rfl, rfl, rfl, rfl⟩⟩))
  ·rw [hA] at fH2
   refine wN_callf (vs := [.slice sa us.length cap]) rfl (callX_args fH2) ?_
   refine wN_pur (v := .bool false) rfl rfl ?_
   refine wN_mov (v := .bool false) rfl ?_
   refine wN_g rfl (wN_lda (b := H.next) (o := 0) rfl c1.rd (show row 7 _ _ = some [iv r.un, iv r.s1, iv r.s2, iv r.a1, iv r.a2, iv r.c1, iv r.c2] from rfl) ?_)
   obtain ⟨H3, fH3, kH3⟩ := vrecipe_ok (kn := kn) (lo := lo) (H := H2) (r := r) (by omega)
   have mH3 := kH3.1
   have hk := hk.trans kH3
   have hs := kH3.sl0 hs
   have c1 := kH3.cl c1 (by simp)
   cases hR : r.ok
   ·rw [hR] at fH3
    refine wN_g rfl (wN_callf (vs := [.agg (Rc.f r).toArray]) rfl (callX_args fH3) ?_)
    refine wN_g rfl (wN_pur (v := .bool true) rfl rfl ?_)
    refine wN_pur (v := .bool true) rfl rfl ?_
    refine wN_end ?_
    refine condT ?_
    refine wN_seq ?_
    refine wN_mov (v := .slice none 0 0) rfl ?_
    refine wN_mov (v := iv 0) rfl ?_
    refine wN_mov (v := iv 1) rfl ?_
    refine wN_end ?_
    have e : blE us r = 1 := by unfold blE; rw [if_neg (by omega), if_neg (by simp [hA]; try simp [hR])]
    have e2 : blN us r = 0 := by unfold blN; rw [if_neg (by omega)]
    have e3 : blC us r = 0 := by unfold blC; rw [if_neg (by omega)]
    exact And.intro trivial (Exists.intro _ (And.intro rfl ⟨none, 0, by rw [e, e2, e3]; rfl, hk, by rw [e2]; exact .inl ⟨.inl rfl, rfl, rfl, rfl⟩⟩))
   ·rw [hR] at fH3
    refine wN_g rfl (wN_callf (vs := [.agg (Rc.f r).toArray]) rfl (callX_args fH3) ?_)
    refine wN_g rfl (wN_pur (v := .bool false) rfl rfl ?_)
    refine wN_pur (v := .bool false) rfl rfl ?_
    refine wN_end ?_
    refine condF ?_
    first | refine wN_skip ?_ | skip
    refine wN_seq ?_
    refine wN_mov (v := .slice sa us.length cap) rfl ?_
    refine wN_lda (b := H.next) (o := 0) rfl c1.rd (show row 7 _ _ = some [iv r.un, iv r.s1, iv r.s2, iv r.a1, iv r.a2, iv r.c1, iv r.c2] from rfl) ?_
    obtain ⟨H4, fH4, kH4⟩ := cheap_ok (kn := kn) (lo := lo) (H := H3) (r := r) hs (fun b e => hk.ft (hf b e) (by simp)) (by omega) hA hR (by omega)
    have mH4 := kH4.1
    have hk := hk.trans kH4
    have hs := kH4.sl0 hs
    have c1 := kH4.cl c1 (by simp)
    have hbb : ∀ i, 0 ≤ blB us r i ∧ blB us r i ≤ 12 := blB_in hA (Rc.ok_t hR).1.1
    cases hB : (bestB us r).isSome
    ·rw [hB] at fH4
     refine wN_callf (vs := [.slice sa us.length cap, .agg (Rc.f r).toArray]) rfl (callX_args fH4) ?_
     refine wN_mov (v := .tuple #[.agg (bc (blB us r)).toArray, .bool false]) rfl ?_
     refine wN_pur (v := .agg (bc (blB us r)).toArray) rfl (by kernel_rfl) ?_
     refine wN_pur (v := .bool false) rfl (by kernel_rfl) ?_
     refine wN_alc ?_
     intro H5 kH5 nH5 c5
     have c5 : Cl H5 H4.next [iv 0, iv 0, iv 0, iv 0, iv 0] := c5
     have mH5 := kH5.1
     have hk := hk.trans kH5
     have hs := kH5.sl0 hs
     have c1 := kH5.cl c1 (by simp)
     refine wN_sta (b := H4.next) (o := 0) rfl rfl c5 (by omega) rfl rfl (by simp) ?_
     intro H6 kH6 nH6 sH6
     have mH6 := kH6.1
     have hk := hk.new kH6 (fun b hb => by simp at hb ⊢; omega)
     have hs := kH6.sl hs (fun b e => by have := fs b e; first | (simp; done) | (simp; omega))
     have c1 := kH6.cl c1 (by first | (simp; done) | (simp; omega))
     have c5 : Cl H6 H4.next [iv ((blB us r) 0), iv ((blB us r) 1), iv ((blB us r) 2), iv ((blB us r) 3), iv ((blB us r) 4)] := sH6
     refine wN_mov (v := .bool false) rfl ?_
     refine wN_end ?_
     refine wN_seq ?_
     refine wN_mov (v := .bool false) rfl ?_
     refine wN_pur (v := .bool true) rfl rfl ?_
     refine wN_end ?_
     refine condT ?_
     refine wN_seq ?_
     refine wN_mov (v := .slice none 0 0) rfl ?_
     refine wN_mov (v := iv 0) rfl ?_
     refine wN_mov (v := iv 4) rfl ?_
     refine wN_end ?_
     have e : blE us r = 4 := by unfold blE; rw [if_neg (by omega), if_pos (by simp [hA, hR]), if_neg (by simp [hB])]
     have e2 : blN us r = 0 := by unfold blN; rw [if_neg (by omega)]
     have e3 : blC us r = 0 := by unfold blC; rw [if_neg (by omega)]
     exact And.intro trivial (Exists.intro _ (And.intro rfl ⟨none, 0, by rw [e, e2, e3]; rfl, hk, by rw [e2]; exact .inl ⟨.inl rfl, rfl, rfl, rfl⟩⟩))
    ·rw [hB] at fH4
     refine wN_callf (vs := [.slice sa us.length cap, .agg (Rc.f r).toArray]) rfl (callX_args fH4) ?_
     refine wN_mov (v := .tuple #[.agg (bc (blB us r)).toArray, .bool true]) rfl ?_
     refine wN_pur (v := .agg (bc (blB us r)).toArray) rfl (by kernel_rfl) ?_
     refine wN_pur (v := .bool true) rfl (by kernel_rfl) ?_
     refine wN_alc ?_
     intro H7 kH7 nH7 c7
     have c7 : Cl H7 H4.next [iv 0, iv 0, iv 0, iv 0, iv 0] := c7
     have mH7 := kH7.1
     have hk := hk.trans kH7
     have hs := kH7.sl0 hs
     have c1 := kH7.cl c1 (by simp)
     refine wN_sta (b := H4.next) (o := 0) rfl rfl c7 (by omega) rfl rfl (by simp) ?_
     intro H8 kH8 nH8 sH8
     have mH8 := kH8.1
     have hk := hk.new kH8 (fun b hb => by simp at hb ⊢; omega)
     have hs := kH8.sl hs (fun b e => by have := fs b e; first | (simp; done) | (simp; omega))
     have c1 := kH8.cl c1 (by first | (simp; done) | (simp; omega))
     have c7 : Cl H8 H4.next [iv ((blB us r) 0), iv ((blB us r) 1), iv ((blB us r) 2), iv ((blB us r) 3), iv ((blB us r) 4)] := sH8
     refine wN_mov (v := .bool true) rfl ?_
     refine wN_end ?_
     refine wN_seq ?_
     refine wN_mov (v := .bool true) rfl ?_
     refine wN_pur (v := .bool false) rfl rfl ?_
     refine wN_end ?_
     refine condF ?_
     first | refine wN_skip ?_ | skip
     refine wD_seq ?_
     refine wD_lda (b := H4.next) (o := 0) rfl c7.rd (show row 5 _ _ = some [iv ((blB us r) 0), iv ((blB us r) 1), iv ((blB us r) 2), iv ((blB us r) 3), iv ((blB us r) 4)] from rfl) ?_
     refine wD_mov (v := .slice sa us.length cap) rfl ?_
     obtain ⟨a, c, H9, fH9, kH9, sl⟩ := list54_ok (kn := kn) (lo := H8.next) (H := H8) (b := blB us r) (sa := sa) (cap := cap) (us := us) (by omega) (by omega)
     refine wD_callh (vs := [.agg (bc (blB us r)).toArray, .slice sa us.length cap]) rfl rfl (callX_args fH9) ?_
     have mH9 := kH9.1
     have hk := hk.trans kH9
     have hs := kH9.sl0 hs
     have c1 := kH9.cl c1 (by simp)
     have c7 := kH9.cl c7 (by simp)
     refine wD_lda (b := H4.next) (o := 0) rfl c7.rd (show row 5 _ _ = some [iv ((blB us r) 0), iv ((blB us r) 1), iv ((blB us r) 2), iv ((blB us r) 3), iv ((blB us r) 4)] from rfl) ?_
     refine wD_mov (v := .slice sa us.length cap) rfl ?_
     obtain ⟨H10, fH10, kH10⟩ := cost_ok (kn := kn) (lo := lo) (H := H9) (b := blB us r) hs rfl hbb hA (by omega) (by omega)
     refine wD_callf (vs := [.agg (bc (blB us r)).toArray, .slice sa us.length cap]) rfl (callX_args fH10) ?_
     have mH10 := kH10.1
     have hk := hk.trans kH10
     have hs := kH10.sl0 hs
     have c1 := kH10.cl c1 (by simp)
     have c7 := kH10.cl c7 (by simp)
     have sl := kH10.sl0 sl
     refine wD_mov (v := .slice a us.length c) rfl ?_
     refine wD_mov (v := iv (cosB us (blB us r))) rfl ?_
     refine wD_mov (v := iv 0) rfl ?_
     refine wD_end (by repeat' first | exact True.intro | exact (fun h => h) | refine And.intro ?_ ?_ | (intro h; have h : (_ : Nat) = _ := h; omega)) ?_
     have e : blE us r = 0 := by unfold blE; rw [if_neg (by omega), if_pos (by simp [hA, hR]), if_pos hB]
     have e2 : blN us r = us.length := by unfold blN; rw [if_pos e]
     have e3 : blC us r = cosB us (blB us r) := by unfold blC; rw [if_pos e]
     exact And.intro trivial (Exists.intro _ (And.intro rfl ⟨a, c, by rw [e, e2, e3]; rfl, hk, by rw [e2]; exact sl⟩))
end
end Go.Ax

/-
  Plant: some blend; the law PlantCheapest (written by program).
-/
namespace Go.Ax
open Go Go.RowKit Go.Proofs

theorem AccB.of {b0 lo f : Nat} {e : TypeId} {H : Hp} {v : Value} {n : Nat} {cs : List Value} (h : Acc lo f e H v n cs) (h0 : 0 < n) : AccB b0 lo f e H v n cs := by
  rcases h with ⟨q, _⟩ | q
  · omega
  · exact .inr q
theorem AccB.lt {b0 lo f : Nat} {e : TypeId} {H : Hp} {v : Value} {n : Nat} {cs : List Value} (h : AccB b0 lo f e H v n cs) {b m c : Nat} (ev : v = .slice (some ⟨b, 0, none⟩) m c) : b < H.next := by
  rcases h with ⟨_, _, rfl, hb, _⟩ | ⟨b1, rfl, _, _, _, hn, _⟩
  · cases ev; exact hb
  · cases ev; exact hn
theorem AccB.sl {b0 lo f : Nat} {e : TypeId} {H : Hp} {v : Value} {n : Nat} {cs : List Value} (h : AccB b0 lo f e H v n cs) : ∃ a c, v = .slice a n c ∧ Sl H a n c cs := by
  rcases h with ⟨rfl, rfl, rfl, hb, e0, h0⟩ | ⟨b, rfl, h0, hf, hl, hn, hg⟩
  · exact ⟨_, _, rfl, .inr ⟨b0, rfl, ⟨hb, by unfold cellsOf; rw [h0]⟩, Nat.le_refl _⟩⟩
  · exact ⟨_, _, rfl, .inr ⟨b, rfl, ⟨hn, by unfold cellsOf; rw [hg]⟩, Nat.le_refl _⟩⟩
section
variable {kn : FuncId → Option Bool} {lo : Nat} {H : Hp}
end
end Go.Ax

/-
  Plant: all lists of units, and the first cheapest one of them (written by program).
-/
namespace Go.Ax
open Go Go.RowKit

end Go.Ax

/-
  Plant: the document's Blend: all lists (56) (written by program).
-/
namespace Go.Ax
open Go Go.RowKit Go.Proofs

theorem se94 : sliceElem Try.prog 94 = some (42, 1) := by kernel_rfl
theorem u94 : Try.prog.underlying 94 = some (.slice 42) := by kernel_rfl
/-- a list of numbers that append made, or none -/
def Els (H : Hp) (a : Option Addr) (cap n : Nat) (cs : List Value) : Prop := (n = 0 ∧ a = none ∧ cap = 0 ∧ cs = []) ∨ ∃ b, a = some ⟨b, 0, none⟩ ∧ cap = n ∧ b < H.next ∧ H.t.get b = some (.cells cs 3 true)
theorem Els.sl {H : Hp} {a : Option Addr} {cap n : Nat} {cs : List Value} (h : Els H a cap n cs) : Sl H a n cap cs := by
  rcases h with ⟨rfl, rfl, rfl, rfl⟩ | ⟨b, rfl, rfl, h1, h2⟩
  · exact .inl ⟨.inl rfl, rfl, rfl, rfl⟩
  · exact .inr ⟨b, rfl, ⟨h1, by unfold cellsOf; rw [h2]⟩, Nat.le_refl _⟩
/-- what lies below f stays, and all blocks but those that hold lists of lists -/
structure KL (f : Nat) (H H1 : Hp) : Prop where
  nx : H.next ≤ H1.next
  bl : ∀ b, b < H.next → (b < f ∨ ∀ cs, H.t.get b ≠ some (.cells cs 42 true)) → H1.t.get b = H.t.get b
  ro : ∀ b cs, b < H1.next → H1.t.get b = some (.ro cs) → b < H.next ∧ H.t.get b = some (.ro cs)
theorem KL.of {f : Nat} {H H1 : Hp} (k : Keep H H1 []) : KL f H H1 := ⟨k.1, fun b hb _ => k.2 b hb (by simp), k.3⟩
theorem KL.trans {f : Nat} {H H1 H2 : Hp} (h : KL f H H1) (k : KL f H1 H2) : KL f H H2 :=
  ⟨Nat.le_trans h.nx k.nx, fun b hb q => by
    have e := h.bl b hb q
    rw [← e]
    refine k.bl b (Nat.lt_of_lt_of_le hb h.nx) (q.imp id fun z cs => ?_)
    rw [e]; exact z cs, fun b cs hb hg => by
    obtain ⟨a, c⟩ := k.ro b cs hb hg
    exact h.ro b cs a c⟩
theorem KL.keep {f : Nat} {H0 H H1 : Hp} (k : KL f H H1) (h : Keep H0 H []) (hf : H0.next ≤ f) : Keep H0 H1 [] :=
  ⟨Nat.le_trans h.1 k.nx, fun b hb hn => by rw [k.bl b (Nat.lt_of_lt_of_le hb h.1) (.inl (Nat.lt_of_lt_of_le hb hf)), h.2 b hb hn], fun b cs hb hg => by
    obtain ⟨a, c⟩ := k.ro b cs hb hg
    exact h.3 b cs a c⟩
theorem KL.els {f : Nat} {H H1 : Hp} (k : KL f H H1) {a : Option Addr} {cap n : Nat} {cs : List Value} (h : Els H a cap n cs) : Els H1 a cap n cs :=
  h.imp id fun ⟨b, e1, e2, h1, h2⟩ => ⟨b, e1, e2, Nat.lt_of_lt_of_le h1 k.nx, by rw [k.bl b h1 (.inr fun cs q => by rw [h2] at q; cases q)]; exact h2⟩
theorem KL.sl {f : Nat} {H H1 : Hp} (k : KL f H H1) {a : Option Addr} {cap n : Nat} {cs : List Value} (h : Sl H a n cap cs) (hf : ∀ b, a = some ⟨b, 0, none⟩ → b < f) : Sl H1 a n cap cs :=
  h.imp id fun ⟨b, e1, ⟨h1, h2⟩, q⟩ => ⟨b, e1, ⟨Nat.lt_of_lt_of_le h1 k.nx, by unfold cellsOf at h2 ⊢; rw [k.bl b h1 (.inl (hf b e1))]; exact h2⟩, q⟩
/-- a list of lists that append made -/
def Out (lo f n : Nat) (H : Hp) (v : Value) (L : List Bl) : Prop := ∃ cs, Acc lo f 42 H v L.length cs ∧ cs.length = L.length * 1 ∧ ∀ (i : Nat) (x : Bl), L[i]? = some x → ∃ a cap, cs[i]? = some (Value.slice a n cap) ∧ Els H a cap n (nf x n)
theorem Out.keep {lo f n : Nat} {H H1 : Hp} {v : Value} {L : List Bl} (h : Out lo f n H v L) (k : Keep H H1 []) : Out lo f n H1 v L := by
  obtain ⟨cs, h1, h2, h3⟩ := h
  exact ⟨cs, h1.keep k, h2, fun i x hx => by obtain ⟨a, cap, e, q⟩ := h3 i x hx; exact ⟨a, cap, e, (KL.of (f := 0) k).els q⟩⟩
/-- append of one to what append made (any number) -/
theorem heap_append_big {P : Program} {lo : Nat} {H : Hp} {t0 t1 e ep : TypeId} {k cap2 f : Nat} {a : Option Addr} {v w : Value} {cs : List Value} (he : sliceElem P t0 = some (e, 1)) (ht : P.underlying t1 = some (.slice ep))
    (hs : Sl H a 1 cap2 [w]) (hone : one w = true) (hcl : cs.length = k * 1) (hk : k < 1000000) (ha : Acc lo f e H v k cs) (hlo : lo ≤ H.next) (hf : f ≤ H.next) :
    ∃ H1 kd, (∀ (n : Nat) (S : Rg) (d : Option Tmp) (x y : Operand) (ty : TypeId) (p : String), evS S x = some v → evS S y = some (.slice a 1 cap2) → heapOp P lo (frS n S) H ⟨d, .call ⟨.builtin .append, #[x, y], #[t0, t1]⟩, ty, p, #[], none⟩ = some (.val (.slice (some ⟨H.next, 0, none⟩) (k + 1) (k + 1)) H1, kd)) ∧ (∀ b, kd ≠ .read b) ∧
      Acc lo f e H1 (.slice (some ⟨H.next, 0, none⟩) (k + 1) (k + 1)) (k + 1) (cs ++ [w]) ∧ Keep H H1 (bkv v).toList := by
  have hl : [w].length = 1 * 1 := rfl
  have hone : [w].all one = true := by simp [hone]
  rcases ha with ⟨rfl, rfl, rfl⟩ | ⟨b, rfl, h0, hb, hlb, hn, hg⟩
  · refine ⟨H.new (.cells [w] e true), .heavy, ?_, (fun b e => by cases e), ?_, (new_facts rfl).1.mono (by simp)⟩
    · intro n S d x y ty p hx hy
      unfold heapOp
      simp only [evs, ev_frS, hx, hy, builtinV, List.getElem?_toArray, List.getElem?_cons_zero, List.getElem?_cons_succ, he, ht, src_of hs hl, appendV]
      rfl
    · refine .inr ⟨H.next, rfl, by omega, hf, hlo, Nat.lt_succ_self _, ?_⟩
      show (H.t.set H.next _).get H.next = _
      rw [Tr.get_set, if_pos rfl]; rfl
  · have h1 : Nat.ble (0 + (k + 1) * 1) cs.length = false := by
      cases h : Nat.ble (0 + (k + 1) * 1) cs.length with
      | false => rfl
      | true => have := Nat.le_of_ble_eq_true h; rw [hcl, Nat.succ_mul] at this; omega
    have h2 : Nat.beq (0 + k * 1) cs.length = true := by rw [hcl, Nat.zero_add]; exact Nat.beq_refl _
    have h3 : Nat.ble (k + 1) 1048576 = true := Nat.ble_eq_true_of_le (by omega)
    have h4 : Nat.beq e e = true := Nat.beq_refl e
    refine ⟨({ H with t := H.t.set b .dead } : Hp).new (.cells (cs ++ [w]) e true), .store b, ?_, (fun b e => by cases e), ?_, ?_⟩
    · intro n S d x y ty p hx hy
      unfold heapOp
      simp only [evs, ev_frS, hx, hy, builtinV, List.getElem?_toArray, List.getElem?_cons_zero, List.getElem?_cons_succ, he, ht, src_of hs hl, appendV, hg, h1, h2, h3, h4, hone, Nat.ble_eq_true_of_le hlb, Bool.and_self, cond_true, cond_false, List.drop_zero, show Nat.beq 1 0 = false from rfl]
    · refine .inr ⟨H.next, rfl, by omega, hf, hlo, Nat.lt_succ_self _, ?_⟩
      show ((H.t.set b .dead).set H.next _).get H.next = _
      rw [Tr.get_set, if_pos rfl]
    · refine ⟨Nat.le_succ _, fun c hc hn => ?_, fun c xs hc hx => ?_⟩
      · have hne : c ≠ b := by simpa [bkv] using hn
        show ((H.t.set b .dead).set H.next _).get c = _
        rw [Tr.get_set, if_neg (by omega), Tr.get_set, if_neg hne]
      · have hx : ((H.t.set b .dead).set H.next (.cells (cs ++ [w]) e true)).get c = some (.ro xs) := hx
        have hc : c < H.next + 1 := hc
        rw [Tr.get_set] at hx
        split at hx
        · cases hx
        · rw [Tr.get_set] at hx
          split at hx
          · cases hx
          · exact ⟨by omega, hx⟩
/-- one more list -/
theorem Out.append {lo f n : Nat} {H : Hp} {v : Value} {L : List Bl} {a a1 : Option Addr} {cap c1 : Nat} {x : Bl} (h : Out lo f n H v L) (hx : Els H a cap n (nf x n)) (hs : Sl H a1 1 c1 [.slice a n cap]) (hL : L.length < 1000000) (hlo : lo ≤ H.next) (hf : f ≤ H.next) :
    ∃ v1 H1 kd, (∀ (m : Nat) (S : Rg) (d : Option Tmp) (x y : Operand) (ty : TypeId) (p : String), evS S x = some v → evS S y = some (.slice a1 1 c1) → heapOp Try.prog lo (frS m S) H ⟨d, .call ⟨.builtin .append, #[x, y], #[94, 94]⟩, ty, p, #[], none⟩ = some (.val v1 H1, kd)) ∧ (∀ b, kd ≠ .read b) ∧ Out lo f n H1 v1 (L ++ [x]) ∧ KL f H H1 := by
  obtain ⟨cs, h1, h2, h3⟩ := h
  obtain ⟨H1, kd, e, d, ac, k⟩ := heap_append_big (P := Try.prog) (lo := lo) (t1 := 94) se94 u94 hs rfl h2 hL h1 hlo hf
  have kl : KL f H H1 := by
    refine ⟨k.1, fun b hb q => k.2 b hb fun hm => ?_, k.3⟩
    rcases h1 with ⟨_, _, rfl⟩ | ⟨b1, rfl, _, hf1, _, _, hg⟩
    · simp [bkv] at hm
    · simp [bkv] at hm
      subst hm
      rcases q with q | q
      · omega
      · exact q _ hg
  refine ⟨_, H1, kd, e, d, ⟨cs ++ [.slice a n cap], by rw [List.length_append]; exact ac, by rw [List.length_append, List.length_append, h2]; simp, fun i y hy => ?_⟩, kl⟩
  rcases Nat.lt_or_ge i L.length with q | q
  · rw [List.getElem?_append_left q] at hy
    obtain ⟨a', cap', e', z⟩ := h3 i y hy
    exact ⟨a', cap', by rw [List.getElem?_append_left (by omega)]; exact e', kl.els z⟩
  · rw [List.getElem?_append_right q] at hy
    have e0 : i - L.length = 0 := by
      rcases Nat.eq_zero_or_pos (i - L.length) with z | z
      · exact z
      · rw [List.getElem?_eq_none (by simp; omega)] at hy; cases hy
    rw [e0] at hy
    have hy : x = y := by simpa using hy
    subst hy
    exact ⟨a, cap, by rw [List.getElem?_append_right (by omega), show i - cs.length = 0 by omega]; rfl, kl.els hx⟩
section
variable {kn : FuncId → Option Bool} {lo : Nat} {H : Hp}
end
end Go.Ax

/-
  Plant: when lots are frozen, late lots, the least rate (written by program).
-/
namespace Go.Ax
open Go Go.RowKit

section
variable {L : Nat → Nat} {rd ms du : Nat → Int} {R : Int} {n : Nat}
end
/-- of lots -/
def LS (us : List Fz) : Nat → Nat := srt (duF us) us.length
def DN (us : List Fz) (R : Int) : Nat → Int := dnA (LS us) (rdF us) R (msF us) us.length 500
structure FzOk (us : List Fz) : Prop where
  m : ∀ x, x < us.length → 0 ≤ msF us x ∧ msF us x ≤ 1099511627776
  a : ∀ x, x < us.length → 0 ≤ rdF us x
  d : ∀ x, x < us.length → rdF us x ≤ duF us x ∧ duF us x ≤ 500
theorem FzOk.of {us : List Fz} (h : us.all Fz.ok = true) : FzOk us := ⟨fun x hx => (all_at h hx).2.2, fun x hx => (all_at h hx).2.1.1, fun x hx => ⟨(all_at h hx).2.1.2, (all_at h hx).1.2⟩⟩
end Go.Ax

/-
  Plant: Frozen, Late, the law PlantInTime (written by program).
-/
namespace Go.Ax
open Go Go.RowKit Go.Proofs

/-- the error of Frozen -/
def frzE (us : List Fz) (R : Int) : Int := if chkF us = 0 then (if 1 ≤ R ∧ R ≤ 17592186044416 then 0 else 2) else chkF us
theorem chkF_0 {us : List Fz} (h : chkF us = 0) : us.length ≤ 16 ∧ us.all Fz.ok = true := by
  unfold chkF at h
  split at h
  · cases h
  · rename_i q
    refine ⟨by omega, ?_⟩
    split at h
    · assumption
    · cases h
theorem frzE_0 {us : List Fz} {R : Int} (h : frzE us R = 0) : us.length ≤ 16 ∧ us.all Fz.ok = true ∧ 1 ≤ R ∧ R ≤ 17592186044416 := by
  unfold frzE at h
  split at h
  · rename_i q
    split at h
    · exact ⟨(chkF_0 q).1, (chkF_0 q).2, by assumption⟩
    · cases h
  · rename_i q; exact absurd h q
section
variable {kn : FuncId → Option Bool} {lo : Nat} {H : Hp}
/-- Frozen, where it answers -/
theorem frozen28_ok {sa : Option Addr} {n cap : Nat} {us : List Fz} {R : Int} (hs : Sl H sa n cap (fzc us)) (hl : us.length = n) (hn2 : n ≤ 1000000) (hlo : lo ≤ H.next) (h0 : frzE us R = 0) : ∃ b H', FnX Try.prog kn lo 28 [.slice sa n cap, iv R] H (.tuple #[slv b n n, iv 0]) H' ∧ Keep H H' [] ∧ H.next ≤ b ∧ Cl H' b (nf (DN us R) n) := by
  have key := fnX_low (kn := kn) (lo := lo) (H := H) (args := [.slice sa n cap, iv R]) (Q := fun w H' => ∃ b, w = .tuple #[slv b n n, iv 0] ∧ Keep H H' [] ∧ H.next ≤ b ∧ Cl H' b (nf (DN us R) n)) Try.func28 B28 N28 Z28 L28 (by simp) ?_
  · obtain ⟨w, H', h, a, rfl, q⟩ := key; exact ⟨a, H', h, q⟩
  have hk := Keep.refl H []
  obtain ⟨h1, h2, h3, h4⟩ := frzE_0 h0
  have hc : chkF us = 0 := by unfold chkF; rw [if_neg (by omega), h2]; rfl
  refine wN_seq ?_
  refine wN_mov (v := .slice none 0 0) rfl ?_
  refine wN_mov (v := iv 0) rfl ?_
  refine wN_end ?_
  refine wN_seq ?_
  refine wN_mov (v := .slice sa n cap) rfl ?_
  obtain ⟨H1, fH1, kH1⟩ := check57_ok (kn := kn) (lo := lo) (H := H) hs hl hn2 (by omega)
  refine wN_callf (vs := [.slice sa n cap]) rfl (callX_args fH1) ?_
  have mH1 := kH1.1
  have hk := hk.trans kH1
  have hs := kH1.sl0 hs
  refine wN_mov (v := iv (chkF us)) rfl ?_
  refine wN_end ?_
  refine wN_seq ?_
  refine wN_mov (v := iv (chkF us)) rfl ?_
  refine wN_c_neq (a := (chkF us)) (b := 0) rfl rfl ?_
  refine wN_end ?_
  refine And.intro (fun q1 => ?_) (fun q1 => ?_)
  · have q1 : (chkF us) ≠ 0 := by simpa using q1
    exfalso; omega
  · have q1 : ¬ ((chkF us) ≠ 0) := by simpa using q1
    first | refine wN_skip ?_ | skip
    refine wN_seq ?_
    refine wN_mov (v := iv R) rfl ?_
    refine wN_b_lss (a := R) (b := 1) rfl rfl ?_
    intro t2 g2; cases t2
    · have g2 : ¬ (R < 1) := of_decide_eq_false g2
      refine wN_mov (v := .bool false) rfl ?_
      refine wN_g rfl (wN_mov (v := iv R) rfl ?_)
      refine wN_g rfl (wN_b_gtr (a := R) (b := 17592186044416) rfl rfl ?_)
      intro t3 g3; cases t3
      · have g3 : ¬ (R > 17592186044416) := of_decide_eq_false g3
        refine wN_pur (v := .bool false) rfl rfl ?_
        refine wN_end ?_
        refine condF ?_
        first | refine wN_skip ?_ | skip
        refine wN_seq ?_
        refine wN_mov (v := .slice sa n cap) rfl ?_
        refine wN_mov (v := iv R) rfl ?_
        obtain ⟨b, H2, fH2, kH2, hb, cb⟩ := frozen_ok (kn := kn) (lo := lo) (H := H1) (R := R) hs hl (by omega) (L := LS us) (by unfold LS; rw [hl]) h2 ⟨h3, h4⟩ (by omega)
        refine wN_callf (vs := [.slice sa n cap, iv R]) rfl (callX_args fH2) ?_
        have mH2 := kH2.1
        have hk := hk.trans kH2
        have hs := kH2.sl0 hs
        refine wN_mov (v := .slice (some ⟨b, 0, none⟩) n n) rfl ?_
        refine wN_mov (v := iv 0) rfl ?_
        refine wN_end ?_
        exact And.intro trivial (Exists.intro _ (And.intro rfl ⟨_, rfl, hk, by omega, by unfold DN; rw [hl]; exact cb⟩))
      · have g3 : R > 17592186044416 := of_decide_eq_true g3
        exfalso; omega
    · have g2 : R < 1 := of_decide_eq_true g2
      exfalso; omega
end
end Go.Ax

/-! The law PlantFaster's code, an addition that may wrap left as it is (written by program). -/
namespace Go.Ax
open Go Go.RowKit Go.Proofs
end Go.Ax

/-
  Plant: Rate, Late, Freezes, the law PlantFaster (written by program).
-/
namespace Go.Ax
open Go Go.RowKit Go.Proofs

section
variable {kn : FuncId → Option Bool} {lo : Nat} {H : Hp}
end
end Go.Ax

/-
  Plant: the document's way to freeze: the next lot, again and again (written by program).
-/
namespace Go.Ax
open Go Go.RowKit

/-- the lot that is taken next, of the first k -/
def nx (us : List Fz) (g : Nat → Int) (h : Int) : Nat → Int
  | 0 => -1
  | k + 1 => if (rdF us k ≤ h ∧ 0 < g k) ∧ (nx us g h k < 0 ∨ duF us k < duF us (nx us g h k).toNat) then (k : Int) else nx us g h k
section
variable {L : Nat → Nat} {rd left dn : Nat → Int} {h R : Int} {n k : Nat}
end
end Go.Ax

/-
  Plant: the document's Frozen and Rate, the law PlantFreezes (written by program).
-/
namespace Go.Ax
open Go Go.RowKit Go.Proofs

section
variable {kn : FuncId → Option Bool} {lo : Nat} {H : Hp}
end
end Go.Ax

/-
  Plant: the document's Rate, Ints, the law PlantFreezes (written by program).
-/
namespace Go.Ax
open Go Go.RowKit Go.Proofs

section
variable {kn : FuncId → Option Bool} {lo : Nat} {H : Hp}
/-- the document's Ints, of the same -/
theorem ints27_ok {g : Nat → Int} {a1 a2 : Option Addr} {n c1 c2 m : Nat} (h1 : Sl H a1 n c1 (nf g m)) (h2 : Sl H a2 n c2 (nf g m)) (hnm : n ≤ m) (hn2 : n ≤ 1000000) : ∃ H', FnX Try.prog kn lo 27 [.slice a1 n c1, .slice a2 n c2] H (.bool true) H' ∧ Keep H H' [] := by
  have key := fnX_low (kn := kn) (lo := lo) (H := H) (args := [.slice a1 n c1, .slice a2 n c2]) (Q := fun w H' => w = .bool true ∧ Keep H H' []) Try.func27 B27 N27 Z27 L27 (by simp) ?_
  · obtain ⟨w, H', h, rfl, q⟩ := key; exact ⟨H', h, q⟩
  have hk := Keep.refl H []
  refine wN_seq ?_
  refine wN_mov (v := .bool false) rfl ?_
  refine wN_end ?_
  refine wN_seq ?_
  refine wN_mov (v := .slice a1 n c1) rfl ?_
  refine wN_len (m := n) rfl ?_
  refine wN_mov (v := .slice a2 n c2) rfl ?_
  refine wN_len (m := n) rfl ?_
  refine wN_c_neq (a := (n : Int)) (b := (n : Int)) rfl rfl ?_
  refine wN_end ?_
  refine And.intro (fun q1 => ?_) (fun q1 => ?_)
  · have q1 : (n : Int) ≠ (n : Int) := by simpa using q1
    exfalso; omega
  · have q1 : ¬ ((n : Int) ≠ (n : Int)) := by simpa using q1
    first | refine wN_skip ?_ | skip
    refine wN_seq ?_
    refine wN_mov (v := iv 0) rfl ?_
    refine wN_end ?_
    refine loop_low (fn := Try.f27) E27_1 N27 L27x1 (fun i : Nat => [(0, .slice a1 n c1), (1, .slice a2 n c2), (5, iv (i : Int))])
      (fun k i H' => i + k = n ∧ Keep H H' [] ∧ Sl H' a1 n c1 (nf g m) ∧ Sl H' a2 n c2 (nf g m)) n 0 ⟨by omega, hk, h1, h2⟩ ⟨rfl, rfl, rfl, trivial⟩ ?_
    rintro k i L1 ⟨hik, hk, h1, h2⟩
    refine wN_seq ?_
    refine wN_mov (v := iv (i : Int)) rfl ?_
    refine wN_mov (v := .slice a1 n c1) rfl ?_
    refine wN_len (m := n) rfl ?_
    refine wN_c_lss (a := (i : Int)) (b := (n : Int)) rfl rfl ?_
    refine wN_end ?_
    refine And.intro (fun q2 => ?_) (fun q2 => ?_)
    · have q2 : (i : Int) < (n : Int) := of_decide_eq_true q2
      have hi : i < n := by omega
      rcases id h1 with ⟨_, h0, _⟩ | ⟨b1, e1, r1, _⟩
      · omega
      rcases id h2 with ⟨_, h0, _⟩ | ⟨b2, e2, r2, _⟩
      · omega
      first | refine wN_skip ?_ | skip
      refine wD_seq ?_
      refine wD_mov (v := .slice a1 n c1) rfl ?_
      refine wD_mov (v := iv (i : Int)) rfl ?_
      refine wD_idx (b := b1) (o := 0) (k := i) (j := (i : Int)) (by rw [← e1]; rfl) rfl rfl hi ?_
      refine wD_ld (b := b1) (o := 0 + i * 1) (v := iv (g i)) rfl r1 (nf_at (f := g) (by omega)) ?_
      refine wD_mov (v := .slice a2 n c2) rfl ?_
      refine wD_mov (v := iv (i : Int)) rfl ?_
      refine wD_idx (b := b2) (o := 0) (k := i) (j := (i : Int)) (by rw [← e2]; rfl) rfl rfl hi ?_
      refine wD_ld (b := b2) (o := 0 + i * 1) (v := iv (g i)) rfl r2 (nf_at (f := g) (by omega)) ?_
      refine wD_c_neq (a := g i) (b := g i) rfl rfl ?_
      rw [show (g i != g i) = false by simp]
      refine wD_end (by repeat' first | exact True.intro | exact (fun h => h) | refine And.intro ?_ ?_ | (intro h; have h : (_ : Nat) = _ := h; omega)) ?_
      refine condF ?_
      first | refine wN_skip ?_ | skip
      first | refine wN_reg ?_ | refine wN_blk ?_ | refine wN_bseq ?_ | (refine wOps_nil ?_; refine wN_reg ?_)
      refine wN_mov (v := iv (i : Int)) rfl ?_
      refine wN_add (a := (i : Int)) (b := 1) rfl rfl ⟨by omega, by omega⟩ ?_
      refine wN_mov (v := iv ((i : Int) + 1)) rfl ?_
      refine wN_end ?_
      exact ⟨k - 1, i + 1, by omega, ⟨by omega, hk, h1, h2⟩, rfl, rfl, rfl, trivial⟩
    · have q2 : ¬ ((i : Int) < (n : Int)) := of_decide_eq_false q2
      first | (refine wN_exit ?_; show wC _ _ _ _ _ _ _ _ _) | skip
      refine wN_seq ?_
      refine wN_mov (v := .bool true) rfl ?_
      refine wN_end ?_
      exact And.intro trivial (Exists.intro _ (And.intro rfl ⟨rfl, hk⟩))
end
end Go.Ax

/-
  Plant: the document's Blend, the law PlantBlends (written by program).
-/
namespace Go.Ax
open Go Go.RowKit Go.Proofs

section
variable {kn : FuncId → Option Bool} {lo : Nat} {H : Hp}
end
end Go.Ax

/-
  Plant: a machine's work, as the document has it (written by program).
-/
namespace Go.Ax
open Go Go.RowKit

end Go.Ax

/-
  Plant: Run (both), Same, great, and the law PlantRuns (written by program).
-/
namespace Go.Ax
open Go Go.RowKit Go.Proofs

theorem prun_bind {P : Program} {α β : Type} (f : α → Sem β) : ∀ (x : Sem α), prun P (x >>= f) = (prun P x).bind fun a => prun P (f a) := by
  intro x
  induction x with
  | pure a => rfl
  | program k ih => exact ih P
  | _ => rfl
theorem prun_pure {α : Type} {P : Program} (a : α) : prun P (pure a : Sem α) = some a := rfl
theorem prun_ite {α : Type} {P : Program} {c : Prop} [Decidable c] (a b : Sem α) : prun P (if c then a else b) = if c then prun P a else prun P b := by split <;> rfl
theorem same_struct {P : Program} {d : Nat} {t : TypeId} {xs : Array Value} {fs : Array Field} (hu : prun P (underlying t) = some (.struct fs)) (hp : P.stoodInHeld t = false)
    (hf : ∀ f ∈ fs.toList, ∃ v, prun P (part f.type xs f.offset) = some v ∧ prun P (Op.equalIn d f.type v v) = some true) :
    prun P (Op.equalIn (d + 1) t (.agg xs) (.agg xs)) = some true := by
  simp only [Op.equalIn, prun_bind, hu, Option.bind_some, show prun P program = some P from rfl, hp, Bool.false_eq_true, if_false]
  rw [← Array.forIn_toList]
  generalize fs.toList = l at hf
  induction l with
  | nil => rfl
  | cons f l ih =>
    obtain ⟨v, h1, h2⟩ := hf f (by simp)
    have ih := ih (fun g hg => hf g (by simp [hg]))
    simp only [List.forIn_cons, prun_bind, prun_ite]
    split
    · simp only [h1, h2, Option.bind_some, Bool.not_true, Bool.false_eq_true, if_false, prun_pure]
      exact ih
    · simp only [prun_pure, Option.bind_some]
      exact ih
theorem same_int {d : Nat} {x : Int} : prun Try.prog (Op.equalIn (d + 1) 3 (iv x) (iv x)) = some true := by
  have h : prun Try.prog (Op.equalIn (d + 1) 3 (iv x) (iv x)) = some (x == x) := by kernel_rfl
  rw [h]; simp
def fldsIn (P : Program) (t : TypeId) : Array Field :=
  match P.underlying t with
  | some (.struct fs) => fs
  | _ => #[]
theorem un24 : prun Try.prog (underlying 24) = some (.struct (fldsIn Try.prog 24)) := by kernel_rfl
theorem fs24 : (fldsIn Try.prog 24).toList.map (fun f => (f.type, f.offset)) = [(3, 0), (3, 1), (3, 2), (3, 3)] := by kernel_rfl
theorem st24 : Program.stoodInHeld Try.prog 24 = false := by kernel_rfl
theorem same24 {d : Nat} {x0 x1 x2 x3 : Int} : prun Try.prog (Op.equalIn (d + 2) 24 (.agg #[iv x0, iv x1, iv x2, iv x3]) (.agg #[iv x0, iv x1, iv x2, iv x3])) = some true := by
  refine same_struct (xs := #[iv x0, iv x1, iv x2, iv x3]) un24 st24 ?_
  intro f hf
  have h : (f.type, f.offset) ∈ [(3, 0), (3, 1), (3, 2), (3, 3)] := by rw [← fs24]; exact List.mem_map.mpr ⟨f, hf, rfl⟩
  simp only [List.mem_cons, List.not_mem_nil, or_false, Prod.mk.injEq] at h
  rcases h with ⟨h1, h2⟩ | ⟨h1, h2⟩ | ⟨h1, h2⟩ | ⟨h1, h2⟩ <;> rw [h1, h2]
  · exact ⟨iv x0, by kernel_rfl, same_int⟩
  · exact ⟨iv x1, by kernel_rfl, same_int⟩
  · exact ⟨iv x2, by kernel_rfl, same_int⟩
  · exact ⟨iv x3, by kernel_rfl, same_int⟩
theorem neq24 {n : Nat} {S : Rg} {d : Option Tmp} {x y : Operand} {p : String} {ty : TypeId} {x0 x1 x2 x3 : Int} (hx : evS S x = some (.agg #[iv x0, iv x1, iv x2, iv x3])) (hy : evS S y = some (.agg #[iv x0, iv x1, iv x2, iv x3])) : pureOp Try.prog (frS n S) ⟨d, .binOp .neq 24 x y 24, ty, p, #[], none⟩ = some (.bool false) := by
  have key : prun Try.prog (do eqGuard .neq 24 x y (.agg #[iv x0, iv x1, iv x2, iv x3]) (.agg #[iv x0, iv x1, iv x2, iv x3]); binOp .neq 24 (.agg #[iv x0, iv x1, iv x2, iv x3]) (.agg #[iv x0, iv x1, iv x2, iv x3])) = some (.bool false) := by
    rw [prun_bind, show prun Try.prog (eqGuard .neq 24 x y (.agg #[iv x0, iv x1, iv x2, iv x3]) (.agg #[iv x0, iv x1, iv x2, iv x3])) = some () from by kernel_rfl, Option.bind_some]
    show prun Try.prog (do pure (Value.bool (!(← Op.equalIn (9998 + 2) 24 (.agg #[iv x0, iv x1, iv x2, iv x3]) (.agg #[iv x0, iv x1, iv x2, iv x3]))))) = _
    rw [prun_bind, same24]; rfl
  unfold pureOp
  simp only [ev_frS, hx, hy]
  rw [show (flat (.agg #[iv x0, iv x1, iv x2, iv x3]) && flat (.agg #[iv x0, iv x1, iv x2, iv x3])) = true from rfl, cond_true, key]
  rfl
/-- does Run answer? -/
def rok (rs : List Mc) (s : Nat → Int) : Bool := pok (mss rs) && wiQ s 1099511627776
theorem rok_t {rs : List Mc} {s : Nat → Int} (h : rok rs s = true) : pok (mss rs) = true ∧ ∀ j, j < 4 → 0 ≤ s j ∧ s j ≤ 1099511627776 := by
  unfold rok at h; rw [Bool.and_eq_true] at h; exact ⟨h.1, wiQ_t h.2⟩
section
variable {kn : FuncId → Option Bool} {lo : Nat} {H : Hp}
set_option maxRecDepth 100000 in
set_option maxHeartbeats 1000000 in
/-- Run, where it answers -/
theorem run17_ok {s : Nat → Int} {sa : Option Addr} {n cap f : Nat} {rs : List Mc} (hr : Mcs H f sa n cap rs) (hm : ∀ r ∈ rs, r.n ≤ 1000000) (hn2 : n ≤ 1000000) (hf : f ≤ H.next) (hlo : lo ≤ H.next) (hok : rok rs s = true) : ∃ a H', FnX Try.prog kn lo 17 [.slice sa n cap, .agg (qc s).toArray] H (.tuple #[slv a 16 16, iv 0]) H' ∧ Keep H H' [] ∧ H.next ≤ a ∧ Sc H' a (cc (rnA (mss rs) s) 16) := by
  have key := fnX_low (kn := kn) (lo := lo) (H := H) (args := [.slice sa n cap, .agg (qc s).toArray]) (Q := fun w H' => ∃ a, w = .tuple #[slv a 16 16, iv 0] ∧ Keep H H' [] ∧ H.next ≤ a ∧ Sc H' a (cc (rnA (mss rs) s) 16)) Try.func17 B17 N17 Z17 L17 (by simp) ?_
  · obtain ⟨w, H', h, a, rfl, q⟩ := key; exact ⟨a, H', h, q⟩
  have hk := Keep.refl H []
  obtain ⟨hp, hS⟩ := rok_t hok
  have hw : wiQ s 1099511627776 = true := wiQ_i hS
  refine wN_seq ?_
  refine wN_box (v := .agg (qc s).toArray) rfl ?_
  intro H1 kH1 nH1 c1
  have c1 : Cl H1 H.next [iv (s 0), iv (s 1), iv (s 2), iv (s 3)] := c1
  have mH1 := kH1.1
  have hk := hk.trans kH1
  have hr := hr.keep kH1 (by simp)
  refine wN_mov (v := .slice none 0 0) rfl ?_
  refine wN_mov (v := iv 0) rfl ?_
  refine wN_end ?_
  refine wN_seq ?_
  refine wN_mov (v := .slice sa n cap) rfl ?_
  obtain ⟨H2, fH2, kH2⟩ := vplant_ok (kn := kn) (lo := lo) (H := H1) hr hm hn2 (by omega) (by omega)
  have mH2 := kH2.1
  have hk := hk.trans kH2
  have hr := hr.keep kH2 (by simp)
  have c1 := kH2.cl c1 (by simp)
  rw [hp] at fH2
  refine wN_callf (vs := [.slice sa n cap]) rfl (callX_args fH2) ?_
  refine wN_pur (v := .bool false) rfl rfl ?_
  refine wN_mov (v := .bool false) rfl ?_
  refine wN_g rfl (wN_lda (b := H.next) (o := 0) rfl c1.rd (show row 4 _ _ = some [iv (s 0), iv (s 1), iv (s 2), iv (s 3)] from rfl) ?_)
  obtain ⟨H3, fH3, kH3⟩ := vstream_ok (kn := kn) (lo := lo) (H := H2) (s := s) (by omega)
  have mH3 := kH3.1
  have hk := hk.trans kH3
  have hr := hr.keep kH3 (by simp)
  have c1 := kH3.cl c1 (by simp)
  rw [show wiQ s 1099511627776 = true from hw] at fH3
  refine wN_g rfl (wN_callf (vs := [.agg (qc s).toArray]) rfl (callX_args fH3) ?_)
  refine wN_g rfl (wN_pur (v := .bool false) rfl rfl ?_)
  refine wN_pur (v := .bool false) rfl rfl ?_
  refine wN_end ?_
  refine condF ?_
  first | refine wN_skip ?_ | skip
  refine wN_seq ?_
  refine wN_mov (v := .slice sa n cap) rfl ?_
  refine wN_lda (b := H.next) (o := 0) rfl c1.rd (show row 4 _ _ = some [iv (s 0), iv (s 1), iv (s 2), iv (s 3)] from rfl) ?_
  obtain ⟨a, H4, fH4, kH4, ha, hal⟩ := run44_ok (kn := kn) (lo := lo) (H := H3) (s := s) hr (by omega) (by omega) hp hS
  refine wN_callf (vs := [.slice sa n cap, .agg (qc s).toArray]) rfl (callX_args fH4) ?_
  have mH4 := kH4.1
  have hk := hk.trans kH4
  have hr := hr.keep kH4 (by simp)
  have c1 := kH4.cl c1 (by simp)
  refine wN_mov (v := .slice (some ⟨a, 0, none⟩) 16 16) rfl ?_
  refine wN_mov (v := iv 0) rfl ?_
  refine wN_end ?_
  exact And.intro trivial (Exists.intro _ (And.intro rfl ⟨_, rfl, hk, by omega, hal⟩))
/-- the document's Same, of the same -/
theorem same23_ok {C : Cs} {a1 a2 : Option Addr} {n c1 c2 m : Nat} (h1 : Sl H a1 n c1 (cc C m)) (h2 : Sl H a2 n c2 (cc C m)) (hnm : n ≤ m) (hn2 : n ≤ 1000000) : ∃ H', FnX Try.prog kn lo 23 [.slice a1 n c1, .slice a2 n c2] H (.bool true) H' ∧ Keep H H' [] := by
  have key := fnX_low (kn := kn) (lo := lo) (H := H) (args := [.slice a1 n c1, .slice a2 n c2]) (Q := fun w H' => w = .bool true ∧ Keep H H' []) Try.func23 B23 N23 Z23 L23 (by simp) ?_
  · obtain ⟨w, H', h, rfl, q⟩ := key; exact ⟨H', h, q⟩
  have hk := Keep.refl H []
  refine wN_seq ?_
  refine wN_mov (v := .bool false) rfl ?_
  refine wN_end ?_
  refine wN_seq ?_
  refine wN_mov (v := .slice a1 n c1) rfl ?_
  refine wN_len (m := n) rfl ?_
  refine wN_mov (v := .slice a2 n c2) rfl ?_
  refine wN_len (m := n) rfl ?_
  refine wN_c_neq (a := (n : Int)) (b := (n : Int)) rfl rfl ?_
  refine wN_end ?_
  refine And.intro (fun q1 => ?_) (fun q1 => ?_)
  · have q1 : (n : Int) ≠ (n : Int) := by simpa using q1
    exfalso; omega
  · have q1 : ¬ ((n : Int) ≠ (n : Int)) := by simpa using q1
    first | refine wN_skip ?_ | skip
    refine wN_seq ?_
    refine wN_mov (v := iv 0) rfl ?_
    refine wN_end ?_
    refine loop_low (fn := Try.f23) E23_1 N23 L23x1 (fun i : Nat => [(0, .slice a1 n c1), (1, .slice a2 n c2), (5, iv (i : Int))])
      (fun k i H' => i + k = n ∧ Keep H H' [] ∧ Sl H' a1 n c1 (cc C m) ∧ Sl H' a2 n c2 (cc C m)) n 0 ⟨by omega, hk, h1, h2⟩ ⟨rfl, rfl, rfl, trivial⟩ ?_
    rintro k i L1 ⟨hik, hk, h1, h2⟩
    refine wN_seq ?_
    refine wN_mov (v := iv (i : Int)) rfl ?_
    refine wN_mov (v := .slice a1 n c1) rfl ?_
    refine wN_len (m := n) rfl ?_
    refine wN_c_lss (a := (i : Int)) (b := (n : Int)) rfl rfl ?_
    refine wN_end ?_
    refine And.intro (fun q2 => ?_) (fun q2 => ?_)
    · have q2 : (i : Int) < (n : Int) := of_decide_eq_true q2
      have hi : i < n := by omega
      rcases id h1 with ⟨_, h0, _⟩ | ⟨b1, e1, r1, _⟩
      · omega
      rcases id h2 with ⟨_, h0, _⟩ | ⟨b2, e2, r2, _⟩
      · omega
      first | refine wN_skip ?_ | skip
      refine wD_seq ?_
      refine wD_mov (v := .slice a1 n c1) rfl ?_
      refine wD_mov (v := iv (i : Int)) rfl ?_
      refine wD_idx (b := b1) (o := 0) (k := i) (j := (i : Int)) (by rw [← e1]; rfl) rfl rfl hi ?_
      refine wD_lda (b := b1) (o := 0 + i * 4) rfl r1 (cc_row (by omega)) ?_
      refine wD_mov (v := .slice a2 n c2) rfl ?_
      refine wD_mov (v := iv (i : Int)) rfl ?_
      refine wD_idx (b := b2) (o := 0) (k := i) (j := (i : Int)) (by rw [← e2]; rfl) rfl rfl hi ?_
      refine wD_lda (b := b2) (o := 0 + i * 4) rfl r2 (cc_row (by omega)) ?_
      refine wD_pur (v := .bool false) rfl (neq24 rfl rfl) ?_
      refine wD_end (by repeat' first | exact True.intro | exact (fun h => h) | refine And.intro ?_ ?_ | (intro h; have h : (_ : Nat) = _ := h; omega)) ?_
      refine condF ?_
      first | refine wN_skip ?_ | skip
      first | refine wN_reg ?_ | refine wN_blk ?_ | refine wN_bseq ?_ | (refine wOps_nil ?_; refine wN_reg ?_)
      refine wN_mov (v := iv (i : Int)) rfl ?_
      refine wN_add (a := (i : Int)) (b := 1) rfl rfl ⟨by omega, by omega⟩ ?_
      refine wN_mov (v := iv ((i : Int) + 1)) rfl ?_
      refine wN_end ?_
      exact ⟨k - 1, i + 1, by omega, ⟨by omega, hk, h1, h2⟩, rfl, rfl, rfl, trivial⟩
    · have q2 : ¬ ((i : Int) < (n : Int)) := of_decide_eq_false q2
      refine wN_seq ?_
      refine wN_mov (v := .bool true) rfl ?_
      refine wN_end ?_
      exact And.intro trivial (Exists.intro _ (And.intro rfl ⟨rfl, hk⟩))
end
end Go.Ax

/-
  Plant: what is in all bins together is what came in; each number goes its way alone (written by program).
-/
namespace Go.Ax
open Go Go.RowKit

end Go.Ax

/-
  Plant: the law PlantKeeps (written by program).
-/
namespace Go.Ax
open Go Go.RowKit Go.Proofs

section
variable {kn : FuncId → Option Bool} {lo : Nat} {H : Hp}
end
end Go.Ax

/-! What 'low' makes of functions of plant (written by program). -/
namespace Go.Ax
open Go Go.RowKit Go.Proofs
end Go.Ax

/-
 Plant: what PlantOwns wants: all outlets (41), Blend's own block (written by program).
-/
namespace Go.Ax
open Go Go.RowKit Go.Proofs

theorem se60 : sliceElem Try.prog 60 = some (59, 5) := by kernel_rfl
theorem se47 : sliceElem Try.prog 47 = some (76, 3) := by kernel_rfl
theorem z76 : zeroOf Try.prog 76 = some (.agg #[iv 0, iv 0, iv 0]) := by kernel_rfl
section
variable {kn : FuncId → Option Bool} {lo : Nat} {H : Hp}
end
end Go.Ax

/-
  Plant: the law PlantMore (written by program).
-/
namespace Go.Ax
open Go Go.RowKit Go.Proofs

/-- a block that append made -/
def Bk73 (H : Hp) (b : Nat) (cs : List Value) : Prop := b < H.next ∧ H.t.get b = some (.cells cs 73 true)
theorem Bk73.rd {H : Hp} {b : Nat} {cs : List Value} (h : Bk73 H b cs) : Rd H b cs := ⟨h.1, by unfold cellsOf; rw [h.2]⟩
theorem Bk73.cl {H : Hp} {b : Nat} {cs : List Value} (h : Bk73 H b cs) : Cl H b cs := ⟨h.1, _, _, h.2⟩
theorem se36 : sliceElem Try.prog 36 = some (73, 5) := by kernel_rfl
theorem z73 : zeroOf Try.prog 73 = some (.agg #[iv 0, iv 0, iv 0, iv 0, iv 0]) := by kernel_rfl
section
variable {kn : FuncId → Option Bool} {lo : Nat} {H : Hp}
end
end Go.Ax

/-
  Plant: the law PlantOwns (written by program).
-/
namespace Go.Ax
open Go Go.RowKit Go.Proofs

section
variable {kn : FuncId → Option Bool} {lo : Nat} {H : Hp}
end
end Go.Ax

/-
  Plant: a pipe ahead of all machines (written by program).
-/
namespace Go.Ax
open Go Go.RowKit

def shO (o : Ou) : Ou := { o with to := if 0 ≤ o.to then o.to + 1 else o.to }
/-- the same rows, those of machines one further -/
def Shf (D C : Cs) : Prop := (∀ r, r < 16 → D r = C r) ∧ ∀ r, 16 ≤ r → D (r + 1) = C r
theorem ix_sh {o : Ou} : (o.to < 0 → ix (shO o).to = ix o.to ∧ ix o.to = (-1 - o.to).toNat) ∧ (0 ≤ o.to → ix (shO o).to = ix o.to + 1 ∧ 16 ≤ ix o.to) := by
  unfold shO ix
  constructor
  · intro h; simp only [if_neg (show ¬ 0 ≤ o.to by omega), if_pos h]; exact ⟨trivial, trivial⟩
  · intro h; simp only [if_pos h, if_neg (show ¬ o.to < 0 by omega), if_neg (show ¬ o.to + 1 < 0 by omega)]; omega
theorem Shf.snd {D C : Cs} (h : Shf D C) {o : Ou} (ho : -16 ≤ o.to) (p : Nat → Int) : Shf (snd D (shO o).to p) (snd C o.to p) := by
  obtain ⟨h1, h2⟩ := h
  rcases Int.lt_or_le o.to 0 with q | q
  · obtain ⟨e1, e2⟩ := ix_sh.1 q
    constructor
    · intro r hr; unfold Go.Ax.snd; rw [e1, h1 r hr]
    · intro r hr; unfold Go.Ax.snd; rw [e1, if_neg (by omega), if_neg (by omega), h2 r hr]
  · obtain ⟨e1, e2⟩ := ix_sh.2 q
    constructor
    · intro r hr; unfold Go.Ax.snd; rw [if_neg (by omega), if_neg (by omega), h1 r hr]
    · intro r hr
      unfold Go.Ax.snd
      rw [e1, h2 r hr]
      by_cases e : r = ix o.to
      · rw [if_pos (by omega), if_pos e]
      · rw [if_neg (by omega), if_neg e]
theorem shO_w (o : Ou) : (shO o).w = o.w := rfl
theorem getD_sh {l : List Ou} {k : Nat} (h : k < l.length) : (l.map shO).getD k Ou.z = shO (l.getD k Ou.z) := by
  rw [List.getD_eq_getElem?_getD, List.getElem?_map, List.getD_eq_getElem?_getD, List.getElem?_eq_getElem h]; rfl
theorem Shf.ws {D C : Cs} (h : Shf D C) {all : Nat → Int} {l : List Ou} (hl : ∀ k, k < l.length → -16 ≤ (l.getD k Ou.z).to) : ∀ k, k ≤ l.length → Shf (ws D all (l.map shO) k).1 (ws C all l k).1 ∧ (ws D all (l.map shO) k).2 = (ws C all l k).2
  | 0, _ => ⟨h, rfl⟩
  | k + 1, hk => by
    obtain ⟨a, b⟩ := Shf.ws h (all := all) hl k (by omega)
    show Shf (Go.Ax.snd (Go.Ax.ws D all (l.map shO) k).1 ((l.map shO).getD k Ou.z).to (shQ all ((l.map shO).getD k Ou.z).w)) (Go.Ax.snd (Go.Ax.ws C all l k).1 (l.getD k Ou.z).to (shQ all (l.getD k Ou.z).w)) ∧ subQ (Go.Ax.ws D all (l.map shO) k).2 (shQ all ((l.map shO).getD k Ou.z).w) = subQ (Go.Ax.ws C all l k).2 (shQ all (l.getD k Ou.z).w)
    rw [getD_sh (by omega), shO_w, b]
    exact ⟨a.snd (hl k (by omega)) _, rfl⟩
theorem Shf.wk {D C : Cs} (h : Shf D C) {i : Nat} {l : List Ou} (hl : ∀ k, k < l.length → -16 ≤ (l.getD k Ou.z).to) (h1 : 1 ≤ l.length) : Shf (wk D (i + 1) (l.map shO)) (wk C i l) := by
  unfold Go.Ax.wk
  rw [List.length_map, show 16 + (i + 1) = (16 + i) + 1 by omega, h.2 (16 + i) (by omega)]
  obtain ⟨a, b⟩ := h.ws (all := C (16 + i)) hl (l.length - 1) (by omega)
  rw [getD_sh (by omega), b]
  exact a.snd (hl _ (by omega)) _
end Go.Ax

/-
  Plant: a list of machines that append makes (written by program).
-/
namespace Go.Ax
open Go Go.RowKit Go.Proofs

/-- what lies below f stays, and all blocks but those that append made of this element type -/
structure KE (t : TypeId) (f : Nat) (H H1 : Hp) : Prop where
  nx : H.next ≤ H1.next
  bl : ∀ b, b < H.next → (b < f ∨ ∀ cs, H.t.get b ≠ some (.cells cs t true)) → H1.t.get b = H.t.get b
  ro : ∀ b cs, b < H1.next → H1.t.get b = some (.ro cs) → b < H.next ∧ H.t.get b = some (.ro cs)
theorem KE.of {t : TypeId} {f : Nat} {H H1 : Hp} (k : Keep H H1 []) : KE t f H H1 := ⟨k.1, fun b hb _ => k.2 b hb (by simp), k.3⟩
theorem KE.trans {t : TypeId} {f : Nat} {H H1 H2 : Hp} (h : KE t f H H1) (k : KE t f H1 H2) : KE t f H H2 :=
  ⟨Nat.le_trans h.nx k.nx, fun b hb q => by
    have e := h.bl b hb q
    rw [← e]
    refine k.bl b (Nat.lt_of_lt_of_le hb h.nx) (q.imp id fun z cs => ?_)
    rw [e]; exact z cs, fun b cs hb hg => by
    obtain ⟨a, c⟩ := k.ro b cs hb hg
    exact h.ro b cs a c⟩
theorem KE.keep {t : TypeId} {f : Nat} {H0 H H1 : Hp} (k : KE t f H H1) (h : Keep H0 H []) (hf : H0.next ≤ f) : Keep H0 H1 [] :=
  ⟨Nat.le_trans h.1 k.nx, fun b hb hn => by rw [k.bl b (Nat.lt_of_lt_of_le hb h.1) (.inl (Nat.lt_of_lt_of_le hb hf)), h.2 b hb hn], fun b cs hb hg => by
    obtain ⟨a, c⟩ := k.ro b cs hb hg
    exact h.3 b cs a c⟩
theorem KE.fy {t : TypeId} {f : Nat} {H H1 : Hp} (k : KE t f H H1) (ht : t ≠ 59) {b : Nat} {cs : List Value} (h : Fy H b cs) : Fy H1 b cs := by
  obtain ⟨h1, h2⟩ := h
  have e : H1.t.get b = H.t.get b := k.bl b h1 (.inr fun cs' q => by
    rcases h2 with z | ⟨e, z⟩ | z
    · rw [z] at q; cases q
    · rw [z] at q; cases q
    · rw [z] at q; cases q; exact ht rfl)
  exact ⟨Nat.lt_of_lt_of_le h1 k.nx, by rw [e]; exact h2⟩
/-- a machine's outlets -/
def Rw1 (H : Hp) (r : Mc) : Prop := Sl H r.ra r.n r.cap (ouc r.l) ∧ r.l.length = r.n ∧ ∀ x, r.ra = some ⟨x, 0, none⟩ → Fy H x (ouc r.l)
theorem Rw1.ke {t : TypeId} {f : Nat} {H H1 : Hp} {r : Mc} (h : Rw1 H r) (k : KE t f H H1) (ht : t ≠ 59) : Rw1 H1 r := by
  obtain ⟨h1, h2, h3⟩ := h
  refine ⟨?_, h2, fun x e => k.fy ht (h3 x e)⟩
  rcases h1 with q | ⟨b, e, _, q⟩
  · exact .inl q
  · exact .inr ⟨b, e, (k.fy ht (h3 b e)).rd, q⟩
/-- a list of machines that buildSlice and append made -/
def Lng (lo f : Nat) (H : Hp) (v : Value) (RS : List Mc) : Prop := ∃ b loc, v = .slice (some ⟨b, 0, none⟩) RS.length RS.length ∧ f ≤ b ∧ lo ≤ b ∧ b < H.next ∧ H.t.get b = some (.cells (mcc RS) 62 loc) ∧ (loc = true → 0 < RS.length) ∧ ∀ r ∈ RS, Rw1 H r
theorem Lng.keep {lo f : Nat} {H H1 : Hp} {v : Value} {RS : List Mc} (h : Lng lo f H v RS) (k : Keep H H1 []) : Lng lo f H1 v RS := by
  obtain ⟨b, loc, e, h1, h2, h3, h4, h5, h6⟩ := h
  exact ⟨b, loc, e, h1, h2, Nat.lt_of_lt_of_le h3 k.1, by rw [k.2 b h3 (by simp)]; exact h4, h5, fun r hr => (h6 r hr).ke (KE.of (t := 62) (f := f) k) (by decide)⟩
theorem mcc_app (a b : List Mc) : mcc (a ++ b) = mcc a ++ mcc b := by unfold mcc; exact List.flatMap_append
theorem mcc_len (l : List Mc) : (mcc l).length = l.length := by
  induction l with
  | nil => rfl
  | cons a l ih =>
    have e : (mcc (a :: l)).length = a.f.length + (mcc l).length := List.length_append ..
    rw [e, ih]; show 1 + l.length = l.length + 1; omega
theorem se22 : sliceElem Try.prog 22 = some (62, 1) := by kernel_rfl
theorem u22 : Try.prog.underlying 22 = some (.slice 62) := by kernel_rfl
theorem z62 : zeroOf Try.prog 62 = some (.agg #[.slice none 0 0]) := by kernel_rfl
/-- one machine more -/
theorem Lng.append {lo f : Nat} {H : Hp} {v : Value} {RS : List Mc} {r : Mc} {a1 : Option Addr} {c1 : Nat} (h : Lng lo f H v RS) (hr : Rw1 H r) (hs : Sl H a1 1 c1 [.slice r.ra r.n r.cap]) (hL : RS.length < 1000) (hlo : lo ≤ H.next) (hf : f ≤ H.next) :
    ∃ v1 H1 kd, (∀ (m : Nat) (S : Rg) (d : Option Tmp) (x y : Operand) (ty : TypeId) (p : String), evS S x = some v → evS S y = some (.slice a1 1 c1) → heapOp Try.prog lo (frS m S) H ⟨d, .call ⟨.builtin .append, #[x, y], #[22, 22]⟩, ty, p, #[], none⟩ = some (.val v1 H1, kd)) ∧ (∀ b, kd ≠ .read b) ∧ Lng lo f H1 v1 (RS ++ [r]) ∧ KE 62 f H H1 := by
  obtain ⟨b, loc, rfl, h1, h2, h3, h4, h5, h6⟩ := h
  have hl : [(Value.slice r.ra r.n r.cap)].length = 1 * 1 := rfl
  have g1 : Nat.ble (RS.length + 1) 1048576 = true := Nat.ble_eq_true_of_le (by omega)
  have g2 : Nat.beq 1 0 = false := rfl
  have el : (RS ++ [r]).length = RS.length + 1 := by simp
  have ec : mcc RS ++ [Value.slice r.ra r.n r.cap] = mcc (RS ++ [r]) := by rw [mcc_app]; rfl
  cases loc with
  | false =>
    have g3 : Nat.ble (RS.length + 1) RS.length = false := by
      cases q : Nat.ble (RS.length + 1) RS.length with
      | false => rfl
      | true => have := Nat.le_of_ble_eq_true q; omega
    have g4 : row (RS.length * 1) (mcc RS) 0 = some (mcc RS) := by
      unfold row
      simp only [List.drop_zero, Nat.mul_one, beq_eq, ← mcc_len RS, List.take_length, decide_true, cond_true]
    have k : Keep H (H.new (.cells (mcc RS ++ [.slice r.ra r.n r.cap]) 62 true)) [] := (new_facts rfl).1
    refine ⟨.slice (some ⟨H.next, 0, none⟩) (RS.length + 1) (RS.length + 1), _, .heavy, ?_, (fun b e => by cases e), ⟨H.next, true, by rw [el], hf, hlo, (new_facts rfl).2.2.1, by rw [new_get rfl, ec], fun _ => by rw [el]; omega, fun q hq => ?_⟩, KE.of k⟩
    · intro m S d x y ty p hx hy
      unfold heapOp
      simp only [evs, ev_frS, hx, hy, builtinV, List.getElem?_toArray, List.getElem?_cons_zero, List.getElem?_cons_succ, se22, u22, src_of hs hl, appendV, h4, g1, g2, g3, g4, cond_true, cond_false]
    · rcases List.mem_append.1 hq with z | z
      · exact (h6 q z).ke (KE.of (t := 62) (f := f) k) (by decide)
      · rw [List.mem_singleton] at z; subst z; exact hr.ke (KE.of (t := 62) (f := f) k) (by decide)
  | true =>
    obtain ⟨H1, kd, e, d, ac, k⟩ := heap_append_big (P := Try.prog) (lo := lo) (f := f) (t1 := 22) se22 u22 hs rfl (by rw [mcc_len, Nat.mul_one]) (show RS.length < 1000000 by omega) (.inr ⟨b, rfl, h5 rfl, h1, h2, h3, h4⟩) hlo hf
    have ke : KE 62 f H H1 := by
      refine ⟨k.1, fun c hc q => k.2 c hc fun hm => ?_, k.3⟩
      simp [bkv] at hm
      subst hm
      rcases q with q | q
      · omega
      · exact q _ h4
    rcases ac with ⟨q, _⟩ | ⟨b2, e2, q1, q2, q3, q4, q5⟩
    · omega
    · refine ⟨_, H1, kd, e, d, ⟨b2, true, ?_, q2, q3, q4, by rw [q5, ec], fun _ => by rw [el]; omega, fun q hq => ?_⟩, ke⟩
      · rw [el]; exact e2
      · rcases List.mem_append.1 hq with z | z
        · exact (h6 q z).ke ke (by decide)
        · rw [List.mem_singleton] at z; subst z; exact hr.ke ke (by decide)
end Go.Ax

/-
  Plant: the law PlantSplits (written by program).
-/
namespace Go.Ax
open Go Go.RowKit Go.Proofs

theorem Sc.fy {H : Hp} {b : Nat} {cs : List Value} (h : Sc H b cs) : Fy H b cs := ⟨h.1, .inr (.inl h.2)⟩
theorem Acc.own {lo f : Nat} {H : Hp} {v : Value} {k : Nat} {cs : List Value} (h : Acc lo f 59 H v k cs) : ∃ a c, v = .slice a k c ∧ Sl H a k c cs ∧ ∀ x, a = some ⟨x, 0, none⟩ → Fy H x cs := by
  rcases h with ⟨rfl, rfl, rfl⟩ | ⟨b, rfl, h0, hf, hl, hn, hg⟩
  · exact ⟨none, 0, rfl, .inl ⟨.inl rfl, rfl, rfl, rfl⟩, fun x e => by cases e⟩
  · exact ⟨_, _, rfl, .inr ⟨b, rfl, ⟨hn, by unfold cellsOf; rw [hg]⟩, Nat.le_refl _⟩, fun x e => by cases e; exact ⟨hn, .inr (.inr hg)⟩⟩
theorem z59 : zeroOf Try.prog 59 = some (.agg #[iv 0, iv 0, iv 0, iv 0, iv 0]) := by kernel_rfl
section
variable {kn : FuncId → Option Bool} {lo : Nat} {H : Hp}
end
end Go.Ax

/-
  Plant: PlantNames: its numbers (written by program).
-/
namespace Go.Ax
open Go Go.RowKit Go.Proofs

def msN : List Mc := [⟨none, 2, 2, [⟨1, 950, 980, 980, 990⟩, ⟨-1, 0, 0, 0, 0⟩]⟩, ⟨none, 2, 2, [⟨2, 800, 900, 850, 950⟩, ⟨-2, 0, 0, 0, 0⟩]⟩, ⟨none, 2, 2, [⟨-3, 300, 1000, 1000, 1000⟩, ⟨-4, 0, 0, 0, 0⟩]⟩]
def sN : Nat → Int := q4 100000 4500 2000 7000
def lN : List Fz := [⟨0, 5, 300⟩, ⟨0, 2, 200⟩, ⟨4, 7, 250⟩]
def tN : List Tn := [⟨10, 5000, 200, 700, 10⟩, ⟨8, 5200, 260, 500, 7⟩, ⟨5, 4800, 120, 900, 15⟩]
def rN' : Rc := ⟨10, 4900, 5100, 190, 217, 600, 800⟩
theorem runN : rok msN sN = true := by kernel_rfl
theorem binsN : cc (rnA (mss msN) sN) 16 = [iv 5000, iv 90, iv 40, iv 70, iv 19000, iv 441, iv 294, iv 347, iv 22800, iv 3969, iv 1666, iv 6583, iv 53200, iv 0, iv 0, iv 0] ++ List.replicate 48 (iv 0) := by kernel_rfl
theorem evN : evE (q4 76000 3969 0 0) 5000 = (68062, 0) := by kernel_rfl
theorem blN1 : blE tN rN' = 0 := by kernel_rfl
theorem blN2 : nf (blB tN rN') 3 = [iv 5, iv 4, iv 1] := by kernel_rfl
theorem blN3 : blC tN rN' = 93 := by kernel_rfl
theorem frN : frzE lN 100 = 0 := by kernel_rfl
theorem frN2 : nf (DN lN 100) 3 = [iv 5, iv 2, iv 8] := by kernel_rfl
theorem frM : frzE lN 90 = 0 := by kernel_rfl
theorem frM2 : nf (DN lN 90) 3 = [iv 6, iv 3, iv 9] := by kernel_rfl
end Go.Ax

/-! What 'low' makes of functions of plant (written by program). -/
namespace Go.Ax
open Go Go.RowKit Go.Proofs
theorem N6 : Try.f6.ntmps = 87 := by kernel_rfl
theorem Z6 : Try.f6.results.toList = ((List.toArray [(.tmp 0)]) : Array ResultVar).toList := by kernel_rfl
theorem B6 : Try.f6.body = some (at_ Try.f6 []) := by kernel_rfl
noncomputable def R6 : RC := (.seq (.reg [⟨(some 0), none, (.mov (.const (.bool false)))⟩])
  (.seq (.reg [⟨(some 16), none, (.call ⟨(.value (.func 32)), (List.toArray []), (List.toArray [])⟩ true)⟩, ⟨(some 17), none, (.pur ⟨(some 17), (.build 24 (List.toArray [(0, (.const (.int .i64 100000))), (1, (.const (.int .i64 4500))), (2, (.const (.int .i64 2000))), (3, (.const (.int .i64 7000)))])), 24, "", (List.toArray []), none⟩)⟩, ⟨(some 18), none, (.call ⟨(.value (.func 17)), (List.toArray [(.tmp 16), (.tmp 17)]), (List.toArray [22, 24])⟩ true)⟩, ⟨(some 15), none, (.mov (.tmp 18))⟩, ⟨(some 19), none, (.pur ⟨(some 19), (.extract (.tmp 15) 0), 27, "", (List.toArray []), none⟩)⟩, ⟨(some 20), none, (.pur ⟨(some 20), (.extract (.tmp 15) 1), 28, "", (List.toArray []), none⟩)⟩, ⟨(some 1), none, (.mov (.tmp 19))⟩, ⟨(some 2), none, (.mov (.tmp 20))⟩])
  (.seq (.reg [⟨(some 3), none, (.alc 53 [(.int .i64 0), (.int .i64 0), (.int .i64 0), (.int .i64 0), (.int .i64 0), (.int .i64 0), (.int .i64 0), (.int .i64 0), (.int .i64 0), (.int .i64 0), (.int .i64 0), (.int .i64 0), (.int .i64 0), (.int .i64 0), (.int .i64 0), (.int .i64 0), (.int .i64 0), (.int .i64 0), (.int .i64 0), (.int .i64 0), (.int .i64 0), (.int .i64 0), (.int .i64 0), (.int .i64 0), (.int .i64 0), (.int .i64 0), (.int .i64 0), (.int .i64 0), (.int .i64 0), (.int .i64 0), (.int .i64 0), (.int .i64 0), (.int .i64 0), (.int .i64 0), (.int .i64 0), (.int .i64 0), (.int .i64 0), (.int .i64 0), (.int .i64 0), (.int .i64 0), (.int .i64 0), (.int .i64 0), (.int .i64 0), (.int .i64 0), (.int .i64 0), (.int .i64 0), (.int .i64 0), (.int .i64 0), (.int .i64 0), (.int .i64 0), (.int .i64 0), (.int .i64 0), (.int .i64 0), (.int .i64 0), (.int .i64 0), (.int .i64 0), (.int .i64 0), (.int .i64 0), (.int .i64 0), (.int .i64 0), (.int .i64 0), (.int .i64 0), (.int .i64 0), (.int .i64 0)])⟩])
  (.seq (.reg [⟨(some 21), none, (.mem ⟨(some 21), (.slice 53 (.tmp 3) none none none), 27, "", (List.toArray []), none⟩)⟩, ⟨(some 22), none, (.pur ⟨(some 22), (.build 24 (List.toArray [(0, (.const (.int .i64 5000))), (1, (.const (.int .i64 90))), (2, (.const (.int .i64 40))), (3, (.const (.int .i64 70)))])), 24, "", (List.toArray []), none⟩)⟩, ⟨(some 23), none, (.pur ⟨(some 23), (.build 24 (List.toArray [(0, (.const (.int .i64 19000))), (1, (.const (.int .i64 441))), (2, (.const (.int .i64 294))), (3, (.const (.int .i64 347)))])), 24, "", (List.toArray []), none⟩)⟩, ⟨(some 24), none, (.pur ⟨(some 24), (.build 24 (List.toArray [(0, (.const (.int .i64 22800))), (1, (.const (.int .i64 3969))), (2, (.const (.int .i64 1666))), (3, (.const (.int .i64 6583)))])), 24, "", (List.toArray []), none⟩)⟩, ⟨(some 25), none, (.pur ⟨(some 25), (.build 24 (List.toArray [(0, (.const (.int .i64 53200)))])), 24, "", (List.toArray []), none⟩)⟩, ⟨(some 26), none, (.mem ⟨(some 26), (.buildSlice 27 4 (List.toArray [(0, (.tmp 22)), (1, (.tmp 23)), (2, (.tmp 24)), (3, (.tmp 25))])), 27, "", (List.toArray []), none⟩)⟩, ⟨(some 27), none, (.mem ⟨(some 27), (.call ⟨(.builtin .copy), (List.toArray [(.tmp 21), (.tmp 26)]), (List.toArray [27, 27])⟩), 3, "", (List.toArray []), none⟩)⟩])
  (.seq (.reg [⟨(some 29), none, (.pur ⟨(some 29), (.build 24 (List.toArray [(0, (.const (.int .i64 76000))), (1, (.const (.int .i64 3969)))])), 24, "", (List.toArray []), none⟩)⟩, ⟨(some 30), none, (.call ⟨(.value (.func 19)), (List.toArray [(.tmp 29), (.const (.int .i64 5000))]), (List.toArray [24, 3])⟩ true)⟩, ⟨(some 28), none, (.mov (.tmp 30))⟩, ⟨(some 31), none, (.pur ⟨(some 31), (.extract (.tmp 28) 0), 3, "", (List.toArray []), none⟩)⟩, ⟨(some 32), none, (.pur ⟨(some 32), (.extract (.tmp 28) 1), 28, "", (List.toArray []), none⟩)⟩, ⟨(some 4), none, (.mov (.tmp 31))⟩, ⟨(some 5), none, (.mov (.tmp 32))⟩])
  (.seq (.reg [⟨(some 34), none, (.call ⟨(.value (.func 33)), (List.toArray []), (List.toArray [])⟩ true)⟩, ⟨(some 33), none, (.mov (.tmp 34))⟩, ⟨(some 35), none, (.pur ⟨(some 35), (.extract (.tmp 33) 0), 36, "", (List.toArray []), none⟩)⟩, ⟨(some 36), none, (.pur ⟨(some 36), (.extract (.tmp 33) 1), 40, "", (List.toArray []), none⟩)⟩, ⟨(some 7), none, (.alc 40 [(.int .i64 0), (.int .i64 0), (.int .i64 0), (.int .i64 0), (.int .i64 0), (.int .i64 0), (.int .i64 0)])⟩, ⟨(some 6), none, (.mov (.tmp 35))⟩, ⟨none, none, (.sta (.tmp 7) (.tmp 36) 7)⟩])
  (.seq (.reg [⟨(some 37), none, (.addo (.tmp 7) 3)⟩, ⟨(some 38), none, (.addo (.tmp 37) 1)⟩, ⟨none, none, (.st (.tmp 38) (.const (.int .i64 217)))⟩])
  (.seq (.reg [⟨(some 40), none, (.mov (.tmp 6))⟩, ⟨(some 41), none, (.lda (.tmp 7) 7)⟩, ⟨(some 42), none, (.call ⟨(.value (.func 25)), (List.toArray [(.tmp 40), (.tmp 41)]), (List.toArray [36, 40])⟩ true)⟩, ⟨(some 39), none, (.mov (.tmp 42))⟩, ⟨(some 43), none, (.pur ⟨(some 43), (.extract (.tmp 39) 0), 42, "", (List.toArray []), none⟩)⟩, ⟨(some 44), none, (.pur ⟨(some 44), (.extract (.tmp 39) 1), 3, "", (List.toArray []), none⟩)⟩, ⟨(some 45), none, (.pur ⟨(some 45), (.extract (.tmp 39) 2), 28, "", (List.toArray []), none⟩)⟩, ⟨(some 8), none, (.mov (.tmp 43))⟩, ⟨(some 9), none, (.mov (.tmp 44))⟩, ⟨(some 10), none, (.mov (.tmp 45))⟩])
  (.seq (.reg [⟨(some 47), none, (.call ⟨(.value (.func 34)), (List.toArray []), (List.toArray [])⟩ true)⟩, ⟨(some 48), none, (.call ⟨(.value (.func 28)), (List.toArray [(.tmp 47), (.const (.int .i64 100))]), (List.toArray [47, 3])⟩ true)⟩, ⟨(some 46), none, (.mov (.tmp 48))⟩, ⟨(some 49), none, (.pur ⟨(some 49), (.extract (.tmp 46) 0), 42, "", (List.toArray []), none⟩)⟩, ⟨(some 50), none, (.pur ⟨(some 50), (.extract (.tmp 46) 1), 28, "", (List.toArray []), none⟩)⟩, ⟨(some 11), none, (.mov (.tmp 49))⟩, ⟨(some 12), none, (.mov (.tmp 50))⟩])
  (.seq (.reg [⟨(some 52), none, (.call ⟨(.value (.func 34)), (List.toArray []), (List.toArray [])⟩ true)⟩, ⟨(some 53), none, (.call ⟨(.value (.func 28)), (List.toArray [(.tmp 52), (.const (.int .i64 90))]), (List.toArray [47, 3])⟩ true)⟩, ⟨(some 51), none, (.mov (.tmp 53))⟩, ⟨(some 54), none, (.pur ⟨(some 54), (.extract (.tmp 51) 0), 42, "", (List.toArray []), none⟩)⟩, ⟨(some 55), none, (.pur ⟨(some 55), (.extract (.tmp 51) 1), 28, "", (List.toArray []), none⟩)⟩, ⟨(some 13), none, (.mov (.tmp 54))⟩, ⟨(some 14), none, (.mov (.tmp 55))⟩])
  (.seq (.reg [⟨(some 56), none, (.mov (.const (.bool true)))⟩, ⟨(some 57), (some (56, true)), (.call ⟨(.value (.func 16)), (List.toArray []), (List.toArray [])⟩ true)⟩, ⟨(some 58), none, (.pur ⟨(some 58), (.pick (.tmp 56) (.tmp 57) (.const (.bool false))), 4, "", (List.toArray []), none⟩)⟩, ⟨(some 59), none, (.mov (.tmp 58))⟩, ⟨(some 60), (some (59, true)), (.mov (.tmp 1))⟩, ⟨(some 61), (some (59, true)), (.mem ⟨(some 61), (.slice 53 (.tmp 3) none none none), 27, "", (List.toArray []), none⟩)⟩, ⟨(some 62), (some (59, true)), (.call ⟨(.value (.func 23)), (List.toArray [(.tmp 60), (.tmp 61)]), (List.toArray [27, 27])⟩ true)⟩, ⟨(some 63), none, (.pur ⟨(some 63), (.pick (.tmp 59) (.tmp 62) (.const (.bool false))), 4, "", (List.toArray []), none⟩)⟩, ⟨(some 64), none, (.mov (.tmp 63))⟩, ⟨(some 65), (some (64, true)), (.mov (.tmp 4))⟩, ⟨(some 66), (some (64, true)), (.cmpb .eql (.tmp 65) (.const (.int .i64 68062)))⟩, ⟨(some 67), none, (.pur ⟨(some 67), (.pick (.tmp 64) (.tmp 66) (.const (.bool false))), 4, "", (List.toArray []), none⟩)⟩, ⟨(some 68), none, (.mov (.tmp 67))⟩, ⟨(some 69), (some (68, true)), (.mov (.tmp 8))⟩, ⟨(some 70), (some (68, true)), (.mem ⟨(some 70), (.buildSlice 42 3 (List.toArray [(0, (.const (.int .i64 5))), (1, (.const (.int .i64 4))), (2, (.const (.int .i64 1)))])), 42, "", (List.toArray []), none⟩)⟩, ⟨(some 71), (some (68, true)), (.call ⟨(.value (.func 27)), (List.toArray [(.tmp 69), (.tmp 70)]), (List.toArray [42, 42])⟩ true)⟩, ⟨(some 72), none, (.pur ⟨(some 72), (.pick (.tmp 68) (.tmp 71) (.const (.bool false))), 4, "", (List.toArray []), none⟩)⟩, ⟨(some 73), none, (.mov (.tmp 72))⟩, ⟨(some 74), (some (73, true)), (.mov (.tmp 9))⟩, ⟨(some 75), (some (73, true)), (.cmpb .eql (.tmp 74) (.const (.int .i64 93)))⟩, ⟨(some 76), none, (.pur ⟨(some 76), (.pick (.tmp 73) (.tmp 75) (.const (.bool false))), 4, "", (List.toArray []), none⟩)⟩, ⟨(some 77), none, (.mov (.tmp 76))⟩, ⟨(some 78), (some (77, true)), (.mov (.tmp 11))⟩, ⟨(some 79), (some (77, true)), (.mem ⟨(some 79), (.buildSlice 42 3 (List.toArray [(0, (.const (.int .i64 5))), (1, (.const (.int .i64 2))), (2, (.const (.int .i64 8)))])), 42, "", (List.toArray []), none⟩)⟩, ⟨(some 80), (some (77, true)), (.call ⟨(.value (.func 27)), (List.toArray [(.tmp 78), (.tmp 79)]), (List.toArray [42, 42])⟩ true)⟩, ⟨(some 81), none, (.pur ⟨(some 81), (.pick (.tmp 77) (.tmp 80) (.const (.bool false))), 4, "", (List.toArray []), none⟩)⟩, ⟨(some 82), none, (.mov (.tmp 81))⟩, ⟨(some 83), (some (82, true)), (.mov (.tmp 13))⟩, ⟨(some 84), (some (82, true)), (.mem ⟨(some 84), (.buildSlice 42 3 (List.toArray [(0, (.const (.int .i64 6))), (1, (.const (.int .i64 3))), (2, (.const (.int .i64 9)))])), 42, "", (List.toArray []), none⟩)⟩, ⟨(some 85), (some (82, true)), (.call ⟨(.value (.func 27)), (List.toArray [(.tmp 83), (.tmp 84)]), (List.toArray [42, 42])⟩ true)⟩, ⟨(some 86), none, (.pur ⟨(some 86), (.pick (.tmp 82) (.tmp 85) (.const (.bool false))), 4, "", (List.toArray []), none⟩)⟩, ⟨(some 0), none, (.mov (.tmp 86))⟩])
  .ret)))))))))))
theorem L6 : low Try.prog Try.f6.ntmps (at_ Try.f6 []) = some R6 := by kernel_rfl
theorem N32 : Try.f32.ntmps = 14 := by kernel_rfl
theorem Z32 : Try.f32.results.toList = ((List.toArray [(.tmp 0)]) : Array ResultVar).toList := by kernel_rfl
theorem B32 : Try.f32.body = some (at_ Try.f32 []) := by kernel_rfl
noncomputable def R32 : RC := (.seq (.reg [⟨(some 0), none, (.mov (.const (.slice none 0 0)))⟩])
  (.seq (.reg [⟨(some 1), none, (.pur ⟨(some 1), (.build 59 (List.toArray [(0, (.const (.int .i64 1))), (1, (.const (.int .i64 950))), (2, (.const (.int .i64 980))), (3, (.const (.int .i64 980))), (4, (.const (.int .i64 990)))])), 59, "", (List.toArray []), none⟩)⟩, ⟨(some 2), none, (.pur ⟨(some 2), (.build 59 (List.toArray [(0, (.const (.int .i64 (-1))))])), 59, "", (List.toArray []), none⟩)⟩, ⟨(some 3), none, (.mem ⟨(some 3), (.buildSlice 60 2 (List.toArray [(0, (.tmp 1)), (1, (.tmp 2))])), 60, "", (List.toArray []), none⟩)⟩, ⟨(some 4), none, (.pur ⟨(some 4), (.build 62 (List.toArray [(0, (.tmp 3))])), 62, "", (List.toArray []), none⟩)⟩, ⟨(some 5), none, (.pur ⟨(some 5), (.build 59 (List.toArray [(0, (.const (.int .i64 2))), (1, (.const (.int .i64 800))), (2, (.const (.int .i64 900))), (3, (.const (.int .i64 850))), (4, (.const (.int .i64 950)))])), 59, "", (List.toArray []), none⟩)⟩, ⟨(some 6), none, (.pur ⟨(some 6), (.build 59 (List.toArray [(0, (.const (.int .i64 (-2))))])), 59, "", (List.toArray []), none⟩)⟩, ⟨(some 7), none, (.mem ⟨(some 7), (.buildSlice 60 2 (List.toArray [(0, (.tmp 5)), (1, (.tmp 6))])), 60, "", (List.toArray []), none⟩)⟩, ⟨(some 8), none, (.pur ⟨(some 8), (.build 62 (List.toArray [(0, (.tmp 7))])), 62, "", (List.toArray []), none⟩)⟩, ⟨(some 9), none, (.pur ⟨(some 9), (.build 59 (List.toArray [(0, (.const (.int .i64 (-3)))), (1, (.const (.int .i64 300))), (2, (.const (.int .i64 1000))), (3, (.const (.int .i64 1000))), (4, (.const (.int .i64 1000)))])), 59, "", (List.toArray []), none⟩)⟩, ⟨(some 10), none, (.pur ⟨(some 10), (.build 59 (List.toArray [(0, (.const (.int .i64 (-4))))])), 59, "", (List.toArray []), none⟩)⟩, ⟨(some 11), none, (.mem ⟨(some 11), (.buildSlice 60 2 (List.toArray [(0, (.tmp 9)), (1, (.tmp 10))])), 60, "", (List.toArray []), none⟩)⟩, ⟨(some 12), none, (.pur ⟨(some 12), (.build 62 (List.toArray [(0, (.tmp 11))])), 62, "", (List.toArray []), none⟩)⟩, ⟨(some 13), none, (.mem ⟨(some 13), (.buildSlice 22 3 (List.toArray [(0, (.tmp 4)), (1, (.tmp 8)), (2, (.tmp 12))])), 22, "", (List.toArray []), none⟩)⟩, ⟨(some 0), none, (.mov (.tmp 13))⟩])
  .ret))
theorem L32 : low Try.prog Try.f32.ntmps (at_ Try.f32 []) = some R32 := by kernel_rfl
theorem N33 : Try.f33.ntmps = 12 := by kernel_rfl
theorem Z33 : Try.f33.results.toList = ((List.toArray [(.tmp 0), (.cell 1 40)]) : Array ResultVar).toList := by kernel_rfl
theorem B33 : Try.f33.body = some (at_ Try.f33 []) := by kernel_rfl
noncomputable def R33 : RC := (.seq (.reg [⟨(some 0), none, (.mov (.const (.slice none 0 0)))⟩, ⟨(some 1), none, (.alc 40 [(.int .i64 0), (.int .i64 0), (.int .i64 0), (.int .i64 0), (.int .i64 0), (.int .i64 0), (.int .i64 0)])⟩])
  (.seq (.reg [⟨(some 3), none, (.pur ⟨(some 3), (.build 73 (List.toArray [(0, (.const (.int .i64 10))), (1, (.const (.int .i64 5000))), (2, (.const (.int .i64 200))), (3, (.const (.int .i64 700))), (4, (.const (.int .i64 10)))])), 73, "", (List.toArray []), none⟩)⟩, ⟨(some 4), none, (.pur ⟨(some 4), (.build 73 (List.toArray [(0, (.const (.int .i64 8))), (1, (.const (.int .i64 5200))), (2, (.const (.int .i64 260))), (3, (.const (.int .i64 500))), (4, (.const (.int .i64 7)))])), 73, "", (List.toArray []), none⟩)⟩, ⟨(some 5), none, (.pur ⟨(some 5), (.build 73 (List.toArray [(0, (.const (.int .i64 5))), (1, (.const (.int .i64 4800))), (2, (.const (.int .i64 120))), (3, (.const (.int .i64 900))), (4, (.const (.int .i64 15)))])), 73, "", (List.toArray []), none⟩)⟩, ⟨(some 6), none, (.mem ⟨(some 6), (.buildSlice 36 3 (List.toArray [(0, (.tmp 3)), (1, (.tmp 4)), (2, (.tmp 5))])), 36, "", (List.toArray []), none⟩)⟩, ⟨(some 2), none, (.mov (.tmp 6))⟩])
  (.seq (.reg [⟨(some 7), none, (.mov (.tmp 2))⟩, ⟨(some 8), none, (.pur ⟨(some 8), (.build 38 (List.toArray [(0, (.const (.int .i64 4900))), (1, (.const (.int .i64 5100)))])), 38, "", (List.toArray []), none⟩)⟩, ⟨(some 9), none, (.pur ⟨(some 9), (.build 38 (List.toArray [(0, (.const (.int .i64 190))), (1, (.const (.int .i64 220)))])), 38, "", (List.toArray []), none⟩)⟩, ⟨(some 10), none, (.pur ⟨(some 10), (.build 38 (List.toArray [(0, (.const (.int .i64 600))), (1, (.const (.int .i64 800)))])), 38, "", (List.toArray []), none⟩)⟩, ⟨(some 11), none, (.pur ⟨(some 11), (.build 40 (List.toArray [(0, (.const (.int .i64 10))), (1, (.tmp 8)), (2, (.tmp 9)), (3, (.tmp 10))])), 40, "", (List.toArray []), none⟩)⟩, ⟨(some 0), none, (.mov (.tmp 7))⟩, ⟨none, none, (.sta (.tmp 1) (.tmp 11) 7)⟩])
  .ret)))
theorem L33 : low Try.prog Try.f33.ntmps (at_ Try.f33 []) = some R33 := by kernel_rfl
theorem N34 : Try.f34.ntmps = 5 := by kernel_rfl
theorem Z34 : Try.f34.results.toList = ((List.toArray [(.tmp 0)]) : Array ResultVar).toList := by kernel_rfl
theorem B34 : Try.f34.body = some (at_ Try.f34 []) := by kernel_rfl
noncomputable def R34 : RC := (.seq (.reg [⟨(some 0), none, (.mov (.const (.slice none 0 0)))⟩])
  (.seq (.reg [⟨(some 1), none, (.pur ⟨(some 1), (.build 76 (List.toArray [(1, (.const (.int .i64 5))), (2, (.const (.int .i64 300)))])), 76, "", (List.toArray []), none⟩)⟩, ⟨(some 2), none, (.pur ⟨(some 2), (.build 76 (List.toArray [(1, (.const (.int .i64 2))), (2, (.const (.int .i64 200)))])), 76, "", (List.toArray []), none⟩)⟩, ⟨(some 3), none, (.pur ⟨(some 3), (.build 76 (List.toArray [(0, (.const (.int .i64 4))), (1, (.const (.int .i64 7))), (2, (.const (.int .i64 250)))])), 76, "", (List.toArray []), none⟩)⟩, ⟨(some 4), none, (.mem ⟨(some 4), (.buildSlice 47 3 (List.toArray [(0, (.tmp 1)), (1, (.tmp 2)), (2, (.tmp 3))])), 47, "", (List.toArray []), none⟩)⟩, ⟨(some 0), none, (.mov (.tmp 4))⟩])
  .ret))
theorem L34 : low Try.prog Try.f34.ntmps (at_ Try.f34 []) = some R34 := by kernel_rfl
end Go.Ax

/-
  Plant: the law PlantNames (written by program).
-/
namespace Go.Ax
open Go Go.RowKit Go.Proofs

theorem lit60 {lo n : Nat} {S : Rg} {H : Hp} {d : Option Tmp} {ty : TypeId} {p : String} {x0 x1 : Operand} {v0 v1 : Ou} (h0 : evS S x0 = some (.agg (Ou.f v0).toArray)) (h1 : evS S x1 = some (.agg (Ou.f v1).toArray)) :
    heapOp Try.prog lo (frS n S) H ⟨d, .buildSlice 60 2 #[(0, x0), (1, x1)], ty, p, #[], none⟩ = some (.val (.slice (some ⟨H.next, 0, none⟩) 2 2) (H.new (.cells (Ou.f v0 ++ Ou.f v1) 59 false)), .heavy) := by
  unfold heapOp
  simp only [partsOf, ev_frS, h0, h1, se60, z59]
  rfl
theorem lit22 {lo n : Nat} {S : Rg} {H : Hp} {d : Option Tmp} {ty : TypeId} {p : String} {x0 x1 x2 : Operand} {v0 v1 v2 : Mc} (h0 : evS S x0 = some (.agg (Mc.f v0).toArray)) (h1 : evS S x1 = some (.agg (Mc.f v1).toArray)) (h2 : evS S x2 = some (.agg (Mc.f v2).toArray)) :
    heapOp Try.prog lo (frS n S) H ⟨d, .buildSlice 22 3 #[(0, x0), (1, x1), (2, x2)], ty, p, #[], none⟩ = some (.val (.slice (some ⟨H.next, 0, none⟩) 3 3) (H.new (.cells (Mc.f v0 ++ Mc.f v1 ++ Mc.f v2) 62 false)), .heavy) := by
  unfold heapOp
  simp only [partsOf, ev_frS, h0, h1, h2, se22, z62]
  rfl
theorem lit36 {lo n : Nat} {S : Rg} {H : Hp} {d : Option Tmp} {ty : TypeId} {p : String} {x0 x1 x2 : Operand} {v0 v1 v2 : Tn} (h0 : evS S x0 = some (.agg (Tn.f v0).toArray)) (h1 : evS S x1 = some (.agg (Tn.f v1).toArray)) (h2 : evS S x2 = some (.agg (Tn.f v2).toArray)) :
    heapOp Try.prog lo (frS n S) H ⟨d, .buildSlice 36 3 #[(0, x0), (1, x1), (2, x2)], ty, p, #[], none⟩ = some (.val (.slice (some ⟨H.next, 0, none⟩) 3 3) (H.new (.cells (Tn.f v0 ++ Tn.f v1 ++ Tn.f v2) 73 false)), .heavy) := by
  unfold heapOp
  simp only [partsOf, ev_frS, h0, h1, h2, se36, z73]
  rfl
theorem lit47 {lo n : Nat} {S : Rg} {H : Hp} {d : Option Tmp} {ty : TypeId} {p : String} {x0 x1 x2 : Operand} {v0 v1 v2 : Fz} (h0 : evS S x0 = some (.agg (Fz.f v0).toArray)) (h1 : evS S x1 = some (.agg (Fz.f v1).toArray)) (h2 : evS S x2 = some (.agg (Fz.f v2).toArray)) :
    heapOp Try.prog lo (frS n S) H ⟨d, .buildSlice 47 3 #[(0, x0), (1, x1), (2, x2)], ty, p, #[], none⟩ = some (.val (.slice (some ⟨H.next, 0, none⟩) 3 3) (H.new (.cells (Fz.f v0 ++ Fz.f v1 ++ Fz.f v2) 76 false)), .heavy) := by
  unfold heapOp
  simp only [partsOf, ev_frS, h0, h1, h2, se47, z76]
  rfl
theorem lit27 {lo n : Nat} {S : Rg} {H : Hp} {d : Option Tmp} {ty : TypeId} {p : String} {x0 x1 x2 x3 : Operand} {v0 v1 v2 v3 : Nat → Int} (h0 : evS S x0 = some (.agg (qc v0).toArray)) (h1 : evS S x1 = some (.agg (qc v1).toArray)) (h2 : evS S x2 = some (.agg (qc v2).toArray)) (h3 : evS S x3 = some (.agg (qc v3).toArray)) :
    heapOp Try.prog lo (frS n S) H ⟨d, .buildSlice 27 4 #[(0, x0), (1, x1), (2, x2), (3, x3)], ty, p, #[], none⟩ = some (.val (.slice (some ⟨H.next, 0, none⟩) 4 4) (H.new (.cells (qc v0 ++ qc v1 ++ qc v2 ++ qc v3) 24 false)), .heavy) := by
  unfold heapOp
  simp only [partsOf, ev_frS, h0, h1, h2, h3, se27, z24]
  rfl
theorem lit42 {lo n : Nat} {S : Rg} {H : Hp} {d : Option Tmp} {ty : TypeId} {p : String} {x0 x1 x2 : Operand} {v0 v1 v2 : Int} (h0 : evS S x0 = some (iv v0)) (h1 : evS S x1 = some (iv v1)) (h2 : evS S x2 = some (iv v2)) :
    heapOp Try.prog lo (frS n S) H ⟨d, .buildSlice 42 3 #[(0, x0), (1, x1), (2, x2)], ty, p, #[], none⟩ = some (.val (.slice (some ⟨H.next, 0, none⟩) 3 3) (H.new (.cells ([iv v0, iv v1, iv v2]) 3 false)), .heavy) := by
  unfold heapOp
  simp only [partsOf, ev_frS, h0, h1, h2, se42, z3]
  rfl
theorem res_tc {P : Program} {S : Rg} {H : Hp} {t a : Tmp} {ty : TypeId} {v : Value} {vs : List Value} (h : lk S t = some v) (k : resS P S H [.cell a ty] = some vs) : resS P S H [.tmp t, .cell a ty] = some (v :: vs) := by
  show (match lk S t with | none => none | some v => match resS P S H [.cell a ty] with | none => none | some vs => some (v :: vs)) = _
  rw [h, k]
theorem u53b : Try.prog.underlying 53 = some (.array 16 24) := by kernel_rfl
/-- a[:] of an array of bins -/
theorem heap_bins {lo : Nat} {H : Hp} {b : Nat} {cs : List Value} (h : Sc H b cs) (m : Nat) (S : Rg) (d : Option Tmp) (x : Operand) (ty : TypeId) (p : String) (hx : evS S x = some (pt b)) :
    heapOp Try.prog lo (frS m S) H ⟨d, .slice 53 x none none none, ty, p, #[], none⟩ = some (.val (slv b 16 16) H, .read b) := by
  obtain ⟨hb, e, hg⟩ := h
  obtain ⟨i, hi, hs⟩ := in24b
  have b0 : boundOf (frS m S) 16 none = some 16 := rfl
  have b1 : boundOf (frS m S) 0 none = some 0 := rfl
  unfold heapOp
  simp only [ev_frS, hx, u53b, hi, hs, b0, b1, hg, Nat.zero_mul, add_none]
  rfl
/-- copy of four bins to the beginning of a block -/
theorem heap_copy4 {lo : Nat} {H : Hp} {b c : Nat} {cs news : List Value} (h : Sc H b cs) (hc : Sc H c news) (hl : news.length = 16) (h64 : cs.length = 64) (hone : news.all one = true) (hlo : lo ≤ b) :
    ∃ H1, (∀ (m : Nat) (S : Rg) (d : Option Tmp) (x y : Operand) (ty : TypeId) (p : String), evS S x = some (slv b 16 16) → evS S y = some (slv c 4 4) → heapOp Try.prog lo (frS m S) H ⟨d, .call ⟨.builtin .copy, #[x, y], #[27, 27]⟩, ty, p, #[], none⟩ = some (.val (iv 4) H1, .full)) ∧ Keep H H1 [b] ∧ H1.next = H.next ∧ Sc H1 b (putRow cs 0 news) := by
  obtain ⟨hb, e, hg⟩ := id h
  obtain ⟨H1, hH1⟩ : ∃ H1, H.up b (.cells (putRow cs 0 news) e false) = H1 := ⟨_, rfl⟩
  obtain ⟨k1, n1, c1⟩ := up_facts h.cl hH1
  refine ⟨H1, ?_, k1, n1, c1.1, e, by subst hH1; show (H.t.set b _).get b = _; rw [Tr.get_set, if_pos rfl]⟩
  intro m S d x y ty p hx hy
  have hs : srcCells H 4 (slv c (Nat.min 4 16) 4) = some (4, news) := by
    have hr := hc.cl.rd.of
    have q : row (4 * 4) news 0 = some news := by
      unfold row
      simp only [List.drop_zero, beq_eq]
      rw [List.take_of_length_le (by omega), hl]; rfl
    show srcCells H 4 (.slice (some ⟨c, 0, none⟩) 4 4) = _
    simp only [srcCells, hr, q]
  unfold heapOp
  simp only [evs, ev_frS, hx, hy, builtinV, List.getElem?_toArray, List.getElem?_cons_zero, se27, hs, hg, h64, hone, Nat.ble_eq_true_of_le hlo, Bool.and_self, Bool.and_true, show Nat.ble (0 + Nat.min 4 16 * 4) 64 = true from rfl, cond_true]
  rw [← hH1]; rfl
section
variable {kn : FuncId → Option Bool} {lo : Nat} {H : Hp}
/-- lots -/
theorem lots34_ok (hlo : lo ≤ H.next) : ∃ b H', FnX Try.prog kn lo 34 [] H (slv b 3 3) H' ∧ Keep H H' [] ∧ Sc H' b (fzc lN) := by
  have key := fnX_low (kn := kn) (lo := lo) (H := H) (args := []) (Q := fun w H' => ∃ b, w = slv b 3 3 ∧ Keep H H' [] ∧ Sc H' b (fzc lN)) Try.func34 B34 N34 Z34 L34 (by simp) ?_
  · obtain ⟨w, H', h, b, rfl, q⟩ := key; exact ⟨b, H', h, q⟩
  have hk := Keep.refl H []
  refine wN_seq ?_
  refine wN_mov (v := .slice none 0 0) rfl ?_
  refine wN_end ?_
  refine wN_seq ?_
  refine wN_pur (v := .agg #[iv 0, iv 5, iv 300]) rfl (by kernel_rfl) ?_
  refine wN_pur (v := .agg #[iv 0, iv 2, iv 200]) rfl (by kernel_rfl) ?_
  refine wN_pur (v := .agg #[iv 4, iv 7, iv 250]) rfl (by kernel_rfl) ?_
  obtain ⟨H1, hH1⟩ : ∃ H1, H.new (.cells (fzc lN) 76 false) = H1 := ⟨_, rfl⟩
  refine wN_memh (H' := H1) (k := .heavy) rfl (by kernel_rfl) ((lit47 (v0 := ⟨0, 5, 300⟩) (v1 := ⟨0, 2, 200⟩) (v2 := ⟨4, 7, 250⟩) rfl rfl rfl).trans (by rw [← hH1]; all_goals rfl)) (fun b e => by cases e) ?_
  have s4 := new_sc hH1
  obtain ⟨kH1, nH1, _⟩ := new_facts hH1
  have mH1 := kH1.1
  have hk := hk.trans kH1
  refine wN_mov (v := .slice (some ⟨H.next, 0, none⟩) 3 3) rfl ?_
  refine wN_end ?_
  exact And.intro trivial (Exists.intro _ (And.intro rfl ⟨_, rfl, hk, s4⟩))
/-- tanks -/
theorem tanks33_ok (hlo : lo ≤ H.next) : ∃ b H', FnX Try.prog kn lo 33 [] H (.tuple #[slv b 3 3, .agg (Rc.f ⟨10, 4900, 5100, 190, 220, 600, 800⟩).toArray]) H' ∧ Keep H H' [] ∧ Sc H' b (tnc tN) := by
  have key := fnX_low (kn := kn) (lo := lo) (H := H) (args := []) (Q := fun w H' => ∃ b, w = .tuple #[slv b 3 3, .agg (Rc.f ⟨10, 4900, 5100, 190, 220, 600, 800⟩).toArray] ∧ Keep H H' [] ∧ Sc H' b (tnc tN)) Try.func33 B33 N33 Z33 L33 (by simp) ?_
  · obtain ⟨w, H', h, b, rfl, q⟩ := key; exact ⟨b, H', h, q⟩
  have hk := Keep.refl H []
  refine wN_seq ?_
  refine wN_mov (v := .slice none 0 0) rfl ?_
  refine wN_alc ?_
  intro H1 kH1 nH1 c1
  have c1 : Cl H1 H.next [iv 0, iv 0, iv 0, iv 0, iv 0, iv 0, iv 0] := c1
  have mH1 := kH1.1
  have hk := hk.trans kH1
  refine wN_end ?_
  refine wN_seq ?_
  refine wN_pur (v := .agg #[iv 10, iv 5000, iv 200, iv 700, iv 10]) rfl (by kernel_rfl) ?_
  refine wN_pur (v := .agg #[iv 8, iv 5200, iv 260, iv 500, iv 7]) rfl (by kernel_rfl) ?_
  refine wN_pur (v := .agg #[iv 5, iv 4800, iv 120, iv 900, iv 15]) rfl (by kernel_rfl) ?_
  obtain ⟨H2, hH2⟩ : ∃ H2, H1.new (.cells (tnc tN) 73 false) = H2 := ⟨_, rfl⟩
  refine wN_memh (H' := H2) (k := .heavy) rfl (by kernel_rfl) ((lit36 (v0 := ⟨10, 5000, 200, 700, 10⟩) (v1 := ⟨8, 5200, 260, 500, 7⟩) (v2 := ⟨5, 4800, 120, 900, 15⟩) rfl rfl rfl).trans (by rw [← hH2]; all_goals rfl)) (fun b e => by cases e) ?_
  have s4 := new_sc hH2
  obtain ⟨kH2, nH2, _⟩ := new_facts hH2
  have mH2 := kH2.1
  have hk := hk.trans kH2
  have c1 := kH2.cl c1 (by simp)
  refine wN_mov (v := .slice (some ⟨H1.next, 0, none⟩) 3 3) rfl ?_
  refine wN_end ?_
  refine wN_seq ?_
  refine wN_mov (v := .slice (some ⟨H1.next, 0, none⟩) 3 3) rfl ?_
  refine wN_pur (v := .agg #[iv 4900, iv 5100]) rfl (by kernel_rfl) ?_
  refine wN_pur (v := .agg #[iv 190, iv 220]) rfl (by kernel_rfl) ?_
  refine wN_pur (v := .agg #[iv 600, iv 800]) rfl (by kernel_rfl) ?_
  refine wN_pur (v := .agg #[iv 10, iv 4900, iv 5100, iv 190, iv 220, iv 600, iv 800]) rfl (by kernel_rfl) ?_
  refine wN_mov (v := .slice (some ⟨H1.next, 0, none⟩) 3 3) rfl ?_
  refine wN_sta (b := H.next) (o := 0) rfl rfl c1 (by omega) rfl rfl (by simp) ?_
  intro H3 kH3 nH3 sH3
  have mH3 := kH3.1
  have hk := hk.new kH3 (fun b hb => by simp at hb ⊢; omega)
  have s4 := kH3.sc s4 (by simp <;> omega)
  have c1 : Cl H3 H.next [iv 10, iv 4900, iv 5100, iv 190, iv 220, iv 600, iv 800] := sH3
  refine wN_end ?_
  exact And.intro trivial (Exists.intro _ (And.intro (res_tc rfl (res_cell rfl a40 i40s rfl c1)) ⟨_, rfl, hk, s4⟩))
/-- machines -/
theorem machines32_ok (hlo : lo ≤ H.next) : ∃ b rs H', FnX Try.prog kn lo 32 [] H (slv b 3 3) H' ∧ Keep H H' [] ∧ Mcs H' H'.next (some ⟨b, 0, none⟩) 3 3 rs ∧ mss rs = mss msN ∧ ∀ r ∈ rs, r.n ≤ 1000000 := by
  have key := fnX_low (kn := kn) (lo := lo) (H := H) (args := []) (Q := fun w H' => ∃ b rs, w = slv b 3 3 ∧ Keep H H' [] ∧ Mcs H' H'.next (some ⟨b, 0, none⟩) 3 3 rs ∧ mss rs = mss msN ∧ ∀ r ∈ rs, r.n ≤ 1000000) Try.func32 B32 N32 Z32 L32 (by simp) ?_
  · obtain ⟨w, H', h, b, rs, rfl, q⟩ := key; exact ⟨b, rs, H', h, q⟩
  have hk := Keep.refl H []
  refine wN_seq ?_
  refine wN_mov (v := .slice none 0 0) rfl ?_
  refine wN_end ?_
  refine wN_seq ?_
  refine wN_pur (v := .agg #[iv 1, iv 950, iv 980, iv 980, iv 990]) rfl (by kernel_rfl) ?_
  refine wN_pur (v := .agg #[iv (-1), iv 0, iv 0, iv 0, iv 0]) rfl (by kernel_rfl) ?_
  obtain ⟨H1, hH1⟩ : ∃ H1, H.new (.cells (ouc [⟨1, 950, 980, 980, 990⟩, ⟨-1, 0, 0, 0, 0⟩]) 59 false) = H1 := ⟨_, rfl⟩
  refine wN_memh (H' := H1) (k := .heavy) rfl (by kernel_rfl) ((lit60 (v0 := ⟨1, 950, 980, 980, 990⟩) (v1 := ⟨-1, 0, 0, 0, 0⟩) rfl rfl).trans (by rw [← hH1]; all_goals rfl)) (fun b e => by cases e) ?_
  have s0 := new_sc hH1
  obtain ⟨kH1, nH1, _⟩ := new_facts hH1
  have mH1 := kH1.1
  have hk := hk.trans kH1
  refine wN_pur (v := .agg #[.slice (some ⟨H.next, 0, none⟩) 2 2]) rfl (by kernel_rfl) ?_
  refine wN_pur (v := .agg #[iv 2, iv 800, iv 900, iv 850, iv 950]) rfl (by kernel_rfl) ?_
  refine wN_pur (v := .agg #[iv (-2), iv 0, iv 0, iv 0, iv 0]) rfl (by kernel_rfl) ?_
  obtain ⟨H2, hH2⟩ : ∃ H2, H1.new (.cells (ouc [⟨2, 800, 900, 850, 950⟩, ⟨-2, 0, 0, 0, 0⟩]) 59 false) = H2 := ⟨_, rfl⟩
  refine wN_memh (H' := H2) (k := .heavy) rfl (by kernel_rfl) ((lit60 (v0 := ⟨2, 800, 900, 850, 950⟩) (v1 := ⟨-2, 0, 0, 0, 0⟩) rfl rfl).trans (by rw [← hH2]; all_goals rfl)) (fun b e => by cases e) ?_
  have s1 := new_sc hH2
  obtain ⟨kH2, nH2, _⟩ := new_facts hH2
  have mH2 := kH2.1
  have hk := hk.trans kH2
  have s0 := kH2.sc s0 (by simp)
  refine wN_pur (v := .agg #[.slice (some ⟨H1.next, 0, none⟩) 2 2]) rfl (by kernel_rfl) ?_
  refine wN_pur (v := .agg #[iv (-3), iv 300, iv 1000, iv 1000, iv 1000]) rfl (by kernel_rfl) ?_
  refine wN_pur (v := .agg #[iv (-4), iv 0, iv 0, iv 0, iv 0]) rfl (by kernel_rfl) ?_
  obtain ⟨H3, hH3⟩ : ∃ H3, H2.new (.cells (ouc [⟨-3, 300, 1000, 1000, 1000⟩, ⟨-4, 0, 0, 0, 0⟩]) 59 false) = H3 := ⟨_, rfl⟩
  refine wN_memh (H' := H3) (k := .heavy) rfl (by kernel_rfl) ((lit60 (v0 := ⟨-3, 300, 1000, 1000, 1000⟩) (v1 := ⟨-4, 0, 0, 0, 0⟩) rfl rfl).trans (by rw [← hH3]; all_goals rfl)) (fun b e => by cases e) ?_
  have s2 := new_sc hH3
  obtain ⟨kH3, nH3, _⟩ := new_facts hH3
  have mH3 := kH3.1
  have hk := hk.trans kH3
  have s0 := kH3.sc s0 (by simp)
  have s1 := kH3.sc s1 (by simp)
  refine wN_pur (v := .agg #[.slice (some ⟨H2.next, 0, none⟩) 2 2]) rfl (by kernel_rfl) ?_
  obtain ⟨H4, hH4⟩ : ∃ H4, H3.new (.cells (mcc [⟨some ⟨H.next, 0, none⟩, 2, 2, [⟨1, 950, 980, 980, 990⟩, ⟨-1, 0, 0, 0, 0⟩]⟩, ⟨some ⟨H1.next, 0, none⟩, 2, 2, [⟨2, 800, 900, 850, 950⟩, ⟨-2, 0, 0, 0, 0⟩]⟩, ⟨some ⟨H2.next, 0, none⟩, 2, 2, [⟨-3, 300, 1000, 1000, 1000⟩, ⟨-4, 0, 0, 0, 0⟩]⟩]) 62 false) = H4 := ⟨_, rfl⟩
  refine wN_memh (H' := H4) (k := .heavy) rfl (by kernel_rfl) ((lit22 (v0 := ⟨some ⟨H.next, 0, none⟩, 2, 2, [⟨1, 950, 980, 980, 990⟩, ⟨-1, 0, 0, 0, 0⟩]⟩) (v1 := ⟨some ⟨H1.next, 0, none⟩, 2, 2, [⟨2, 800, 900, 850, 950⟩, ⟨-2, 0, 0, 0, 0⟩]⟩) (v2 := ⟨some ⟨H2.next, 0, none⟩, 2, 2, [⟨-3, 300, 1000, 1000, 1000⟩, ⟨-4, 0, 0, 0, 0⟩]⟩) rfl rfl rfl).trans (by rw [← hH4]; all_goals rfl)) (fun b e => by cases e) ?_
  have sm := new_sc hH4
  obtain ⟨kH4, nH4, _⟩ := new_facts hH4
  have mH4 := kH4.1
  have hk := hk.trans kH4
  have s0 := kH4.sc s0 (by simp)
  have s1 := kH4.sc s1 (by simp)
  have s2 := kH4.sc s2 (by simp)
  refine wN_mov (v := .slice (some ⟨H3.next, 0, none⟩) 3 3) rfl ?_
  refine wN_end ?_
  have l0 := s0.lt
  have l1 := s1.lt
  have l2 := s2.lt
  have lm := sm.lt
  have hr : Mcs H4 H4.next (some ⟨H3.next, 0, none⟩) 3 3 [⟨some ⟨H.next, 0, none⟩, 2, 2, [⟨1, 950, 980, 980, 990⟩, ⟨-1, 0, 0, 0, 0⟩]⟩, ⟨some ⟨H1.next, 0, none⟩, 2, 2, [⟨2, 800, 900, 850, 950⟩, ⟨-2, 0, 0, 0, 0⟩]⟩, ⟨some ⟨H2.next, 0, none⟩, 2, 2, [⟨-3, 300, 1000, 1000, 1000⟩, ⟨-4, 0, 0, 0, 0⟩]⟩] := by
    refine ⟨.inr ⟨_, 0, _, rfl, sm.cl.rd, lm, Nat.le_refl _, fun i r hr => mcc_row hr⟩, rfl, fun r hr => ?_⟩
    simp only [List.mem_cons, List.not_mem_nil, or_false] at hr
    rcases hr with rfl | rfl | rfl
    · exact ⟨s0.cl.sl (Nat.le_refl 2), rfl, fun x e => by cases e; exact ⟨l0, s0.fy⟩⟩
    · exact ⟨s1.cl.sl (Nat.le_refl 2), rfl, fun x e => by cases e; exact ⟨l1, s1.fy⟩⟩
    · exact ⟨s2.cl.sl (Nat.le_refl 2), rfl, fun x e => by cases e; exact ⟨l2, s2.fy⟩⟩
  exact And.intro trivial (Exists.intro _ (And.intro rfl ⟨_, _, rfl, hk, hr, rfl, fun r hr => by simp only [List.mem_cons, List.not_mem_nil, or_false] at hr; rcases hr with rfl | rfl | rfl <;> exact (show (2 : Nat) ≤ 1000000 by decide)⟩))
set_option maxRecDepth 100000 in
set_option maxHeartbeats 4000000 in
/-- PlantNames -/
theorem law_names (hkn : kn 16 = some true) (h32 : kn 32 = none) (h33 : kn 33 = none) (h34 : kn 34 = none) (hro : RoLow lo H) (hlo : lo ≤ H.next) : ∃ H', FnX Try.prog kn lo 6 [] H (.bool true) H' := by
  have key := fnX_low (kn := kn) (lo := lo) (H := H) (args := []) (Q := fun w H' => w = .bool true) Try.func6 B6 N6 Z6 L6 (by simp) ?_
  · obtain ⟨w, H', h, rfl⟩ := key; exact ⟨H', h⟩
  have hk := Keep.refl H []
  refine wN_seq ?_
  refine wN_mov (v := .bool false) rfl ?_
  refine wN_end ?_
  refine wN_seq ?_
  obtain ⟨mb, rs, H1, fH1, kH1, hmr, hms, hrn⟩ := machines32_ok (kn := kn) (lo := lo) (H := H) (by omega)
  refine wN_callf (vs := []) rfl (callX_func (by simp [kcall, h32]) fH1) ?_
  have mH1 := kH1.1
  have hk := hk.trans kH1
  refine wN_pur (v := .agg #[iv 100000, iv 4500, iv 2000, iv 7000]) rfl (by kernel_rfl) ?_
  obtain ⟨aL, H2, fH2, kH2, laL, sL⟩ := run17_ok (kn := kn) (lo := lo) (H := H1) (s := sN) hmr hrn (by omega) (Nat.le_refl _) (by omega) (by unfold rok; rw [hms]; exact runN)
  rw [hms, binsN] at sL
  refine wN_callf (vs := [slv mb 3 3, .agg (qc sN).toArray]) rfl (callX_args fH2) ?_
  have mH2 := kH2.1
  have hk := hk.trans kH2
  have hmr := hmr.keep kH2 (by simp)
  have ltL := sL.lt
  refine wN_mov (v := .tuple #[.slice (some ⟨aL, 0, none⟩) 16 16, iv 0]) rfl ?_
  refine wN_pur (v := .slice (some ⟨aL, 0, none⟩) 16 16) rfl (by kernel_rfl) ?_
  refine wN_pur (v := iv 0) rfl (by kernel_rfl) ?_
  refine wN_mov (v := .slice (some ⟨aL, 0, none⟩) 16 16) rfl ?_
  refine wN_mov (v := iv 0) rfl ?_
  refine wN_end ?_
  refine wN_seq ?_
  refine wN_alcS ?_
  intro H3 kH3 nH3 sB
  have sB : Sc H3 H2.next (List.replicate 64 (iv 0)) := sB
  have mH3 := kH3.1
  have hk := hk.trans kH3
  have sL := kH3.sc sL (by simp)
  have ltB := sB.lt
  refine wN_end ?_
  refine wN_seq ?_
  refine wN_memh (k := .read H2.next) rfl (by kernel_rfl) (heap_bins (lo := lo) sB _ _ _ _ _ _ rfl) (fun b e => by cases e; have := sB.lt; omega) ?_
  refine wN_pur (v := .agg #[iv 5000, iv 90, iv 40, iv 70]) rfl (by kernel_rfl) ?_
  refine wN_pur (v := .agg #[iv 19000, iv 441, iv 294, iv 347]) rfl (by kernel_rfl) ?_
  refine wN_pur (v := .agg #[iv 22800, iv 3969, iv 1666, iv 6583]) rfl (by kernel_rfl) ?_
  refine wN_pur (v := .agg #[iv 53200, iv 0, iv 0, iv 0]) rfl (by kernel_rfl) ?_
  obtain ⟨H4, hH4⟩ : ∃ H4, H3.new (.cells ([iv 5000, iv 90, iv 40, iv 70, iv 19000, iv 441, iv 294, iv 347, iv 22800, iv 3969, iv 1666, iv 6583, iv 53200, iv 0, iv 0, iv 0]) 24 false) = H4 := ⟨_, rfl⟩
  refine wN_memh (H' := H4) (k := .heavy) rfl (by kernel_rfl) ((lit27 (v0 := (q4 5000 90 40 70)) (v1 := (q4 19000 441 294 347)) (v2 := (q4 22800 3969 1666 6583)) (v3 := (q4 53200 0 0 0)) rfl rfl rfl rfl).trans (by rw [← hH4]; all_goals rfl)) (fun b e => by cases e) ?_
  have s26 := new_sc hH4
  obtain ⟨kH4, nH4, _⟩ := new_facts hH4
  have mH4 := kH4.1
  have hk := hk.trans kH4
  have sL := kH4.sc sL (by simp)
  have sB := kH4.sc sB (by simp)
  obtain ⟨H5, eH5, kH5, nH5, sB2⟩ := heap_copy4 (lo := lo) sB s26 rfl rfl (by decide) (by omega)
  refine wN_memh (k := .full) rfl (by kernel_rfl) (eH5 _ _ _ _ _ _ _ rfl rfl) (fun b e => by cases e) ?_
  skip
  have mH5 := kH5.1
  have hk := hk.new kH5 (fun b hb => by simp at hb ⊢; omega)
  have sL := kH5.sc sL (by simp <;> omega)
  have sB : Sc H5 H2.next ([iv 5000, iv 90, iv 40, iv 70, iv 19000, iv 441, iv 294, iv 347, iv 22800, iv 3969, iv 1666, iv 6583, iv 53200, iv 0, iv 0, iv 0] ++ List.replicate 48 (iv 0)) := sB2
  refine wN_end ?_
  refine wN_seq ?_
  refine wN_pur (v := .agg #[iv 76000, iv 3969, iv 0, iv 0]) rfl (by kernel_rfl) ?_
  obtain ⟨H6, fH6, kH6⟩ := evap_ok (kn := kn) (lo := lo) (H := H5) (s := q4 76000 3969 0 0) (k := 5000) (by omega)
  rw [evN] at fH6
  refine wN_callf (vs := [.agg (qc (q4 76000 3969 0 0)).toArray, iv 5000]) rfl (callX_args fH6) ?_
  have mH6 := kH6.1
  have hk := hk.trans kH6
  have sL := kH6.sc sL (by simp)
  have sB := kH6.sc sB (by simp)
  refine wN_mov (v := .tuple #[iv 68062, iv 0]) rfl ?_
  refine wN_pur (v := iv 68062) rfl (by kernel_rfl) ?_
  refine wN_pur (v := iv 0) rfl (by kernel_rfl) ?_
  refine wN_mov (v := iv 68062) rfl ?_
  refine wN_mov (v := iv 0) rfl ?_
  refine wN_end ?_
  refine wN_seq ?_
  obtain ⟨tb, H7, fH7, kH7, sT⟩ := tanks33_ok (kn := kn) (lo := lo) (H := H6) (by omega)
  refine wN_callf (vs := []) rfl (callX_func (by simp [kcall, h33]) fH7) ?_
  have mH7 := kH7.1
  have hk := hk.trans kH7
  have sL := kH7.sc sL (by simp)
  have sB := kH7.sc sB (by simp)
  have ltT := sT.lt
  refine wN_mov (v := .tuple #[.slice (some ⟨tb, 0, none⟩) 3 3, .agg #[iv 10, iv 4900, iv 5100, iv 190, iv 220, iv 600, iv 800]]) rfl ?_
  refine wN_pur (v := .slice (some ⟨tb, 0, none⟩) 3 3) rfl (by kernel_rfl) ?_
  refine wN_pur (v := .agg #[iv 10, iv 4900, iv 5100, iv 190, iv 220, iv 600, iv 800]) rfl (by kernel_rfl) ?_
  refine wN_alc ?_
  intro H8 kH8 nH8 c8
  have c8 : Cl H8 H7.next [iv 0, iv 0, iv 0, iv 0, iv 0, iv 0, iv 0] := c8
  have mH8 := kH8.1
  have hk := hk.trans kH8
  have sL := kH8.sc sL (by simp)
  have sB := kH8.sc sB (by simp)
  have sT := kH8.sc sT (by simp)
  refine wN_mov (v := .slice (some ⟨tb, 0, none⟩) 3 3) rfl ?_
  refine wN_sta (b := H7.next) (o := 0) rfl rfl c8 (by omega) rfl rfl (by simp) ?_
  intro H9 kH9 nH9 sH9
  have mH9 := kH9.1
  have hk := hk.new kH9 (fun b hb => by simp at hb ⊢; omega)
  have sL := kH9.sc sL (by simp <;> omega)
  have sB := kH9.sc sB (by simp <;> omega)
  have sT := kH9.sc sT (by simp <;> omega)
  have c8 : Cl H9 H7.next [iv 10, iv 4900, iv 5100, iv 190, iv 220, iv 600, iv 800] := sH9
  refine wN_end ?_
  refine wN_seq ?_
  refine wN_addo (b := H7.next) (o := 0) rfl ?_
  refine wN_addo (b := H7.next) (o := 3) rfl ?_
  refine wN_st (b := H7.next) (o := 4) rfl rfl c8 (by omega) rfl rfl (by simp) ?_
  intro H10 kH10 nH10 sH10
  have mH10 := kH10.1
  have hk := hk.new kH10 (fun b hb => by simp at hb ⊢; omega)
  have sL := kH10.sc sL (by simp <;> omega)
  have sB := kH10.sc sB (by simp <;> omega)
  have sT := kH10.sc sT (by simp <;> omega)
  have c8 : Cl H10 H7.next [iv 10, iv 4900, iv 5100, iv 190, iv 217, iv 600, iv 800] := sH10
  refine wN_end ?_
  refine wN_seq ?_
  refine wN_mov (v := .slice (some ⟨tb, 0, none⟩) 3 3) rfl ?_
  refine wN_lda (b := H7.next) (o := 0) rfl c8.rd (show row 7 _ _ = some [iv 10, iv 4900, iv 5100, iv 190, iv 217, iv 600, iv 800] from rfl) ?_
  obtain ⟨ba, bc, H11, fH11, kH11, sb⟩ := blend_ok (kn := kn) (lo := lo) (H := H10) (r := rN') (us := tN) (cap := 3) (sT.cl.sl (Nat.le_refl 3)) (fun b e => by cases e; exact ⟨sT.lt, .inr (.inl sT.2)⟩) (by decide) (by omega)
  rw [show blN tN rN' = 3 from by unfold blN; rw [if_pos blN1]; rfl] at fH11 sb
  rw [blN3, blN1] at fH11
  refine wN_callf (vs := [slv tb 3 3, .agg (Rc.f rN').toArray]) rfl (callX_args fH11) ?_
  have mH11 := kH11.1
  have hk := hk.trans kH11
  have sL := kH11.sc sL (by simp)
  have sB := kH11.sc sB (by simp)
  have sT := kH11.sc sT (by simp)
  have c8 := kH11.cl c8 (by simp)
  have fb := sb.old
  refine wN_mov (v := .tuple #[.slice ba 3 bc, iv 93, iv 0]) rfl ?_
  refine wN_pur (v := .slice ba 3 bc) rfl (by kernel_rfl) ?_
  refine wN_pur (v := iv 93) rfl (by kernel_rfl) ?_
  refine wN_pur (v := iv 0) rfl (by kernel_rfl) ?_
  refine wN_mov (v := .slice ba 3 bc) rfl ?_
  refine wN_mov (v := iv 93) rfl ?_
  refine wN_mov (v := iv 0) rfl ?_
  refine wN_end ?_
  refine wN_seq ?_
  obtain ⟨lb, H12, fH12, kH12, sF⟩ := lots34_ok (kn := kn) (lo := lo) (H := H11) (by omega)
  refine wN_callf (vs := []) rfl (callX_func (by simp [kcall, h34]) fH12) ?_
  have mH12 := kH12.1
  have hk := hk.trans kH12
  have sL := kH12.sc sL (by simp)
  have sB := kH12.sc sB (by simp)
  have c8 := kH12.cl c8 (by simp)
  have sb := kH12.sl0 sb
  obtain ⟨fa, H13, fH13, kH13, _, sfa⟩ := frozen28_ok (kn := kn) (lo := lo) (H := H12) (us := lN) (R := 100) (n := 3) (cap := 3) (sF.cl.sl (Nat.le_refl 3)) rfl (by decide) (by omega) frN
  refine wN_callf (vs := [slv lb 3 3, iv 100]) rfl (callX_args fH13) ?_
  have mH13 := kH13.1
  have hk := hk.trans kH13
  have sL := kH13.sc sL (by simp)
  have sB := kH13.sc sB (by simp)
  have c8 := kH13.cl c8 (by simp)
  have sb := kH13.sl0 sb
  have sF := kH13.sc sF (by simp)
  have ffa := sfa.lt
  refine wN_mov (v := .tuple #[.slice (some ⟨fa, 0, none⟩) 3 3, iv 0]) rfl ?_
  refine wN_pur (v := .slice (some ⟨fa, 0, none⟩) 3 3) rfl (by kernel_rfl) ?_
  refine wN_pur (v := iv 0) rfl (by kernel_rfl) ?_
  refine wN_mov (v := .slice (some ⟨fa, 0, none⟩) 3 3) rfl ?_
  refine wN_mov (v := iv 0) rfl ?_
  refine wN_end ?_
  refine wN_seq ?_
  obtain ⟨lb, H14, fH14, kH14, sF⟩ := lots34_ok (kn := kn) (lo := lo) (H := H13) (by omega)
  refine wN_callf (vs := []) rfl (callX_func (by simp [kcall, h34]) fH14) ?_
  have mH14 := kH14.1
  have hk := hk.trans kH14
  have sL := kH14.sc sL (by simp)
  have sB := kH14.sc sB (by simp)
  have c8 := kH14.cl c8 (by simp)
  have sb := kH14.sl0 sb
  have sfa := kH14.cl sfa (by simp)
  obtain ⟨fc, H15, fH15, kH15, _, sfc⟩ := frozen28_ok (kn := kn) (lo := lo) (H := H14) (us := lN) (R := 90) (n := 3) (cap := 3) (sF.cl.sl (Nat.le_refl 3)) rfl (by decide) (by omega) frM
  refine wN_callf (vs := [slv lb 3 3, iv 90]) rfl (callX_args fH15) ?_
  have mH15 := kH15.1
  have hk := hk.trans kH15
  have sL := kH15.sc sL (by simp)
  have sB := kH15.sc sB (by simp)
  have c8 := kH15.cl c8 (by simp)
  have sb := kH15.sl0 sb
  have sfa := kH15.cl sfa (by simp)
  have sF := kH15.sc sF (by simp)
  have ffc := sfc.lt
  refine wN_mov (v := .tuple #[.slice (some ⟨fc, 0, none⟩) 3 3, iv 0]) rfl ?_
  refine wN_pur (v := .slice (some ⟨fc, 0, none⟩) 3 3) rfl (by kernel_rfl) ?_
  refine wN_pur (v := iv 0) rfl (by kernel_rfl) ?_
  refine wN_mov (v := .slice (some ⟨fc, 0, none⟩) 3 3) rfl ?_
  refine wN_mov (v := iv 0) rfl ?_
  refine wN_end ?_
  refine wN_seq ?_
  refine wN_mov (v := .bool true) rfl ?_
  refine wN_g rfl (wN_callf (vs := []) rfl (callX_known hkn) ?_)
  refine wN_pur (v := .bool true) rfl rfl ?_
  refine wN_mov (v := .bool true) rfl ?_
  refine wN_g rfl (wN_mov (v := .slice (some ⟨aL, 0, none⟩) 16 16) rfl ?_)
  refine wN_g rfl (wN_memh (k := .read H2.next) rfl (by kernel_rfl) (heap_bins (lo := lo) sB _ _ _ _ _ _ rfl) (fun b e => by cases e; have := sB.lt; omega) ?_)
  obtain ⟨H16, fH16, kH16⟩ := same23_ok (kn := kn) (lo := lo) (H := H15) (C := rnA (mss msN) sN) (m := 16) (by rw [binsN]; exact sL.cl.sl (Nat.le_refl 16)) (by rw [binsN]; exact sB.cl.sl (Nat.le_refl 16)) (Nat.le_refl _) (by omega)
  refine wN_g rfl (wN_callf (vs := [slv aL 16 16, slv (H2.next) 16 16]) rfl (callX_args fH16) ?_)
  have mH16 := kH16.1
  have hk := hk.trans kH16
  have sL := kH16.sc sL (by simp)
  have sB := kH16.sc sB (by simp)
  have c8 := kH16.cl c8 (by simp)
  have sb := kH16.sl0 sb
  have sfa := kH16.cl sfa (by simp)
  have sfc := kH16.cl sfc (by simp)
  refine wN_pur (v := .bool true) rfl rfl ?_
  refine wN_mov (v := .bool true) rfl ?_
  refine wN_g rfl (wN_mov (v := iv 68062) rfl ?_)
  refine wN_g rfl (wN_b_eql (a := 68062) (b := 68062) rfl rfl ?_)
  intro t1 g1; obtain rfl : t1 = true := by rw [← g1]; rfl
  refine wN_pur (v := .bool true) rfl rfl ?_
  refine wN_mov (v := .bool true) rfl ?_
  refine wN_g rfl (wN_mov (v := .slice ba 3 bc) rfl ?_)
  obtain ⟨H17, hH17⟩ : ∃ H17, H16.new (.cells ([iv 5, iv 4, iv 1]) 3 false) = H17 := ⟨_, rfl⟩
  refine wN_g rfl (wN_memh (H' := H17) (k := .heavy) rfl (by kernel_rfl) ((lit42 (v0 := 5) (v1 := 4) (v2 := 1) rfl rfl rfl).trans (by rw [← hH17]; all_goals rfl)) (fun b e => by cases e) ?_)
  have i1 := new_sc hH17
  obtain ⟨kH17, nH17, _⟩ := new_facts hH17
  have mH17 := kH17.1
  have hk := hk.trans kH17
  have sL := kH17.sc sL (by simp)
  have sB := kH17.sc sB (by simp)
  have c8 := kH17.cl c8 (by simp)
  have sb := kH17.sl0 sb
  have sfa := kH17.cl sfa (by simp)
  have sfc := kH17.cl sfc (by simp)
  obtain ⟨H18, fH18, kH18⟩ := ints27_ok (kn := kn) (lo := lo) (H := H17) (g := (blB tN rN')) (m := 3) sb (by rw [blN2]; exact i1.cl.sl (Nat.le_refl 3)) (Nat.le_refl _) (by omega)
  refine wN_g rfl (wN_callf (vs := [.slice ba 3 bc, slv (H16.next) 3 3]) rfl (callX_args fH18) ?_)
  have mH18 := kH18.1
  have hk := hk.trans kH18
  have sL := kH18.sc sL (by simp)
  have sB := kH18.sc sB (by simp)
  have c8 := kH18.cl c8 (by simp)
  have sb := kH18.sl0 sb
  have sfa := kH18.cl sfa (by simp)
  have sfc := kH18.cl sfc (by simp)
  have i1 := kH18.sc i1 (by simp)
  refine wN_pur (v := .bool true) rfl rfl ?_
  refine wN_mov (v := .bool true) rfl ?_
  refine wN_g rfl (wN_mov (v := iv 93) rfl ?_)
  refine wN_g rfl (wN_b_eql (a := 93) (b := 93) rfl rfl ?_)
  intro t2 g2; obtain rfl : t2 = true := by rw [← g2]; rfl
  refine wN_pur (v := .bool true) rfl rfl ?_
  refine wN_mov (v := .bool true) rfl ?_
  refine wN_g rfl (wN_mov (v := .slice (some ⟨fa, 0, none⟩) 3 3) rfl ?_)
  obtain ⟨H19, hH19⟩ : ∃ H19, H18.new (.cells ([iv 5, iv 2, iv 8]) 3 false) = H19 := ⟨_, rfl⟩
  refine wN_g rfl (wN_memh (H' := H19) (k := .heavy) rfl (by kernel_rfl) ((lit42 (v0 := 5) (v1 := 2) (v2 := 8) rfl rfl rfl).trans (by rw [← hH19]; all_goals rfl)) (fun b e => by cases e) ?_)
  have i2 := new_sc hH19
  obtain ⟨kH19, nH19, _⟩ := new_facts hH19
  have mH19 := kH19.1
  have hk := hk.trans kH19
  have sL := kH19.sc sL (by simp)
  have sB := kH19.sc sB (by simp)
  have c8 := kH19.cl c8 (by simp)
  have sb := kH19.sl0 sb
  have sfa := kH19.cl sfa (by simp)
  have sfc := kH19.cl sfc (by simp)
  have i1 := kH19.sc i1 (by simp)
  obtain ⟨H20, fH20, kH20⟩ := ints27_ok (kn := kn) (lo := lo) (H := H19) (g := (DN lN 100)) (m := 3) (sfa.sl (Nat.le_refl 3)) (by rw [frN2]; exact i2.cl.sl (Nat.le_refl 3)) (Nat.le_refl _) (by omega)
  refine wN_g rfl (wN_callf (vs := [slv fa 3 3, slv (H18.next) 3 3]) rfl (callX_args fH20) ?_)
  have mH20 := kH20.1
  have hk := hk.trans kH20
  have sL := kH20.sc sL (by simp)
  have sB := kH20.sc sB (by simp)
  have c8 := kH20.cl c8 (by simp)
  have sb := kH20.sl0 sb
  have sfa := kH20.cl sfa (by simp)
  have sfc := kH20.cl sfc (by simp)
  have i1 := kH20.sc i1 (by simp)
  have i2 := kH20.sc i2 (by simp)
  refine wN_pur (v := .bool true) rfl rfl ?_
  refine wN_mov (v := .bool true) rfl ?_
  refine wN_g rfl (wN_mov (v := .slice (some ⟨fc, 0, none⟩) 3 3) rfl ?_)
  obtain ⟨H21, hH21⟩ : ∃ H21, H20.new (.cells ([iv 6, iv 3, iv 9]) 3 false) = H21 := ⟨_, rfl⟩
  refine wN_g rfl (wN_memh (H' := H21) (k := .heavy) rfl (by kernel_rfl) ((lit42 (v0 := 6) (v1 := 3) (v2 := 9) rfl rfl rfl).trans (by rw [← hH21]; all_goals rfl)) (fun b e => by cases e) ?_)
  have i3 := new_sc hH21
  obtain ⟨kH21, nH21, _⟩ := new_facts hH21
  have mH21 := kH21.1
  have hk := hk.trans kH21
  have sL := kH21.sc sL (by simp)
  have sB := kH21.sc sB (by simp)
  have c8 := kH21.cl c8 (by simp)
  have sb := kH21.sl0 sb
  have sfa := kH21.cl sfa (by simp)
  have sfc := kH21.cl sfc (by simp)
  have i1 := kH21.sc i1 (by simp)
  have i2 := kH21.sc i2 (by simp)
  obtain ⟨H22, fH22, kH22⟩ := ints27_ok (kn := kn) (lo := lo) (H := H21) (g := (DN lN 90)) (m := 3) (sfc.sl (Nat.le_refl 3)) (by rw [frM2]; exact i3.cl.sl (Nat.le_refl 3)) (Nat.le_refl _) (by omega)
  refine wN_g rfl (wN_callf (vs := [slv fc 3 3, slv (H20.next) 3 3]) rfl (callX_args fH22) ?_)
  have mH22 := kH22.1
  have hk := hk.trans kH22
  have sL := kH22.sc sL (by simp)
  have sB := kH22.sc sB (by simp)
  have c8 := kH22.cl c8 (by simp)
  have sb := kH22.sl0 sb
  have sfa := kH22.cl sfa (by simp)
  have sfc := kH22.cl sfc (by simp)
  have i1 := kH22.sc i1 (by simp)
  have i2 := kH22.sc i2 (by simp)
  have i3 := kH22.sc i3 (by simp)
  refine wN_pur (v := .bool true) rfl rfl ?_
  refine wN_mov (v := .bool true) rfl ?_
  refine wN_end ?_
  exact And.intro trivial (Exists.intro _ (And.intro rfl rfl))
end
end Go.Ax

namespace Go.Ax
open Go Go.RowKit Go.Proofs Go.ChangeShapes Go.WideShapes Go.Deep

/-- A type whose cells are whole numbers. -/
def IntT (P : Program) (t : TypeId) : Prop := ∀ (H : Type) (enc : TypeId × Value → H) (w : World) (base : Nat) (spare : Nat → Bool) (held : Bool) (fuel : Nat) (cs : List Value) (x : DataW H × List MemPlace),
  DataW.trod enc P w base spare held fuel t cs = some x → cs.length = P.cellsOf t ∧ ∀ j, j < cs.length → ∃ n, cs[j]? = some (.int .i64 n)
theorem IntT.int {P : Program} {t : TypeId} (ht : P.underlying t = some (.int .i64)) (hc : P.cellsOf t = 1) : IntT P t := by
  intro H enc w base spare held fuel cs x h
  obtain ⟨n, rfl, _⟩ := DataW.trod_int ht h
  refine ⟨by rw [hc]; rfl, fun j hj => ⟨n, ?_⟩⟩
  have : j = 0 := by simp at hj; omega
  subst this; rfl
theorem IntT.struct {P : Program} {t : TypeId} {fs : Array Field} (ht : P.underlying t = some (.struct fs)) (hf : ∀ f ∈ fs.toList, IntT P f.type)
    (hcov : ((List.range (P.cellsOf t)).all fun j => fs.toList.any fun f => decide (f.offset ≤ j) && decide (j < f.offset + P.cellsOf f.type)) = true) : IntT P t := by
  intro H enc w base spare held fuel cs x h
  obtain ⟨xs, n, _, _, hlen, hxl, hg⟩ := DataW.trod_struct ht h
  refine ⟨hlen, fun j hj => ?_⟩
  have h1 := List.all_eq_true.1 hcov j (List.mem_range.2 (by omega))
  obtain ⟨f, hfm, h2⟩ := List.any_eq_true.1 h1
  simp only [Bool.and_eq_true, decide_eq_true_eq] at h2
  obtain ⟨i, hi, hfi⟩ := List.getElem_of_mem hfm
  have hfs : fs[i]? = some f := by
    rw [← Array.getElem?_toList, List.getElem?_eq_getElem hi, hfi]
  have hi2 : i < xs.length := by simpa [hxl] using hi
  have h3 := hg i f hfs
  rw [List.getElem?_eq_getElem hi2] at h3
  obtain ⟨h4, h5⟩ := hf f hfm _ _ _ _ _ _ _ _ _ h3
  obtain ⟨m, hm⟩ := h5 (j - f.offset) (by omega)
  refine ⟨m, ?_⟩
  rw [List.getElem?_take] at hm
  split at hm
  · rw [List.getElem?_drop, show f.offset + (j - f.offset) = j by omega] at hm; exact hm
  · cases hm

end Go.Ax

/-! Slices of rows of plain cells, as arguments. -/
namespace Go.Ax
open Go Go.RowKit Go.Proofs Go.ChangeShapes Go.WideShapes Go.Deep

theorem IntT.row {α : Type} {P : Program} {t : TypeId} {k : Nat} {f : α → List Value} {mk : (Nat → Int) → α} (h : IntT P t) (hc : P.cellsOf t = k) (hmk : ∀ N : Nat → Int, f (mk N) = (List.range k).map fun j => Value.int .i64 (N j))
    {H : Type} {enc : TypeId × Value → H} {w : World} {base : Nat} {spare : Nat → Bool} {held : Bool} (fuel : Nat) (cs : List Value) (x : DataW H × List MemPlace) (hx : DataW.trod enc P w base spare held fuel t cs = some x) : ∃ y : α, cs = f y ∧ True := by
  obtain ⟨h1, h2⟩ := h _ _ _ _ _ _ _ _ _ hx
  have : ∃ N : Nat → Int, ∀ j, j < cs.length → cs[j]? = some (.int .i64 (N j)) := by
    refine ⟨fun j => match cs[j]? with | some (.int _ n) => n | _ => 0, fun j hj => ?_⟩
    obtain ⟨n, hn⟩ := h2 j hj
    simp [hn]
  obtain ⟨N, hN⟩ := this
  refine ⟨mk N, ?_, trivial⟩
  rw [hmk]
  apply List.ext_getElem?
  intro j
  by_cases hj : j < k
  · rw [hN j (by omega), List.getElem?_map, List.getElem?_range hj]; rfl
  · rw [List.getElem?_eq_none (by omega), List.getElem?_eq_none (by simp; omega)]
end Go.Ax

/-! Arguments that point to what points: inner slices, rows of slices. -/
namespace Go.Ax
open Go Go.RowKit Go.Proofs Go.ChangeShapes Go.WideShapes Go.Deep

def renOf (imps : List Imp) : Ren := fun b => (imps[b]?).map fun x => ⟨x.blk, x.off, none⟩
theorem imports3 {P : Program} (imps outs : List Imp) (w : World) (h : ∀ x ∈ imps, ∀ (i : Nat) v, x.cs[i]? = some v → w.cell? ⟨x.blk, x.off + i, none⟩ = some v ∧ flat1 v = true)
    (hcs : ∀ x ∈ outs, ∀ (i : Nat) v, x.cs[i]? = some v → ∃ v', w.cell? ⟨x.blk, x.off + i, none⟩ = some v' ∧ VR (renOf imps) v v') :
    ∃ (r : Ren) (H : Hp), Rel P r w.heap.size H w ∧ H.next = (imps ++ outs).length ∧ (∀ b loc, r b = some loc → b < H.next) ∧ Ren.Le (renOf imps) r ∧ ∀ (b : Nat) x, (imps ++ outs)[b]? = some x → r b = some ⟨x.blk, x.off, none⟩ ∧ H.t.get b = some (.ro x.cs) := by
  have hall : ∀ x ∈ imps ++ outs, ∀ (i : Nat) v, x.cs[i]? = some v → ∃ v', w.cell? ⟨x.blk, x.off + i, none⟩ = some v' ∧ VR (renOf imps) v v' := by
    intro x hx i v hv
    rcases List.mem_append.1 hx with hx | hx
    · obtain ⟨h1, h2⟩ := h x hx i v hv
      exact ⟨v, h1, flat1_vr h2⟩
    · exact hcs x hx i v hv
  obtain ⟨t, ht⟩ := tr_of (fun b => ((imps ++ outs)[b]?).map fun x => .ro x.cs) (imps ++ outs).length
  have hle : Ren.Le (renOf imps) (fun b => ((imps ++ outs)[b]?).map fun x => ⟨x.blk, x.off, none⟩) := fun b loc e => by
    unfold renOf at e
    have hlt : b < imps.length := by
      rcases Nat.lt_or_ge b imps.length with q | q
      · exact q
      · rw [List.getElem?_eq_none q] at e; cases e
    show ((imps ++ outs)[b]?).map _ = _
    rw [List.getElem?_append_left hlt]; exact e
  have hr : ∀ (b : Nat) loc, ((imps ++ outs)[b]?).map (fun x => (⟨x.blk, x.off, none⟩ : Loc)) = some loc → ∃ x, (imps ++ outs)[b]? = some x ∧ b < (imps ++ outs).length ∧ loc = ⟨x.blk, x.off, none⟩ ∧ t.get b = some (.ro x.cs) := by
    intro b loc e
    cases hx : (imps ++ outs)[b]? with
    | none => rw [hx] at e; cases e
    | some x =>
      rw [hx] at e
      simp at e
      have hlt := get_lt hx
      exact ⟨x, rfl, hlt, e.symm, by rw [ht, if_pos hlt, hx]; rfl⟩
  have low : ∀ {g o : Nat} {v : Value}, w.cell? ⟨g, o, none⟩ = some v → g < w.heap.size := fun {g o v} hv => by
    unfold World.cell? at hv
    rcases Nat.lt_or_ge g w.heap.size with q | q
    · exact q
    · rw [Array.getElem?_eq_none q] at hv; cases hv
  refine ⟨fun b => ((imps ++ outs)[b]?).map fun x => ⟨x.blk, x.off, none⟩, { next := (imps ++ outs).length, t }, ⟨?_, ?_, ?_, Nat.le_refl _⟩, rfl, ?_, hle, ?_⟩
  · intro b loc e
    obtain ⟨x, hx, hlt, rfl, hg⟩ := hr b loc e
    refine ⟨hlt, ?_⟩
    show Dm _ _ _ (t.get b)
    rw [hg]
    cases hc : x.cs with
    | nil => exact .inl rfl
    | cons v l =>
      obtain ⟨v', h1, _⟩ := hall x (List.mem_of_getElem? hx) 0 v (by rw [hc]; rfl)
      exact .inr (low h1)
  · intro b loc o e eo
    obtain ⟨x, hx, hlt, rfl, hg⟩ := hr b loc e
    rw [hg] at eo; cases eo
    refine ⟨rfl, fun i v ev => ?_⟩
    obtain ⟨v', h1, h2⟩ := hall x (List.mem_of_getElem? hx) i v ev
    unfold World.cell? at h1
    simp only at h1
    split at h1
    · rename_i C e' f hC
      exact ⟨C, e', f, v', hC, by simpa using h1, h2.mono hle⟩
    · cases h1
  · intro b b' loc loc' e e' _ hl _
    obtain ⟨x, hx, hlt, rfl, hg⟩ := hr b loc e
    obtain ⟨o, h1, h2, h3⟩ := hl
    have : t.get b = some o := h1
    rw [hg] at this; cases this
    cases h3
  · intro b loc e
    obtain ⟨x, hx, hlt, rfl, hg⟩ := hr b loc e
    exact hlt
  · intro b x hx
    have hlt := get_lt hx
    refine ⟨by simp only [hx, Option.map_some], ?_⟩
    show t.get b = _
    rw [ht, if_pos hlt, hx]; rfl

/-- An inner slice, as it is given: an empty one may have any address. -/
structure GivI {α : Type} (w : World) (v : Value) (f : α → List Value) (l : List α) (x : Imp) : Prop where
  ok : ∀ (i : Nat) u, x.cs[i]? = some u → w.cell? ⟨x.blk, x.off + i, none⟩ = some u ∧ flat1 u = true
  cs : x.cs = l.flatMap f
  v : ((v = .slice none 0 0 ∨ ∃ a', v = .slice (some a') 0 0) ∧ l = []) ∨ ∃ cap, v = .slice (some ⟨x.blk, x.off, none⟩) l.length cap ∧ l.length ≤ cap
structure RV where
  rv : Value
  l : List Int
  x : Imp
def RV.f (r : RV) : List Value := [r.rv]
def RV.Q (w : World) (r : RV) : Prop := GivI w r.rv (fun n : Int => [iv n]) r.l r.x
end Go.Ax

/-! Machines and what is flat as arguments. -/
namespace Go.Ax
open Go Go.RowKit Go.Proofs Go.ChangeShapes Go.WideShapes Go.Deep

/-- A machine, as it is given. -/
structure MV where
  rv : Value
  l : List Ou
  x : Imp
def MV.f (r : MV) : List Value := [r.rv]
def MV.Q (w : World) (r : MV) : Prop := GivI w r.rv Ou.f r.l r.x
theorem imports_flat {P : Program} (pre : List Imp) {w : World} (h : ∀ x ∈ pre, ∀ (i : Nat) v, x.cs[i]? = some v → w.cell? ⟨x.blk, x.off + i, none⟩ = some v ∧ flat1 v = true) :
    ∃ (r : Ren) (H : Hp), Rel P r w.heap.size H w ∧ (∀ b loc, r b = some loc → b < H.next) ∧ (∀ (b : Nat) x, pre[b]? = some x → b < H.next ∧ r b = some ⟨x.blk, x.off, none⟩ ∧ H.t.get b = some (.ro x.cs)) := by
  obtain ⟨r, H, h1, h2, h3, h4, h5⟩ := imports3 (P := P) pre [] w h (fun x hx => by simp at hx)
  refine ⟨r, H, h1, h3, fun b x hx => ?_⟩
  have := get_lt hx
  obtain ⟨a, c⟩ := h5 b x (by simpa using hx)
  exact ⟨by rw [h2]; simpa using this, a, c⟩
end Go.Ax


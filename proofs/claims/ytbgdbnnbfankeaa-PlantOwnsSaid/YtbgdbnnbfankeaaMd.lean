import Derived.Test.YtbgdbnnbfankeaaMc
import Derived.Test.YtbgdbnnbfankeaaAxW10
import Derived.Test.YtbgdbnnbfankeaaAxW9
import Derived.Test.YtbgdbnnbfankeaaChecked
import Derived.Test.YtbgdbnnbfankeaaAxO
import Derived.Deep.Slices
import Derived.Deep.Fields
import Derived.ChangeSame
set_option linter.all false
/-
  Plant: all blends, one behind the other (101, 102, 100, 75) (written by program).
-/
namespace Go.Ax
open Go Go.RowKit Go.Proofs

section
variable {kn : FuncId → Option Bool} {lo : Nat} {H : Hp}
theorem cmpl_0 {us : List Tn} {m : Nat} {u : Int} {b : Bl} {s : List Bl} (h : ¬ u > 0) : cmpl us 0 m u b ++ s = b :: s := by
  show (if u > 0 then [] else [b]) ++ s = _
  rw [if_neg h]; rfl
theorem cmpl_00 {us : List Tn} {m : Nat} {u : Int} {b : Bl} {s : List Bl} (h : u > 0) : cmpl us 0 m u b ++ s = s := by
  show (if u > 0 then [] else [b]) ++ s = _
  rw [if_pos h]; rfl
theorem comp_zero {J : List Bl → Hp → Prop} {base : Nat} {Wy : List Nat} {cv : Array Value} {sa : Option Addr} {cap : Nat} {us : List Tn} (hn : us.length ≤ 5) (hok : us.all Tn.ok = true) (hlb : lo ≤ base) (hW : ∀ x ∈ Wy, x < base) (jm : ∀ s H1 H2 W, J s H1 → Keep H1 H2 W → (∀ x ∈ W, base ≤ x) → J s H2) (jt : ∀ s H1, J s H1 → Sl H1 sa us.length cap (tnc us) ∧ ∀ b, sa = some ⟨b, 0, none⟩ → Ft H1 b (tnc us)) (step : ∀ x s H1, (∀ i, 0 ≤ x i ∧ x i ≤ 12) → base ≤ H1.next → J (x :: s) H1 → ∃ H2, CallsX Try.prog kn lo (.fn (.func 102) cv) [.agg (bc x).toArray] H1 (.bool true) H2 ∧ J s H2 ∧ Keep H1 H2 Wy) {u : Int} {b : Bl} {s : List Bl} (hb : ∀ i, 0 ≤ b i ∧ b i ≤ 12) (hbn : base ≤ H.next) (hJ : J (cmpl us 0 us.length u b ++ s) H) :
    ∃ H', FnX Try.prog kn lo 101 [.agg (bc b).toArray, .slice sa us.length cap, iv (us.length : Int), iv u, .func (.func 102) #[] cv] H (.bool true) H' ∧ J s H' ∧ Keep H H' Wy := by
  have key := fnX_low (kn := kn) (lo := lo) (H := H) (args := [.agg (bc b).toArray, .slice sa us.length cap, iv (us.length : Int), iv u, .func (.func 102) #[] cv]) (Q := fun w H' => w = .bool true ∧ J s H' ∧ Keep H H' Wy) Try.func101 B101 N101 Z101 L101 (by simp) ?_
  · obtain ⟨w, H', h, rfl, q⟩ := key; exact ⟨H', h, q⟩
  have hk := Keep.refl H Wy
  refine wN_seq ?_
  refine wN_box (v := .agg (bc b).toArray) rfl ?_
  intro H1 kH1 nH1 c1
  have c1 : Cl H1 H.next [iv (b 0), iv (b 1), iv (b 2), iv (b 3), iv (b 4)] := c1
  have mH1 := kH1.1
  have hk := hk.new kH1 (fun b hb => .inr (by first | (simp at hb; done) | (simp at hb; omega)))
  have hJ := jm _ _ _ _ hJ kH1 (fun x hx => by first | (simp at hx; done) | (simp at hx; omega))
  refine wN_mov (v := .bool false) rfl ?_
  refine wN_end ?_
  refine wN_seq ?_
  refine wN_mov (v := iv (us.length : Int)) rfl ?_
  refine wN_mov (v := .slice sa us.length cap) rfl ?_
  refine wN_len (m := us.length) rfl ?_
  refine wN_c_eql (a := (us.length : Int)) (b := (us.length : Int)) rfl rfl ?_
  refine wN_end ?_
  refine And.intro (fun q1 => ?_) (fun q1 => ?_)
  · have q1 : (us.length : Int) = (us.length : Int) := by simpa using q1
    refine wN_seq ?_
    refine wN_mov (v := iv u) rfl ?_
    refine wN_b_gtr (a := u) (b := 0) rfl rfl ?_
    intro t2 g2; cases t2
    · have g2 : ¬ (u > 0) := of_decide_eq_false g2
      refine wN_mov (v := .bool false) rfl ?_
      refine wN_g rfl (wN_mov (v := .func (.func 102) #[] cv) rfl ?_)
      refine wN_g rfl (wN_lda (b := H.next) (o := 0) rfl c1.rd (show row 5 _ _ = some [iv (b 0), iv (b 1), iv (b 2), iv (b 3), iv (b 4)] from rfl) ?_)
      obtain ⟨H2, fH2, jH2, kH2⟩ := step b s H1 hb (by omega) (by rw [cmpl_0 (by omega)] at hJ; exact hJ)
      refine wN_g rfl (wN_callf (vs := [.agg (bc b).toArray]) rfl fH2 ?_)
      have mH2 := kH2.1
      have hk := hk.new kH2 (fun b hb => .inl hb)
      have hJ := jH2
      have c1 := kH2.cl c1 (fun q => by have := hW _ q; omega)
      refine wN_pur (v := .bool true) rfl rfl ?_
      refine wN_mov (v := .bool true) rfl ?_
      refine wN_end ?_
      exact And.intro trivial (Exists.intro _ (And.intro rfl ⟨rfl, hJ, hk⟩))
    · have g2 : u > 0 := of_decide_eq_true g2
      refine wN_mov (v := .bool true) rfl ?_
      refine wN_gs rfl ?_
      refine wN_gs rfl ?_
      refine wN_gs rfl ?_
      refine wN_pur (v := .bool true) rfl rfl ?_
      refine wN_mov (v := .bool true) rfl ?_
      refine wN_end ?_
      exact And.intro trivial (Exists.intro _ (And.intro rfl ⟨rfl, (by rw [cmpl_00 (by omega)] at hJ; exact hJ), hk⟩))
  · have q1 : ¬ ((us.length : Int) = (us.length : Int)) := by simpa using q1
    exact absurd rfl q1
theorem comp_succ {J : List Bl → Hp → Prop} {base : Nat} {Wy : List Nat} {cv : Array Value} {sa : Option Addr} {cap : Nat} {us : List Tn} (hn : us.length ≤ 5) (hok : us.all Tn.ok = true) (hlb : lo ≤ base) (hW : ∀ x ∈ Wy, x < base) (jm : ∀ s H1 H2 W, J s H1 → Keep H1 H2 W → (∀ x ∈ W, base ≤ x) → J s H2) (jt : ∀ s H1, J s H1 → Sl H1 sa us.length cap (tnc us) ∧ ∀ b, sa = some ⟨b, 0, none⟩ → Ft H1 b (tnc us)) {d nx : Nat} {u : Int} {b : Bl} {s : List Bl} (hd : nx + (d + 1) = us.length) (ih : ∀ (u : Int) (b : Bl) (s : List Bl) (H : Hp), 0 ≤ u → u ≤ 60 → (∀ i, 0 ≤ b i ∧ b i ≤ 12) → base ≤ H.next → J (cmpl us d (nx + 1) u b ++ s) H → ∃ H', FnX Try.prog kn lo 101 [.agg (bc b).toArray, .slice sa us.length cap, iv ((nx : Int) + 1), iv u, .func (.func 102) #[] cv] H (.bool true) H' ∧ J s H' ∧ Keep H H' Wy) (hu0 : 0 ≤ u) (hu : u ≤ 60) (hb : ∀ i, 0 ≤ b i ∧ b i ≤ 12) (hbn : base ≤ H.next) (hJ : J (cmpl us (d + 1) nx u b ++ s) H) :
    ∃ H', FnX Try.prog kn lo 101 [.agg (bc b).toArray, .slice sa us.length cap, iv (nx : Int), iv u, .func (.func 102) #[] cv] H (.bool true) H' ∧ J s H' ∧ Keep H H' Wy := by
  have key := fnX_low (kn := kn) (lo := lo) (H := H) (args := [.agg (bc b).toArray, .slice sa us.length cap, iv (nx : Int), iv u, .func (.func 102) #[] cv]) (Q := fun w H' => w = .bool true ∧ J s H' ∧ Keep H H' Wy) Try.func101 B101 N101 Z101 L101 (by simp) ?_
  · obtain ⟨w, H', h, rfl, q⟩ := key; exact ⟨H', h, q⟩
  have hk := Keep.refl H Wy
  refine wN_seq ?_
  refine wN_box (v := .agg (bc b).toArray) rfl ?_
  intro H1 kH1 nH1 c1
  have c1 : Cl H1 H.next [iv (b 0), iv (b 1), iv (b 2), iv (b 3), iv (b 4)] := c1
  have mH1 := kH1.1
  have hk := hk.new kH1 (fun b hb => .inr (by first | (simp at hb; done) | (simp at hb; omega)))
  have hJ := jm _ _ _ _ hJ kH1 (fun x hx => by first | (simp at hx; done) | (simp at hx; omega))
  refine wN_mov (v := .bool false) rfl ?_
  refine wN_end ?_
  refine wN_seq ?_
  refine wN_mov (v := iv (nx : Int)) rfl ?_
  refine wN_mov (v := .slice sa us.length cap) rfl ?_
  refine wN_len (m := us.length) rfl ?_
  refine wN_c_eql (a := (nx : Int)) (b := (us.length : Int)) rfl rfl ?_
  refine wN_end ?_
  refine And.intro (fun q1 => ?_) (fun q1 => ?_)
  · have q1 : (nx : Int) = (us.length : Int) := by simpa using q1
    omega
  · have q1 : ¬ ((nx : Int) = (us.length : Int)) := by simpa using q1
    first | refine wN_skip ?_ | skip
    refine wN_seq ?_
    refine wN_mov (v := iv u) rfl ?_
    refine wN_mov (v := .slice sa us.length cap) rfl ?_
    refine wN_mov (v := iv (nx : Int)) rfl ?_
    refine wN_add (a := (nx : Int)) (b := 1) rfl rfl ⟨by omega, by omega⟩ ?_
    obtain ⟨hs, hf⟩ := jt _ _ hJ
    obtain ⟨a', c', kd, eA, hlt, hv⟩ := heap_fromT (lo := lo) (k := nx + 1) hs rfl hf (by omega) (by omega)
    refine wN_memh (k := kd) rfl (by kernel_rfl) (eA _ _ _ _ _ _ _ rfl rfl) (fun x e => hlt x e) ?_
    have hun : ∀ i, i < (us.drop (nx + 1)).length → 0 ≤ ((us.drop (nx + 1)).getD i Tn.z).un ∧ ((us.drop (nx + 1)).getD i Tn.z).un ≤ 12 := fun i hi => by rw [List.length_drop] at hi; rw [getD_drop]; exact (Tn.ok_t (tn_at hok (by omega))).1
    obtain ⟨H2, fH2, kH2⟩ := held_ok (kn := kn) (lo := lo) (H := H1) (c := c') hv List.length_drop (by omega) hun (by omega)
    have hhd := hd_in hun (us.length - (nx + 1)) (by rw [List.length_drop]; exact Nat.le_refl _)
    refine wN_callf (vs := [.slice a' (us.length - (nx + 1)) c']) rfl (callX_args fH2) ?_
    have mH2 := kH2.1
    have hk := hk.new kH2 (fun b hb => .inr (by first | (simp at hb; done) | (simp at hb; omega)))
    have hJ := jm _ _ _ _ hJ kH2 (fun x hx => by first | (simp at hx; done) | (simp at hx; omega))
    have c1 := kH2.cl c1 (by simp)
    refine wN_sub (a := u) (b := (hdN (us.drop (nx + 1)) (us.length - (nx + 1)))) rfl rfl ⟨by omega, by omega⟩ ?_
    refine wN_mm (a := 0) (b := u - (hdN (us.drop (nx + 1)) (us.length - (nx + 1)))) rfl rfl ?_
    refine wN_mov (v := iv (max 0 (u - (hdN (us.drop (nx + 1)) (us.length - (nx + 1)))))) rfl ?_
    refine wN_end ?_
    refine wN_seq ?_
    refine wN_mov (v := iv u) rfl ?_
    refine wN_mov (v := .slice sa us.length cap) rfl ?_
    refine wN_mov (v := iv (nx : Int)) rfl ?_
    obtain ⟨hs, hf⟩ := jt _ _ hJ
    rcases id hs with ⟨_, h0, _⟩ | ⟨sb, es, rs, _⟩
    · omega
    have lsb := rs.lt
    have ht := (Tn.ok_t (tn_at hok (show nx < us.length by omega))).1
    refine wN_idx (b := sb) (o := 0) (k := nx) (j := (nx : Int)) (by rw [← es]; rfl) rfl rfl (by omega) ?_
    refine wN_addo (b := sb) (o := 0 + nx * 5) rfl ?_
    refine wN_ld (b := sb) (o := 0 + nx * 5) (v := iv (us.getD nx Tn.z).un) rfl rs (tnc_atF (j := 0) (by omega) rfl) ?_
    refine wN_mm (a := u) (b := (us.getD nx Tn.z).un) rfl rfl ?_
    refine wN_mov (v := iv (min u ((us.getD nx Tn.z).un))) rfl ?_
    refine wN_end ?_
    refine wN_seq ?_
    refine wN_mov (v := iv (max 0 (u - (hdN (us.drop (nx + 1)) (us.length - (nx + 1)))))) rfl ?_
    refine wN_mov (v := iv (max 0 (u - (hdN (us.drop (nx + 1)) (us.length - (nx + 1)))))) rfl ?_
    refine wN_end ?_
    have hl0 : 0 ≤ lstU us nx u := by unfold lstU; omega
    have hm1 : mstU us nx u ≤ u := by unfold mstU; omega
    have hm2 : mstU us nx u ≤ 12 := by unfold mstU unF; omega
    refine loop_low (fn := Try.f101) E101_1 N101 L101x1 (fun v : Int => [(1, .slice sa us.length cap), (2, iv (nx : Int)), (3, iv u), (4, .func (.func 102) #[] cv), (5, pt H.next), (12, iv (mstU us nx u)), (13, iv v)])
      (fun k v H' => k = (mstU us nx u + 1 - v).toNat ∧ lstU us nx u ≤ v ∧ Keep H H' Wy ∧ H2.next ≤ H'.next ∧ (∃ b2, Cl H' H.next (bc b2) ∧ ∀ x, upd b2 nx x = upd b nx x) ∧ J (runs (fun v => cmpl us d (nx + 1) (u - v) (upd b nx v)) k v ++ s) H') (mstU us nx u + 1 - lstU us nx u).toNat (lstU us nx u) ⟨rfl, Int.le_refl _, hk, Nat.le_refl _, ⟨b, c1, fun _ => rfl⟩, hJ⟩ ⟨rfl, rfl, rfl, rfl, rfl, rfl, rfl, trivial⟩ ?_
    rintro k v L1 ⟨hkv, hlv, hk, hnx2, ⟨b2, c5, eb⟩, hJ⟩
    refine wN_seq ?_
    refine wN_mov (v := iv v) rfl ?_
    refine wN_mov (v := iv (mstU us nx u)) rfl ?_
    refine wN_c_leq (a := v) (b := (mstU us nx u)) rfl rfl ?_
    refine wN_end ?_
    refine And.intro (fun q2 => ?_) (fun q2 => ?_)
    · have q2 : v ≤ (mstU us nx u) := of_decide_eq_true q2
      obtain ⟨k, rfl⟩ : ∃ q, k = q + 1 := ⟨k - 1, by omega⟩
      have hJ : J (cmpl us d (nx + 1) (u - v) (upd b nx v) ++ (runs (fun v => cmpl us d (nx + 1) (u - v) (upd b nx v)) k (v + 1) ++ s)) L1 := by rw [← List.append_assoc]; exact hJ
      first | refine wN_skip ?_ | skip
      refine wN_seq ?_
      refine wN_mov (v := iv (nx : Int)) rfl ?_
      refine wN_mov (v := iv v) rfl ?_
      refine wN_idxa (b := H.next) (o := 0) (k := nx) (j := (nx : Int)) rfl rfl rfl (by omega) ?_
      refine wN_st (b := H.next) (o := 0 + nx * 1) (v := iv v) rfl rfl c5 (by omega) rfl rfl (by show 0 + nx * 1 < 5; omega) ?_
      intro H3 kH3 nH3 sH3
      have mH3 := kH3.1
      have hk := hk.new kH3 (fun b hb => .inr (by first | (simp at hb; done) | (simp at hb; omega)))
      have hJ := jm _ _ _ _ hJ kH3 (fun x hx => by first | (simp at hx; done) | (simp at hx; omega))
      have c5 : Cl H3 H.next (bc (upd b nx v)) := by rw [bc_set (by omega), eb] at sH3; exact sH3
      refine wN_end ?_
      refine wN_seq ?_
      refine wN_lda (b := H.next) (o := 0) rfl c5.rd (show row 5 (bc _) 0 = some (bc _) from rfl) ?_
      refine wN_mov (v := .slice sa us.length cap) rfl ?_
      refine wN_mov (v := iv (nx : Int)) rfl ?_
      refine wN_add (a := (nx : Int)) (b := 1) rfl rfl ⟨by omega, by omega⟩ ?_
      refine wN_mov (v := iv u) rfl ?_
      refine wN_mov (v := iv v) rfl ?_
      refine wN_sub (a := u) (b := v) rfl rfl ⟨by omega, by omega⟩ ?_
      refine wN_mov (v := .func (.func 102) #[] cv) rfl ?_
      obtain ⟨H4, fH4, jH4, kH4⟩ := ih (u - v) (upd b nx v) _ H3 (by omega) (by omega) (fun i => by unfold upd; split <;> first | omega | exact hb i) (by omega) hJ
      refine wN_callf (vs := [.agg (bc (upd b nx v)).toArray, .slice sa us.length cap, iv ((nx : Int) + 1), iv (u - v), .func (.func 102) #[] cv]) rfl (callX_args fH4) ?_
      have mH4 := kH4.1
      have hk := hk.new kH4 (fun b hb => .inl hb)
      have hJ := jH4
      have c5 := kH4.cl c5 (fun q => by have := hW _ q; omega)
      refine wN_pur (v := .bool false) rfl rfl ?_
      refine wN_end ?_
      refine condF ?_
      first | refine wN_skip ?_ | skip
      first | refine wN_reg ?_ | refine wN_blk ?_ | refine wN_bseq ?_ | (refine wOps_nil ?_; refine wN_reg ?_)
      refine wN_mov (v := iv v) rfl ?_
      refine wN_add (a := v) (b := 1) rfl rfl ⟨by omega, by omega⟩ ?_
      refine wN_mov (v := iv (v + 1)) rfl ?_
      refine wN_end ?_
      exact ⟨k, v + 1, by omega, ⟨by omega, by omega, hk, by omega, ⟨_, c5, fun x => upd_upd b nx v x⟩, hJ⟩, rfl, rfl, rfl, rfl, rfl, rfl, rfl, trivial⟩
    · have q2 : ¬ (v ≤ (mstU us nx u)) := of_decide_eq_false q2
      have k0 : k = 0 := by omega
      subst k0
      have hJ : J s L1 := hJ
      first | (refine wN_exit ?_; show wC _ _ _ _ _ _ _ _ _) | skip
      refine wN_seq ?_
      refine wN_mov (v := .bool true) rfl ?_
      refine wN_end ?_
      exact And.intro trivial (Exists.intro _ (And.intro rfl ⟨rfl, hJ, hk⟩))
/-- complete -/
theorem comp_ok {J : List Bl → Hp → Prop} {base : Nat} {Wy : List Nat} {cv : Array Value} {sa : Option Addr} {cap : Nat} {us : List Tn} (hn : us.length ≤ 5) (hok : us.all Tn.ok = true) (hlb : lo ≤ base) (hW : ∀ x ∈ Wy, x < base) (jm : ∀ s H1 H2 W, J s H1 → Keep H1 H2 W → (∀ x ∈ W, base ≤ x) → J s H2) (jt : ∀ s H1, J s H1 → Sl H1 sa us.length cap (tnc us) ∧ ∀ b, sa = some ⟨b, 0, none⟩ → Ft H1 b (tnc us)) (step : ∀ x s H1, (∀ i, 0 ≤ x i ∧ x i ≤ 12) → base ≤ H1.next → J (x :: s) H1 → ∃ H2, CallsX Try.prog kn lo (.fn (.func 102) cv) [.agg (bc x).toArray] H1 (.bool true) H2 ∧ J s H2 ∧ Keep H1 H2 Wy) : ∀ (d nx : Nat) (u : Int) (b : Bl) (s : List Bl) (H : Hp), nx + d = us.length → 0 ≤ u → u ≤ 60 → (∀ i, 0 ≤ b i ∧ b i ≤ 12) → base ≤ H.next → J (cmpl us d nx u b ++ s) H →
    ∃ H', FnX Try.prog kn lo 101 [.agg (bc b).toArray, .slice sa us.length cap, iv (nx : Int), iv u, .func (.func 102) #[] cv] H (.bool true) H' ∧ J s H' ∧ Keep H H' Wy
  | 0, nx, u, b, s, H, hd, hu0, hu, hb, hbn, hJ => by
    obtain rfl : nx = us.length := by omega
    exact comp_zero hn hok hlb hW jm jt step hb hbn hJ
  | d + 1, nx, u, b, s, H, hd, hu0, hu, hb, hbn, hJ =>
    comp_succ hn hok hlb hW jm jt hd (fun u b s H => comp_ok hn hok hlb hW jm jt step d (nx + 1) u b s H (by omega)) hu0 hu hb hbn hJ
theorem clos102_ok {Z : Hp → Prop} {x : Bl} {r : Rc} {l bL bR bY : Nat} {sa : Option Addr} {cap : Nat} {us : List Tn} (hs : Sl H sa us.length cap (tnc us)) (hn : us.length ≤ 5) (hok : us.all Tn.ok = true) (hr : r.ok = true) (hb : ∀ i, 0 ≤ x i ∧ x i ≤ 12) (hlo : lo ≤ H.next)
    (rL : Rd H bL [.slice sa us.length cap]) (rR : Rd H bR (Rc.f r)) (rY : Rd H bY [.func (.yield l) #[] #[]])
    (hy : rigB us r x = true → ∀ H1, Keep H H1 [] → ∃ H', CallsX Try.prog kn lo (.fn (.yield l) #[]) [.agg (bc x).toArray] H1 (.bool true) H' ∧ Z H')
    (hz : rigB us r x = false → ∀ H1, Keep H H1 [] → Z H1) :
    ∃ H', FnX Try.prog kn lo 102 [.agg (bc x).toArray, pt bL, pt bR, pt bY] H (.bool true) H' ∧ Z H' := by
  have key := fnX_low (kn := kn) (lo := lo) (H := H) (args := [.agg (bc x).toArray, pt bL, pt bR, pt bY]) (Q := fun w H' => w = .bool true ∧ Z H') Try.func102 B102 N102 Z102 L102 (by simp) ?_
  · obtain ⟨w, H', h, rfl, q⟩ := key; exact ⟨H', h, q⟩
  have hk := Keep.refl H []
  have fs := hs.old
  have lL := rL.lt
  have lR := rR.lt
  have lY := rY.lt
  refine wN_seq ?_
  refine wN_box (v := .agg (bc x).toArray) rfl ?_
  intro H1 kH1 nH1 c1
  have c1 : Cl H1 H.next [iv (x 0), iv (x 1), iv (x 2), iv (x 3), iv (x 4)] := c1
  have mH1 := kH1.1
  have hk := hk.trans kH1
  have rL := kH1.rd rL (by simp)
  have rR := kH1.rd rR (by simp)
  have rY := kH1.rd rY (by simp)
  have hs := kH1.sl0 hs
  refine wN_mov (v := .bool false) rfl ?_
  refine wN_end ?_
  refine wN_seq ?_
  refine wN_lda (b := H.next) (o := 0) rfl c1.rd (show row 5 _ _ = some [iv (x 0), iv (x 1), iv (x 2), iv (x 3), iv (x 4)] from rfl) ?_
  refine wN_ld (b := bL) (o := 0) (v := .slice sa us.length cap) rfl rL rfl ?_
  refine wN_lda (b := bR) (o := 0) rfl rR (show row 7 (Rc.f _) 0 = some (Rc.f _) from rfl) ?_
  obtain ⟨H2, fH2, kH2⟩ := right_ok (kn := kn) (lo := lo) (H := H1) (b := x) (r := r) hs rfl hb hok hn hr (by omega)
  have mH2 := kH2.1
  have hk := hk.trans kH2
  have rL := kH2.rd rL (by simp)
  have rR := kH2.rd rR (by simp)
  have rY := kH2.rd rY (by simp)
  have hs := kH2.sl0 hs
  have c1 := kH2.cl c1 (by simp)
  cases hm9 : rigB us r x
  · rw [hm9] at fH2
    refine wN_callf (vs := [.agg (bc x).toArray, .slice sa us.length cap, .agg (Rc.f r).toArray]) rfl (callX_args fH2) ?_
    refine wN_pur (v := .bool true) rfl rfl ?_
    refine wN_mov (v := .bool true) rfl ?_
    refine wN_gs rfl ?_
    refine wN_gs rfl ?_
    refine wN_gs rfl ?_
    refine wN_pur (v := .bool true) rfl rfl ?_
    refine wN_mov (v := .bool true) rfl ?_
    refine wN_end ?_
    exact And.intro trivial (Exists.intro _ (And.intro rfl ⟨rfl, hz (by assumption) _ hk⟩))
  · rw [hm9] at fH2
    refine wN_callf (vs := [.agg (bc x).toArray, .slice sa us.length cap, .agg (Rc.f r).toArray]) rfl (callX_args fH2) ?_
    refine wN_pur (v := .bool false) rfl rfl ?_
    refine wN_mov (v := .bool false) rfl ?_
    refine wN_g rfl (wN_ld (b := bY) (o := 0) (v := .func (.yield l) #[] #[]) rfl rY rfl ?_)
    refine wN_g rfl (wN_lda (b := H.next) (o := 0) rfl c1.rd (show row 5 _ _ = some [iv (x 0), iv (x 1), iv (x 2), iv (x 3), iv (x 4)] from rfl) ?_)
    obtain ⟨H3, fH3, zH3⟩ := hy (by assumption) _ hk
    refine wN_g rfl (wN_callf (vs := [.agg (bc x).toArray]) rfl fH3 ?_)
    refine wN_pur (v := .bool true) rfl rfl ?_
    refine wN_mov (v := .bool true) rfl ?_
    refine wN_end ?_
    exact And.intro trivial (Exists.intro _ (And.intro rfl ⟨rfl, zH3⟩))
theorem iter100_ok {J : List Bl → Hp → Prop} {base : Nat} {Wy : List Nat} {r : Rc} {l bL bR : Nat} {sa : Option Addr} {cap : Nat} {us : List Tn} (hn : us.length ≤ 5) (hok : us.all Tn.ok = true) (hr : r.ok = true) (hlb : lo ≤ base) (hW : ∀ x ∈ Wy, x < base) (jm : ∀ s H1 H2 W, J s H1 → Keep H1 H2 W → (∀ x ∈ W, base ≤ x) → J s H2) (je : ∀ s H1, J s H1 → Rd H1 bL [.slice sa us.length cap] ∧ Rd H1 bR (Rc.f r) ∧ Sl H1 sa us.length cap (tnc us) ∧ ∀ b, sa = some ⟨b, 0, none⟩ → Ft H1 b (tnc us))
    (step : ∀ x s H1, (∀ i, 0 ≤ x i ∧ x i ≤ 12) → rigB us r x = true → J (x :: s) H1 → base ≤ H1.next → ∃ H2, CallsX Try.prog kn lo (.fn (.yield l) #[]) [.agg (bc x).toArray] H1 (.bool true) H2 ∧ J s H2 ∧ Keep H1 H2 Wy)
    (skip : ∀ x s H1, rigB us r x = false → J (x :: s) H1 → J s H1) (hbn : base ≤ H.next) (hJ : J (allB us r) H) :
    ∃ H', FnX Try.prog kn lo 100 [.func (.yield l) #[] #[], pt bL, pt bR] H unit H' ∧ J [] H' := by
  have key := fnX_low (kn := kn) (lo := lo) (H := H) (args := [.func (.yield l) #[] #[], pt bL, pt bR]) (Q := fun w H' => w = unit ∧ J [] H') Try.func100 B100 N100 Z100 L100 (by simp) ?_
  · obtain ⟨w, H', h, rfl, q⟩ := key; exact ⟨H', h, q⟩
  have hk := Keep.refl H []
  obtain ⟨rL, rR, hs, hf⟩ := je _ _ hJ
  have lL := rL.lt
  have lR := rR.lt
  have hro := (Rc.ok_t hr).1
  refine wN_seq ?_
  refine wN_box (v := .func (.yield l) #[] #[]) rfl ?_
  intro H1 kH1 nH1 c1
  have c1 : Cl H1 H.next [.func (.yield l) #[] #[]] := c1
  have mH1 := kH1.1
  have hk := hk.trans kH1
  have rL := kH1.rd rL (by simp)
  have rR := kH1.rd rR (by simp)
  have hJ := jm _ _ _ _ hJ kH1 (fun x hx => by first | (simp at hx; done) | (simp at hx; omega))
  refine wN_end ?_
  first | refine wN_reg ?_ | refine wN_blk ?_ | refine wN_bseq ?_ | (refine wOps_nil ?_; refine wN_reg ?_)
  refine wN_pur (v := .agg #[iv 0, iv 0, iv 0, iv 0, iv 0]) rfl (by kernel_rfl) ?_
  refine wN_ld (b := bL) (o := 0) (v := .slice sa us.length cap) rfl rL rfl ?_
  refine wN_addo (b := bR) (o := 0) rfl ?_
  refine wN_ld (b := bR) (o := 0) (v := iv r.un) rfl rR rfl ?_
  refine wN_pur (v := .func (.func 102) #[] #[pt bL, pt bR, pt H.next]) rfl (by kernel_rfl) ?_
  obtain ⟨H2, fH2, jH2, kH2⟩ := comp_ok (kn := kn) (lo := lo) (J := fun s H1 => J s H1 ∧ Rd H1 H.next [.func (.yield l) #[] #[]]) (base := H.next + 1) (Wy := Wy) (cv := #[pt bL, pt bR, pt H.next]) (sa := sa) (cap := cap) (us := us) hn hok (by omega) (fun x hx => by have := hW x hx; omega)
    (fun s H1 H2 W j k hw => ⟨jm _ _ _ _ j.1 k (fun x hx => by have := hw x hx; omega), k.rd j.2 (fun q => by have := hw _ q; omega)⟩) (fun s H1 j => ⟨(je _ _ j.1).2.2.1, (je _ _ j.1).2.2.2⟩)
    (fun x s H1 hx hb1 j => by
      obtain ⟨e1, e2, e3, e4⟩ := je _ _ j.1
      obtain ⟨H2, g2, j2, k2⟩ := clos102_ok (kn := kn) (lo := lo) (H := H1) (Z := fun H2 => (J s H2 ∧ Rd H2 H.next [.func (.yield l) #[] #[]]) ∧ Keep H1 H2 Wy) (x := x) e3 hn hok hr hx (by omega) e1 e2 j.2
        (fun hrt H2 k2 => by
          obtain ⟨H3, g3, j3, k3⟩ := step x s H2 hx hrt (jm _ _ _ _ j.1 k2 (fun x hx => by simp at hx)) (by have := k2.1; omega)
          exact ⟨H3, g3, ⟨j3, k3.rd (k2.rd j.2 (by simp)) (fun q => by have := hW _ q; omega)⟩, (k2.mono (by simp)).trans k3⟩)
        (fun hrf H2 k2 => ⟨⟨jm _ _ _ _ (skip x s H1 hrf j.1) k2 (fun x hx => by simp at hx), k2.rd j.2 (by simp)⟩, k2.mono (by simp)⟩)
      exact ⟨H2, callX_func rfl (by simpa using g2), j2, k2⟩)
    us.length 0 r.un bz [] H1 (by omega) (by omega) (by omega) (fun _ => ⟨Int.le_refl _, (by decide : (0:Int) ≤ 12)⟩) (by omega) ⟨by rw [List.append_nil]; exact hJ, c1.rd⟩
  refine wN_callf (vs := [.agg (bc bz).toArray, .slice sa us.length cap, iv 0, iv r.un, .func (.func 102) #[] #[pt bL, pt bR, pt H.next]]) rfl (callX_args fH2) ?_
  refine wN_end ?_
  exact And.intro trivial (Exists.intro _ (And.intro rfl ⟨rfl, jH2.1⟩))
/-- blends -/
theorem blends75_ok {sa : Option Addr} {n cap : Nat} {r : Rc} (hlo : lo ≤ H.next) : ∃ H', FnX Try.prog kn lo 75 [.slice sa n cap, .agg (Rc.f r).toArray] H (.func (.func 100) #[] #[pt H.next, pt (H.next + 1)]) H' ∧ Rd H' H.next [.slice sa n cap] ∧ Rd H' (H.next + 1) (Rc.f r) ∧ H'.next = H.next + 2 ∧ Keep H H' [] := by
  have key := fnX_low (kn := kn) (lo := lo) (H := H) (args := [.slice sa n cap, .agg (Rc.f r).toArray]) (Q := fun w H' => w = (.func (.func 100) #[] #[pt H.next, pt (H.next + 1)]) ∧ Rd H' H.next [.slice sa n cap] ∧ Rd H' (H.next + 1) (Rc.f r) ∧ H'.next = H.next + 2 ∧ Keep H H' []) Try.func75 B75 N75 Z75 L75 (by simp) ?_
  · obtain ⟨w, H', h, rfl, q⟩ := key; exact ⟨H', h, q⟩
  have hk := Keep.refl H []
  refine wN_seq ?_
  refine wN_box (v := .slice sa n cap) rfl ?_
  intro H1 kH1 nH1 c1
  have c1 : Cl H1 H.next [.slice sa n cap] := c1
  have mH1 := kH1.1
  have hk := hk.trans kH1
  refine wN_box (v := .agg (Rc.f r).toArray) rfl ?_
  intro H2 kH2 nH2 c2
  have c2 : Cl H2 H1.next [iv r.un, iv r.s1, iv r.s2, iv r.a1, iv r.a2, iv r.c1, iv r.c2] := c2
  have mH2 := kH2.1
  have hk := hk.trans kH2
  have c1 := kH2.cl c1 (by simp)
  refine wN_mov (v := .nilFunc) rfl ?_
  refine wN_end ?_
  refine wN_seq ?_
  refine wN_pur (v := .func (.func 100) #[] #[pt H.next, pt H1.next]) rfl (by kernel_rfl) ?_
  refine wN_mov (v := .func (.func 100) #[] #[pt H.next, pt H1.next]) rfl ?_
  refine wN_end ?_
  have e2 : H1.next = H.next + 1 := by omega
  rw [e2] at c2
  exact And.intro trivial (Exists.intro _ (And.intro rfl ⟨by rw [e2]; rfl, c1.rd, c2.rd, by omega, hk⟩))
end
end Go.Ax

/-
  Plant: the cheapest blend (53) (written by program).
-/
namespace Go.Ax
open Go Go.RowKit Go.Proofs

noncomputable abbrev asg53 : Code := at_ Try.f53 [1, 0, 1, 0, 0]
noncomputable abbrev body53 : Code := at_ Try.f53 [1, 0, 1, 0, 1]
abbrev S53 (h : Nat) : Rg := [(2, pt h), (4, pt (h + 2)), (5, pt (h + 3))]
theorem isb4 : isAggB Try.prog 4 = some false := by kernel_rfl
theorem res_cab {P : Program} {S : Rg} {H : Hp} {a b x y n : Nat} {t t2 : TypeId} {cs : List Value} {v : Value} (ha : lk S a = some (.pointer (some ⟨x, 0, none⟩))) (hb : lk S b = some (.pointer (some ⟨y, 0, none⟩))) (h1 : isAggB P t = some true) (h2 : isAggB P t2 = some false) (hi : ∃ i, P.info? t = some i ∧ i.size = n) (hl : cs.length = n) (h : Cl H x cs) (h3 : Cl H y [v]) :
    resS P S H [.cell a t, .cell b t2] = some [.agg cs.toArray, v] := by
  simp only [resS, ha, hb, load_agg h1 hi h.rd hl, load_one h2 h3.rd]
structure J53 (us : List Tn) (r : Rc) (sa : Option Addr) (cap : Nat) (H0 : Hp) (s : List Bl) (H' : Hp) : Prop where
  acc : ∃ a, bstB us r a s = bestB us r ∧ Cl H' (H0.next + 2) (bc (a.getD bz)) ∧ Cl H' (H0.next + 3) [.bool a.isSome] ∧ ∀ x, a = some x → ∀ i, 0 ≤ x i ∧ x i ≤ 12
  rL : Rd H' H0.next [.slice sa us.length cap]
  r4 : Rd H' (H0.next + 4) [.slice sa us.length cap]
  r5 : Rd H' (H0.next + 5) (Rc.f r)
  lp : Lp Try.prog H' (H0.next + 7) .ready none 25 (S53 H0.next) [10] asg53 body53 (H0.next + 6)
  dfr : H'.t.get (H0.next + 6) = some (.dfr (some []))
  ll : H0.next + 8 ≤ H'.next
  kp : Keep H0 H' []
theorem J53.keep {us : List Tn} {r : Rc} {sa : Option Addr} {cap : Nat} {H0 : Hp} {s : List Bl} {H1 H2 : Hp} (j : J53 us r sa cap H0 s H1) {W : List Nat} (k : Keep H1 H2 W) (hW : ∀ b ∈ W, H0.next + 8 ≤ b) : J53 us r sa cap H0 s H2 := by
  have nw : ∀ x, x < H0.next + 8 → x ∉ W := fun x hx q => by have := hW x q; omega
  have ll := j.ll
  obtain ⟨a, e, fd, fo, q⟩ := j.acc
  exact ⟨⟨a, e, k.cl fd (nw _ (by omega)), k.cl fo (nw _ (by omega)), q⟩, k.rd j.rL (nw _ (by omega)), k.rd j.r4 (nw _ (by omega)), k.rd j.r5 (nw _ (by omega)), j.lp.keep k (by omega) (nw _ (by omega)), by rw [k.2 _ (by omega) (nw _ (by omega))]; exact j.dfr, Nat.le_trans j.ll k.1, j.kp.new k (fun b q => .inr (by have := hW b q; omega))⟩
section
variable {kn : FuncId → Option Bool} {lo : Nat} {H : Hp}
set_option maxRecDepth 100000 in
theorem round53 {us : List Tn} {r : Rc} {sa : Option Addr} {cap : Nat} {H0 : Hp} (hs : Sl H0 sa us.length cap (tnc us)) (hn : us.length ≤ 5) (hok : us.all Tn.ok = true) (hlo : lo ≤ H0.next) {x : Bl} {s : List Bl} (hx : ∀ i, 0 ≤ x i ∧ x i ≤ 12) (hrt : rigB us r x = true) (j : J53 us r sa cap H0 (x :: s) H) (hnx : H0.next + 8 ≤ H.next) :
    ∃ H', CallsX Try.prog kn lo (.fn (.yield (H0.next + 7)) #[]) [.agg (bc x).toArray] H (.bool true) H' ∧ J53 us r sa cap H0 s H' ∧ Keep H H' [H0.next + 2, H0.next + 3, H0.next + 7] := by
  have L1 : low Try.prog 25 asg53 = some R53x1 := N53 ▸ L53x1
  have L2 : low Try.prog 25 body53 = some R53x2 := N53 ▸ L53x2
  have key := yield_ok (kn := kn) (P := Try.prog) (lo := lo) (S1 := (10, .agg (bc x).toArray) :: S53 H0.next) (args := [.agg (bc x).toArray]) (Q := fun t H' => t = true ∧ J53 us r sa cap H0 s H' ∧ Keep H H' [H0.next + 2, H0.next + 3, H0.next + 7]) j.lp (by omega) (by rfl) rfl (wC_sound true _ L1 ?_)
  · obtain ⟨t, H', h, rfl, q⟩ := key; exact ⟨H', h, q⟩
  have ll := j.ll
  refine wN_reg ?_
  refine wN_alc ?_
  intro H1 k1 n1 c1
  refine wN_sta (b := H.next) (o := 0) (v := .agg (bc x).toArray) rfl rfl c1 (by omega) rfl rfl (by simp) ?_
  intro H2 k2 n2 c2
  have c2 : Cl H2 H.next (bc x) := c2
  refine wN_end ?_
  have k02 : Keep H H2 [] := k1.new k2 (fun b hb => by simp at hb; omega)
  have m2 := k02.1
  have fs0 := hs.old
  refine And.intro trivial (And.intro (j.lp.keep k02 (by omega) (by simp)) ?_)
  intro H3 s3
  have k3 := s3.keep
  have hn3 : H3.next = H2.next := s3.1
  have lp3 := s3.lp (j.lp.keep k02 (by omega) (by simp))
  have nl : ∀ x, x ≠ H0.next + 7 → x ∉ [H0.next + 7] := fun x hx => by simpa using hx
  obtain ⟨a, ea, c20, c30, hab⟩ := j.acc
  have k03 : Keep H H3 [H0.next + 7] := (k02.mono (by simp)).trans k3
  have c6 := k3.cl c2 (nl _ (by omega))
  have c2 := k03.cl c20 (nl _ (by omega))
  have c3 := k03.cl c30 (nl _ (by omega))
  have rL := k03.rd j.rL (nl _ (by omega))
  have kp3 := j.kp.new k03 (fun b q => .inr (by simp at q; omega))
  have hs := kp3.sl0 hs
  have fs := hs.old
  rw [bstB_step hrt] at ea
  have nn : ∀ x, x ≠ H0.next + 2 → x ≠ H0.next + 3 → x ∉ [H0.next + 2, H0.next + 3] := fun x h1 h2 => by simp; omega
  have fin : ∀ H4 a4, Keep H3 H4 [H0.next + 2, H0.next + 3] → Cl H4 (H0.next + 2) (bc (a4.getD bz)) → Cl H4 (H0.next + 3) [.bool a4.isSome] → pickB us a x = a4 → (∀ x, a4 = some x → ∀ i, 0 ≤ x i ∧ x i ≤ 12) →
      Lp Try.prog H4 (H0.next + 7) .busy none 25 (S53 H0.next) [10] asg53 body53 (H0.next + 6) ∧ ∀ H5, SetLp H4 (H0.next + 7) .ready none H5 → (true = true ∧ J53 us r sa cap H0 s H5 ∧ Keep H H5 [H0.next + 2, H0.next + 3, H0.next + 7]) := by
    intro H4 a4 k4 d2 d3 ep hb4
    have m4 := k4.1
    have lp4 := lp3.keep k4 (by omega) (nn _ (by omega) (by omega))
    refine ⟨lp4, fun H5 s5 => ?_⟩
    have k5 := s5.keep
    have hn5 : H5.next = H4.next := s5.1
    have k05 : Keep H H5 [H0.next + 2, H0.next + 3, H0.next + 7] := ((k03.mono (by simp)).trans (k4.mono (by simp))).trans (k5.mono (by simp))
    have n3 : ∀ x, x ≠ H0.next + 2 → x ≠ H0.next + 3 → x ≠ H0.next + 7 → x ∉ [H0.next + 2, H0.next + 3, H0.next + 7] := fun x h1 h2 h3 => by simp; omega
    rw [ep] at ea
    exact ⟨rfl, ⟨⟨a4, ea, k5.cl d2 (nl _ (by omega)), k5.cl d3 (nl _ (by omega)), hb4⟩, k05.rd j.rL (n3 _ (by omega) (by omega) (by omega)), k05.rd j.r4 (n3 _ (by omega) (by omega) (by omega)), k05.rd j.r5 (n3 _ (by omega) (by omega) (by omega)), s5.lp lp4, by rw [k05.2 _ (by omega) (n3 _ (by omega) (by omega) (by omega))]; exact j.dfr, by omega, j.kp.new k05 (fun b q => .inr (by simp at q; omega))⟩, k05⟩
  have hk := Keep.refl H3 [H0.next + 2, H0.next + 3]
  refine wC_sound true _ L2 ?_
  cases a with
  | none =>
    have c2 : Cl H3 (H0.next + 2) (bc bz) := c2
    have c3 : Cl H3 (H0.next + 3) [.bool false] := c3
    refine wD_seq ?_
    refine wD_ld (b := (H0.next + 3)) (o := 0) (v := .bool false) rfl c3.rd rfl ?_
    refine wD_pur (v := .bool true) rfl rfl ?_
    refine wD_mov (v := .bool true) rfl ?_
    refine wD_gs rfl ?_
    refine wD_gs rfl ?_
    refine wD_gs rfl ?_
    refine wD_gs rfl ?_
    refine wD_gs rfl ?_
    refine wD_gs rfl ?_
    refine wD_gs rfl ?_
    refine wD_pur (v := .bool true) rfl rfl ?_
    refine wD_end (by repeat' first | exact True.intro | exact (fun h => h) | refine And.intro ?_ ?_ | (intro h; have h : (_ : Nat) = _ := h; omega)) ?_
    refine condT ?_
    first | refine wN_reg ?_ | refine wN_blk ?_ | refine wN_bseq ?_ | (refine wOps_nil ?_; refine wN_reg ?_)
    refine wN_lda (b := H.next) (o := 0) rfl c6.rd (show row 5 _ _ = some [iv (x 0), iv (x 1), iv (x 2), iv (x 3), iv (x 4)] from rfl) ?_
    refine wN_sta (b := (H0.next + 2)) (o := 0) rfl rfl c2 (by omega) rfl rfl (by simp) ?_
    intro H1 kH1 nH1 sH1
    have mH1 := kH1.1
    have hk := hk.new kH1 (fun b hb => .inl (by first | (simp at hb; done) | (simp at hb; simp [hb])))
    have c3 := kH1.cl c3 (by first | (simp; done) | (simp; omega))
    have c6 := kH1.cl c6 (by first | (simp; done) | (simp; omega))
    have rL := kH1.rd rL (by first | (simp; done) | (simp; omega))
    have hs := kH1.sl hs (fun b e => by have := fs0 b e; first | (simp; done) | (simp; omega))
    have c2 : Cl H1 (H0.next + 2) [iv (x 0), iv (x 1), iv (x 2), iv (x 3), iv (x 4)] := sH1
    refine wN_st (b := (H0.next + 3)) (o := 0) rfl rfl c3 (by omega) rfl rfl (by simp) ?_
    intro H2 kH2 nH2 sH2
    have mH2 := kH2.1
    have hk := hk.new kH2 (fun b hb => .inl (by first | (simp at hb; done) | (simp at hb; simp [hb])))
    have c6 := kH2.cl c6 (by first | (simp; done) | (simp; omega))
    have rL := kH2.rd rL (by first | (simp; done) | (simp; omega))
    have hs := kH2.sl hs (fun b e => by have := fs0 b e; first | (simp; done) | (simp; omega))
    have c2 := kH2.cl c2 (by first | (simp; done) | (simp; omega))
    have c3 : Cl H2 (H0.next + 3) [.bool true] := sH2
    refine wN_end ?_
    exact fin _ (some x) hk c2 c3 rfl (fun z e i => by cases e; exact hx i)
  | some y =>
    have c2 : Cl H3 (H0.next + 2) (bc y) := c2
    have hy := hab y rfl
    have c3 : Cl H3 (H0.next + 3) [.bool true] := c3
    refine wD_seq ?_
    refine wD_ld (b := (H0.next + 3)) (o := 0) (v := .bool true) rfl c3.rd rfl ?_
    refine wD_pur (v := .bool false) rfl rfl ?_
    refine wD_mov (v := .bool false) rfl ?_
    refine wD_g rfl (wD_lda (b := H.next) (o := 0) rfl c6.rd (show row 5 _ _ = some [iv (x 0), iv (x 1), iv (x 2), iv (x 3), iv (x 4)] from rfl) ?_)
    refine wD_g rfl (wD_ld (b := H0.next) (o := 0) (v := .slice sa us.length cap) rfl rL rfl ?_)
    obtain ⟨H1, fH1, kH1⟩ := cost_ok (kn := kn) (lo := H3.next) (H := H3) (b := x) hs rfl hx hok hn (by omega)
    refine wD_g rfl (wD_callh (vs := [.agg (bc x).toArray, .slice sa us.length cap]) rfl rfl (callX_args fH1) ?_)
    have mH1 := kH1.1
    have hk := hk.new kH1 (fun b hb => .inl (by first | (simp at hb; done) | (simp at hb; simp [hb])))
    have c2 := kH1.cl c2 (by simp)
    have c3 := kH1.cl c3 (by simp)
    have c6 := kH1.cl c6 (by simp)
    have rL := kH1.rd rL (by simp)
    have hs := kH1.sl0 hs
    refine wD_g rfl (wD_lda (b := (H0.next + 2)) (o := 0) rfl c2.rd (show row 5 _ _ = some [iv (y 0), iv (y 1), iv (y 2), iv (y 3), iv (y 4)] from rfl) ?_)
    refine wD_g rfl (wD_ld (b := H0.next) (o := 0) (v := .slice sa us.length cap) rfl rL rfl ?_)
    obtain ⟨H2, fH2, kH2⟩ := cost_ok (kn := kn) (lo := lo) (H := H1) (b := y) hs rfl hy hok hn (by omega)
    refine wD_g rfl (wD_callf (vs := [.agg (bc y).toArray, .slice sa us.length cap]) rfl (callX_args fH2) ?_)
    have mH2 := kH2.1
    have hk := hk.new kH2 (fun b hb => .inl (by first | (simp at hb; done) | (simp at hb; simp [hb])))
    have c2 := kH2.cl c2 (by simp)
    have c3 := kH2.cl c3 (by simp)
    have c6 := kH2.cl c6 (by simp)
    have rL := kH2.rd rL (by simp)
    have hs := kH2.sl0 hs
    refine wD_g rfl (wD_b_lss (a := (cosB us x)) (b := (cosB us y)) rfl rfl ?_)
    intro t1 g1; cases t1
    · have g1 : ¬ ((cosB us x) < (cosB us y)) := of_decide_eq_false g1
      refine wD_pur (v := .bool false) rfl rfl ?_
      refine wD_end (by repeat' first | exact True.intro | exact (fun h => h) | refine And.intro ?_ ?_ | (intro h; have h : (_ : Nat) = _ := h; omega)) ?_
      refine condF ?_
      first | refine wN_skip ?_ | skip
      exact fin _ (some y) hk c2 c3 (by unfold pickB; simp only; rw [if_neg (by omega)]) (fun z e i => by cases e; exact hy i)
    · have g1 : (cosB us x) < (cosB us y) := of_decide_eq_true g1
      refine wD_pur (v := .bool true) rfl rfl ?_
      refine wD_end (by repeat' first | exact True.intro | exact (fun h => h) | refine And.intro ?_ ?_ | (intro h; have h : (_ : Nat) = _ := h; omega)) ?_
      refine condT ?_
      first | refine wN_reg ?_ | refine wN_blk ?_ | refine wN_bseq ?_ | (refine wOps_nil ?_; refine wN_reg ?_)
      refine wN_lda (b := H.next) (o := 0) rfl c6.rd (show row 5 _ _ = some [iv (x 0), iv (x 1), iv (x 2), iv (x 3), iv (x 4)] from rfl) ?_
      refine wN_sta (b := (H0.next + 2)) (o := 0) rfl rfl c2 (by omega) rfl rfl (by simp) ?_
      intro H3 kH3 nH3 sH3
      have mH3 := kH3.1
      have hk := hk.new kH3 (fun b hb => .inl (by first | (simp at hb; done) | (simp at hb; simp [hb])))
      have c3 := kH3.cl c3 (by first | (simp; done) | (simp; omega))
      have c6 := kH3.cl c6 (by first | (simp; done) | (simp; omega))
      have rL := kH3.rd rL (by first | (simp; done) | (simp; omega))
      have hs := kH3.sl hs (fun b e => by have := fs0 b e; first | (simp; done) | (simp; omega))
      have c2 : Cl H3 (H0.next + 2) [iv (x 0), iv (x 1), iv (x 2), iv (x 3), iv (x 4)] := sH3
      refine wN_st (b := (H0.next + 3)) (o := 0) rfl rfl c3 (by omega) rfl rfl (by simp) ?_
      intro H4 kH4 nH4 sH4
      have mH4 := kH4.1
      have hk := hk.new kH4 (fun b hb => .inl (by first | (simp at hb; done) | (simp at hb; simp [hb])))
      have c6 := kH4.cl c6 (by first | (simp; done) | (simp; omega))
      have rL := kH4.rd rL (by first | (simp; done) | (simp; omega))
      have hs := kH4.sl hs (fun b e => by have := fs0 b e; first | (simp; done) | (simp; omega))
      have c2 := kH4.cl c2 (by first | (simp; done) | (simp; omega))
      have c3 : Cl H4 (H0.next + 3) [.bool true] := sH4
      refine wN_end ?_
      exact fin _ (some x) hk c2 c3 (by unfold pickB; simp only; rw [if_pos (by omega)]) (fun z e i => by cases e; exact hx i)
set_option maxRecDepth 100000 in
/-- cheapest -/
theorem cheap_ok {us : List Tn} {r : Rc} {sa : Option Addr} {cap : Nat} (hs : Sl H sa us.length cap (tnc us)) (hf : ∀ b, sa = some ⟨b, 0, none⟩ → Ft H b (tnc us)) (hn : us.length ≤ 5) (hok : us.all Tn.ok = true) (hr : r.ok = true) (hlo : lo ≤ H.next) :
    ∃ H', FnX Try.prog kn lo 53 [.slice sa us.length cap, .agg (Rc.f r).toArray] H (.tuple #[.agg (bc ((bestB us r).getD bz)).toArray, .bool (bestB us r).isSome]) H' ∧ Keep H H' [] := by
  have key := fnX_lowR (kn := kn) (lo := lo) (H := H) (args := [.slice sa us.length cap, .agg (Rc.f r).toArray]) (Q := fun w H' => w = .tuple #[.agg (bc ((bestB us r).getD bz)).toArray, .bool (bestB us r).isSome] ∧ Keep H H' []) Try.func53 B53 N53 Z53 L53 (by simp) ?_
  · obtain ⟨w, H', h, rfl, q⟩ := key; exact ⟨H', h, q⟩
  intro y hy
  refine TriR.lowR hy ?_
  refine wN_reg ?_
  refine wN_box (v := .slice sa us.length cap) rfl ?_
  intro H1 k1 n1 c1
  have c1 : Cl H1 H.next [.slice sa us.length cap] := c1
  refine wN_box (v := .agg (Rc.f r).toArray) rfl ?_
  intro H2 k2 n2 c2
  have c2 : Cl H2 H1.next (Rc.f r) := c2
  refine wN_alc ?_
  intro H3 k3 n3 c3
  have c3 : Cl H3 H2.next (bc bz) := c3
  refine wN_alc ?_
  intro H4 k4 n4 c4
  have c4 : Cl H4 H3.next [.bool false] := c4
  refine wN_end ?_
  intro y hy
  refine TriR.lowL hy ?_
  intro z hz
  refine TriR.lowR hz ?_
  refine wN_reg ?_
  have k24 := k3.trans k4
  have k14 := k2.trans k24
  have k04 := k1.trans k14
  refine wN_ld (b := H.next) (o := 0) (v := .slice sa us.length cap) rfl (k14.cl c1 (by simp)).rd rfl ?_
  refine wN_lda (b := H1.next) (o := 0) rfl (k24.cl c2 (by simp)).rd (show row 7 (Rc.f r) 0 = some (Rc.f r) from rfl) ?_
  have e4 : H4.next = H.next + 4 := by omega
  obtain ⟨H5, f5, g1, g2, n5, k5⟩ := blends75_ok (kn := kn) (lo := lo) (H := H4) (sa := sa) (n := us.length) (cap := cap) (r := r) (by omega)
  refine wN_callf (vs := [.slice sa us.length cap, .agg (Rc.f r).toArray]) rfl (callX_args f5) ?_
  refine wN_end ?_
  intro y hy
  refine TriR.lowB hy ?_
  rw [E53_1]
  refine TriR.range rfl ?_
  intro H7 k7 n7 hdf hlp
  have e5 : H5.next = H.next + 6 := by omega
  have hlp : Lp Try.prog H7 (H5.next + 1) .ready none 25 [(2, pt H.next), (4, pt H2.next), (5, pt H3.next)] [10] asg53 body53 H5.next := hlp.weak ⟨rfl, rfl, rfl, trivial⟩
  rw [show H2.next = H.next + 2 by omega, show H3.next = H.next + 3 by omega, e5] at hlp
  rw [e5] at hdf n7
  have k47 : Keep H4 H7 [] := k5.trans k7
  have k07 : Keep H H7 [] := k04.trans k47
  have d1 := (k14.trans k47).cl c1 (by simp)
  have d3 := (k4.trans k47).cl c3 (by simp)
  have d4 := k47.cl c4 (by simp)
  rw [show H2.next = H.next + 2 by omega] at d3
  rw [show H3.next = H.next + 3 by omega] at d4
  rw [e4] at g1 g2
  have j0 : J53 us r sa cap H (allB us r) H7 := ⟨⟨none, rfl, d3, d4, fun x e => by cases e⟩, d1.rd, k7.rd g1 (by simp), k7.rd g2 (by simp), hlp, hdf, by omega, k07⟩
  obtain ⟨H8, f8, j8⟩ := iter100_ok (kn := kn) (lo := lo) (H := H7) (J := J53 us r sa cap H) (base := H.next + 8) (Wy := [H.next + 2, H.next + 3, H.next + 7]) (r := r) (l := H.next + 7) (bL := H.next + 4) (bR := H.next + 5) (sa := sa) (cap := cap) (us := us) hn hok hr (by omega) (fun x hx => by simp at hx; omega)
    (fun s H1 H2 W j k hw => j.keep k hw) (fun s H1 j => ⟨j.r4, j.r5, j.kp.sl0 hs, fun b e => j.kp.ft (hf b e) (by simp)⟩)
    (fun x s H1 hx hrt j hb => round53 hs hn hok hlo hx hrt j hb)
    (fun x s H1 hrf j => by
      obtain ⟨a, e, q⟩ := j.acc
      rw [bstB_skip hrf] at e
      exact { j with acc := ⟨a, e, q⟩ }) (by omega) j0
  refine Exists.intro _ (Exists.intro H8 (And.intro (callX_func rfl (by rw [e4, e5]; simpa using f8)) ?_))
  have lp8 : Lp Try.prog H8 (H5.next + 1) .ready none 25 (S53 H.next) [10] asg53 body53 H5.next := by rw [e5]; exact j8.lp
  refine ⟨.ready, none, _, lp8, by simp, ?_⟩
  intro H9 s9
  have k9 := s9.keep
  have hn9 : H9.next = H8.next := s9.1
  rw [e5] at k9
  have ll := j8.ll
  have nl : ∀ x, x ≠ H.next + 7 → x ∉ [H.next + 6 + 1] := fun x hx => by simp; omega
  have d9 : H9.t.get H5.next = some (.dfr (some [])) := by rw [e5, k9.2 _ (by omega) (nl _ (by omega))]; exact j8.dfr
  obtain ⟨a, ea, fd, fo, hab⟩ := j8.acc
  have ea : a = bestB us r := ea
  have fd := k9.cl fd (nl _ (by omega))
  have fo := k9.cl fo (nl _ (by omega))
  have kp9 : Keep H H9 [] := j8.kp.new k9 (fun b q => .inr (by simp at q; omega))
  rw [← ea]
  have e2 : H2.next = H.next + 2 := by omega
  have e3 : H3.next = H.next + 3 := by omega
  rw [← e2] at fd
  rw [← e3] at fo
  refine wD_seq ?_
  refine wD_lda (b := H2.next) (o := 0) (q := bc (a.getD bz)) rfl fd.rd rfl ?_
  refine wD_ld (b := H3.next) (o := 0) (v := .bool a.isSome) rfl fo.rd rfl ?_
  refine wD_sta (b := H2.next) (o := 0) (v := .agg (bc (a.getD bz)).toArray) rfl rfl fd (by omega) rfl rfl (by simp) ?_
  intro H10 k10 n10 c10
  have c10 : Cl H10 H2.next (bc (a.getD bz)) := c10
  have fo := k10.cl fo (by simp; omega)
  refine wD_st (b := H3.next) (o := 0) (v := .bool a.isSome) rfl rfl fo (by omega) rfl rfl (by simp) ?_
  intro H11 k11 n11 c11
  have c11 : Cl H11 H3.next [.bool a.isSome] := c11
  have c10 := k11.cl c10 (by simp; omega)
  refine wD_end (by repeat' first | exact True.intro | exact (fun h => h) | refine And.intro ?_ ?_ | (intro h; have h : (_ : Nat) = _ := h; omega)) ?_
  have kpA : Keep H H11 [] := (kp9.new k10 (fun b q => .inr (by simp at q; omega))).new k11 (fun b q => .inr (by simp at q; omega))
  refine And.intro trivial (Or.inr ⟨H5.next, rfl, by omega, by rw [k11.2 _ (by omega) (by simp; omega), k10.2 _ (by omega) (by simp; omega)]; exact d9, fun H12 hn12 hk12 => ?_⟩)
  exact ⟨_, res_cab (x := H2.next) (y := H3.next) rfl rfl a89 isb4 i89s rfl (hk12.cl c10 (by simp; omega)) (hk12.cl c11 (by simp; omega)), rfl, kpA.new hk12 (fun b q => .inr (by simp at q; omega))⟩
end
end Go.Ax

/-
  Plant: an hour, step by step; append that leaves all but its own block (written by program).
-/
namespace Go.Ax
open Go Go.RowKit

theorem heap_append_out {P : Program} {lo : Nat} {H : Hp} {t0 t1 e ep : TypeId} {size k cap2 f : Nat} {a : Option Addr} {v : Value} {cs news : List Value} (he : sliceElem P t0 = some (e, size)) (ht : P.underlying t1 = some (.slice ep))
    (hs : Sl H a 1 cap2 news) (hl : news.length = 1 * size) (hz : 0 < size) (hone : news.all one = true) (hcl : cs.length = k * size) (hk : k < 1000) (ha : Acc lo f e H v k cs) (hlo : lo ≤ H.next) (hf : f ≤ H.next) :
    ∃ H1 kd, (∀ (n : Nat) (S : Rg) (d : Option Tmp) (x y : Operand) (ty : TypeId) (p : String), evS S x = some v → evS S y = some (.slice a 1 cap2) → heapOp P lo (frS n S) H ⟨d, .call ⟨.builtin .append, #[x, y], #[t0, t1]⟩, ty, p, #[], none⟩ = some (.val (.slice (some ⟨H.next, 0, none⟩) (k + 1) (k + 1)) H1, kd)) ∧ (kd = .heavy ∨ ∃ b, kd = .store b ∧ f ≤ b) ∧
      Acc lo f e H1 (.slice (some ⟨H.next, 0, none⟩) (k + 1) (k + 1)) (k + 1) (cs ++ news) ∧ Keep H H1 (bkv v).toList := by
  rcases ha with ⟨rfl, rfl, rfl⟩ | ⟨b, rfl, h0, hb, hlb, hn, hg⟩
  · refine ⟨H.new (.cells news e true), .heavy, ?_, .inl rfl, ?_, (new_facts rfl).1.mono (by simp)⟩
    · intro n S d x y ty p hx hy
      unfold heapOp
      simp only [evs, ev_frS, hx, hy, builtinV, List.getElem?_toArray, List.getElem?_cons_zero, List.getElem?_cons_succ, he, ht, src_of hs hl, appendV]
      rfl
    · refine .inr ⟨H.next, rfl, by omega, hf, hlo, Nat.lt_succ_self _, ?_⟩
      show (H.t.set H.next _).get H.next = _
      rw [Tr.get_set, if_pos rfl]; rfl
  · have h1 : Nat.ble (0 + (k + 1) * size) cs.length = false := by
      cases h : Nat.ble (0 + (k + 1) * size) cs.length with
      | false => rfl
      | true => have := Nat.le_of_ble_eq_true h; rw [hcl, Nat.succ_mul] at this; omega
    have h2 : Nat.beq (0 + k * size) cs.length = true := by rw [hcl, Nat.zero_add]; exact Nat.beq_refl _
    have h3 : Nat.ble (k + 1) 1048576 = true := Nat.ble_eq_true_of_le (by omega)
    have h4 : Nat.beq e e = true := Nat.beq_refl e
    refine ⟨({ H with t := H.t.set b .dead } : Hp).new (.cells (cs ++ news) e true), .store b, ?_, .inr ⟨b, rfl, hb⟩, ?_, ?_⟩
    · intro n S d x y ty p hx hy
      unfold heapOp
      simp only [evs, ev_frS, hx, hy, builtinV, List.getElem?_toArray, List.getElem?_cons_zero, List.getElem?_cons_succ, he, ht, src_of hs hl, appendV, hg, h1, h2, h3, h4, hone, Nat.ble_eq_true_of_le hlb, Bool.and_self, cond_true, cond_false, List.drop_zero, show Nat.beq 1 0 = false from rfl]
    · refine .inr ⟨H.next, rfl, by omega, hf, hlo, Nat.lt_succ_self _, ?_⟩
      show ((H.t.set b .dead).set H.next _).get H.next = _
      rw [Tr.get_set, if_pos rfl]
    · refine ⟨Nat.le_succ _, fun c hc hn => ?_, fun c xs hc hx => ?_⟩
      · have hne : c ≠ b := by simpa [bkv] using hn
        show ((H.t.set b .dead).set H.next _).get c = _
        rw [Tr.get_set, if_neg (by omega), Tr.get_set, if_neg hne]
      · have hx : ((H.t.set b .dead).set H.next (.cells (cs ++ news) e true)).get c = some (.ro xs) := hx
        have hc : c < H.next + 1 := hc
        rw [Tr.get_set] at hx
        split at hx
        · cases hx
        · rw [Tr.get_set] at hx
          split at hx
          · cases hx
          · exact ⟨by omega, hx⟩
theorem bkv_in {lo f : Nat} {e : TypeId} {H : Hp} {v : Value} {n : Nat} {cs : List Value} (h : Acc lo f e H v n cs) : ∀ x ∈ (bkv v).toList, f ≤ x ∧ x < H.next := by
  intro x hx
  rcases h with ⟨_, _, rfl⟩ | ⟨b, rfl, _, h2, _, h3, _⟩
  · simp [bkv] at hx
  · simp [bkv] at hx; subst hx; exact ⟨h2, h3⟩
section
variable {L : Nat → Nat} {rd left dn ms : Nat → Int} {h R : Int} {n k t : Nat}
theorem hst_wait (hr : rd (L k) ≤ h) : hst L rd h R left (k + 1) = (upd (hst L rd h R left k).1 (L k) ((hst L rd h R left k).1 (L k) - min (hst L rd h R left k).2 ((hst L rd h R left k).1 (L k))), (hst L rd h R left k).2 - min (hst L rd h R left k).2 ((hst L rd h R left k).1 (L k))) := by
  have g : gt rd h (hst L rd h R left k) (L k) = min (hst L rd h R left k).2 ((hst L rd h R left k).1 (L k)) := by unfold gt; rw [if_pos hr]
  show (upd _ _ (_ - gt rd h (hst L rd h R left k) (L k)), _ - gt rd h (hst L rd h R left k) (L k)) = _
  rw [g]
theorem upd_same (f : Nat → Int) (x : Nat) : upd f x (f x) = f := by
  funext y; unfold upd; split
  · rename_i e; rw [e]
  · rfl
theorem hst_idle (hi : ¬ (rd (L k) ≤ h ∧ 0 < (hst L rd h R left k).1 (L k))) (nn : 0 ≤ (hst L rd h R left k).1 (L k)) (hm : 0 ≤ (hst L rd h R left k).2) : hst L rd h R left (k + 1) = hst L rd h R left k := by
  have g : gt rd h (hst L rd h R left k) (L k) = 0 := by unfold gt; split <;> omega
  show (upd _ _ (_ - gt rd h (hst L rd h R left k) (L k)), _ - gt rd h (hst L rd h R left k) (L k)) = _
  rw [g, Int.sub_zero, Int.sub_zero, upd_same]
theorem dst_idle (hi : ¬ (rd (L k) ≤ h ∧ 0 < (hst L rd h R left k).1 (L k))) (nn : 0 ≤ (hst L rd h R left k).1 (L k)) (hm : 0 ≤ (hst L rd h R left k).2) : dst L rd h R left dn (k + 1) = dst L rd h R left dn k := by
  show (if _ then _ else _) = _
  rw [hst_idle hi nn hm, if_neg (by omega)]
theorem dst_go (h1 : 0 < (hst L rd h R left k).1 (L k)) (h2 : (hst L rd h R left (k + 1)).1 (L k) = 0) : dst L rd h R left dn (k + 1) = upd (dst L rd h R left dn k) (L k) (h + 1) := by
  show (if _ then _ else _) = _
  rw [if_pos ⟨h1, h2⟩]
theorem dst_no (h2 : (hst L rd h R left (k + 1)).1 (L k) ≠ 0) : dst L rd h R left dn (k + 1) = dst L rd h R left dn k := by
  show (if _ then _ else _) = _
  rw [if_neg (fun q => h2 q.2)]
variable {du : Nat → Int}
theorem lfA_nn (hO : OO du n n L) (hm : ∀ x, x < n → 0 ≤ ms x) (hR : 0 ≤ R) : ∀ t p, p < n → 0 ≤ lfA L rd R ms n t (L p) ∧ lfA L rd R ms n t (L p) ≤ ms (L p)
  | 0, p, hp => ⟨hm _ (hO.lt p hp), Int.le_refl _⟩
  | t + 1, p, hp => by
    have a := fun p hp => (lfA_nn hO hm hR t p hp).1
    have b := (hst_hr (L := L) (rd := rd) (h := (t : Int)) (R := R) hO.inj a hR).nn p hp
    have c := (lfA_nn hO hm hR t p hp).2
    exact ⟨b.1, Int.le_trans b.2 c⟩
/-- within an hour -/
theorem hst_in (hO : OO du n n L) (hm : ∀ x, x < n → 0 ≤ ms x) (hR : 0 ≤ R) (hk : k ≤ n) : (∀ p, p < n → 0 ≤ (hst L rd t R (lfA L rd R ms n t) k).1 (L p) ∧ (hst L rd t R (lfA L rd R ms n t) k).1 (L p) ≤ ms (L p)) ∧ 0 ≤ (hst L rd t R (lfA L rd R ms n t) k).2 ∧ (hst L rd t R (lfA L rd R ms n t) k).2 ≤ R := by
  have a := lfA_nn (rd := rd) hO hm hR t
  obtain ⟨_, b2, _, b4, b5, _⟩ := hst_all (rd := rd) (h := (t : Int)) hO.inj (fun p hp => (a p hp).1) hR k hk
  refine ⟨fun p hp => ⟨(b2 p hp).1, Int.le_trans (b2 p hp).2 (a p hp).2⟩, b4, ?_⟩
  have : 0 ≤ sm (fun p => lfA L rd R ms n t (L p) - (hst L rd t R (lfA L rd R ms n t) k).1 (L p)) k := sm_nn fun p hp => by have := (b2 p (by omega)).2; omega
  omega
theorem hour_stop (hO : OO du n n L) (hm : ∀ x, x < n → 0 ≤ ms x) (hR : 0 ≤ R) (hk : k ≤ n) (h0 : (hst L rd t R (lfA L rd R ms n t) k).2 = 0) :
    lfA L rd R ms n (t + 1) = (hst L rd t R (lfA L rd R ms n t) k).1 ∧ ∀ dn, dst L rd t R (lfA L rd R ms n t) dn n = dst L rd t R (lfA L rd R ms n t) dn k := by
  have nn : ∀ q, q ≤ n → ∀ p, p < n → 0 ≤ (hst L rd t R (lfA L rd R ms n t) q).1 (L p) := fun q hq p hp => ((hst_in (rd := rd) (t := t) hO hm hR hq).1 p hp).1
  have a := hst_stop nn h0 (n - k) (by omega)
  rw [show k + (n - k) = n by omega] at a
  refine ⟨?_, fun dn => ?_⟩
  · show (hst L rd t R (lfA L rd R ms n t) n).1 = _; rw [a]
  · have b := dst_stop (dn := dn) nn h0 (n - k) (by omega)
    rw [show k + (n - k) = n by omega] at b; exact b
end
end Go.Ax

/-
 Plant: the program's freezer: Frozen (written by program).
-/
namespace Go.Ax
open Go Go.RowKit Go.Proofs

section
variable {kn : FuncId → Option Bool} {lo : Nat} {H : Hp}
theorem first81_ok {x : Fz} (hlo : lo ≤ H.next) : ∃ H', FnX Try.prog kn lo 81 [.agg (Fz.f x).toArray] H (iv (if x.ms = 0 then x.rd else 501)) H' ∧ Keep H H' [] := by
 have key := fnX_low (kn := kn) (lo := lo) (H := H) (args := [.agg (Fz.f x).toArray]) (Q := fun w H' => w = iv (if x.ms = 0 then x.rd else 501) ∧ Keep H H' []) Try.func81 B81 N81 Z81 L81 (by simp) ?_
 ·obtain ⟨w, H', h, rfl, q⟩ := key; exact ⟨H', h, q⟩
 have hk := Keep.refl H []
 refine wN_seq ?_
 refine wN_box (v := .agg (Fz.f x).toArray) rfl ?_
 intro H1 kH1 nH1 c1
 have c1 : Cl H1 H.next [iv x.rd, iv x.du, iv x.ms] := c1
 have mH1 := kH1.1
 have hk := hk.trans kH1
 refine wN_mov (v := iv 0) rfl ?_
 refine wN_end ?_
 refine wN_seq ?_
 refine wN_addo (b := H.next) (o := 0) rfl ?_
 refine wN_ld (b := H.next) (o := 2) (v := iv x.ms) rfl c1.rd rfl ?_
 refine wN_c_eql (a := x.ms) (b := 0) rfl rfl ?_
 refine wN_end ?_
 refine And.intro (fun q1 => ?_) (fun q1 => ?_)
 ·have q1 : x.ms = 0 := by simpa using q1
  refine wN_seq ?_
  refine wN_addo (b := H.next) (o := 0) rfl ?_
  refine wN_ld (b := H.next) (o := 0) (v := iv x.rd) rfl c1.rd rfl ?_
  refine wN_mov (v := iv x.rd) rfl ?_
  refine wN_end ?_
  exact And.intro trivial (Exists.intro _ (And.intro rfl ⟨congrArg iv (show (x.rd : Int) = (if x.ms = 0 then x.rd else 501) from (by symm; rw [if_pos (by omega)])), hk⟩))
 ·have q1 : ¬ (x.ms = 0) := by simpa using q1
  first | refine wN_skip ?_ | skip
  refine wN_seq ?_
  refine wN_mov (v := iv 501) rfl ?_
  refine wN_end ?_
  exact And.intro trivial (Exists.intro _ (And.intro rfl ⟨congrArg iv (show (501 : Int) = (if x.ms = 0 then x.rd else 501) from (by symm; rw [if_neg (by omega)])), hk⟩))
/-- isWaiting -/
theorem waiting_ok {sa : Option Addr} {n cap bl cl x : Nat} {us : List Fz} {lf : Nat → Int} {h : Int} (hs : Sl H sa n cap (fzc us)) (hl : us.length = n) (hx : x < n) (hn : n ≤ 1000000) (cl0 : Cl H bl (nf lf n)) (hlo : lo ≤ H.next) : ∃ H', FnX Try.prog kn lo 83 [.agg #[.slice sa n cap, .slice (some ⟨bl, 0, none⟩) n cl], iv (x : Int), iv h] H (.bool (decide (rdF us x ≤ h ∧ 0 < lf x))) H' ∧ Keep H H' [] := by
 have key := fnX_low (kn := kn) (lo := lo) (H := H) (args := [.agg #[.slice sa n cap, .slice (some ⟨bl, 0, none⟩) n cl], iv (x : Int), iv h]) (Q := fun w H' => w = .bool (decide (rdF us x ≤ h ∧ 0 < lf x)) ∧ Keep H H' []) Try.func83 B83 N83 Z83 L83 (by simp) ?_
 ·obtain ⟨w, H', h, rfl, q⟩ := key; exact ⟨H', h, q⟩
 have hk := Keep.refl H []
 obtain ⟨y, hy⟩ := get_some (l := us) (i := x) (by omega)
 rcases id hs with ⟨_, h0, _⟩ | ⟨sb, es, rs, _⟩
 ·omega
 have lsb := rs.lt
 have lbl := cl0.lt
 refine wN_seq ?_
 refine wN_box (v := .agg #[.slice sa n cap, .slice (some ⟨bl, 0, none⟩) n cl]) rfl ?_
 intro H1 kH1 nH1 c1
 have c1 : Cl H1 H.next [.slice sa n cap, .slice (some ⟨bl, 0, none⟩) n cl] := c1
 have mH1 := kH1.1
 have hk := hk.trans kH1
 have rs := kH1.rd rs (by simp)
 have cl0 := kH1.cl cl0 (by simp)
 refine wN_mov (v := .bool false) rfl ?_
 refine wN_end ?_
 refine wN_seq ?_
 refine wN_addo (b := H.next) (o := 0) rfl ?_
 refine wN_ld (b := H.next) (o := 0) (v := .slice sa n cap) rfl c1.rd rfl ?_
 refine wN_mov (v := iv (x : Int)) rfl ?_
 refine wN_idx (b := sb) (o := 0) (k := x) (j := (x : Int)) (by rw [← es]; rfl) rfl rfl (by omega) ?_
 refine wN_addo (b := sb) (o := 0 + x * 3) rfl ?_
 refine wN_ld (b := sb) (o := 0 + x * 3) (v := iv (rdF us x)) rfl rs (by rw [(Fz.at hy).2.1]; exact (by have q := fzc_at (j := 0) hy rfl; exact q)) ?_
 refine wN_mov (v := iv h) rfl ?_
 refine wN_b_leq (a := (rdF us x)) (b := h) rfl rfl ?_
 intro t1 g1; cases t1
 ·have g1 : ¬ ((rdF us x) ≤ h) := of_decide_eq_false g1
  refine wN_mov (v := .bool false) rfl ?_
  refine wN_gs rfl ?_
  refine wN_gs rfl ?_
  refine wN_gs rfl ?_
  refine wN_gs rfl ?_
  refine wN_gs rfl ?_
  refine wN_gs rfl ?_
  refine wN_pur (v := .bool false) rfl rfl ?_
  refine wN_mov (v := .bool false) rfl ?_
  refine wN_end ?_
  exact And.intro trivial (Exists.intro _ (And.intro rfl ⟨congrArg Value.bool (show false = decide (rdF us x ≤ h ∧ 0 < lf x) from (by symm; first | (exact decide_eq_true (by omega)) | (exact decide_eq_false (by omega)))), hk⟩))
 ·have g1 : (rdF us x) ≤ h := of_decide_eq_true g1
  refine wN_mov (v := .bool true) rfl ?_
  refine wN_g rfl (wN_addo (b := H.next) (o := 0) rfl ?_)
  refine wN_g rfl (wN_ld (b := H.next) (o := 1) (v := .slice (some ⟨bl, 0, none⟩) n cl) rfl c1.rd rfl ?_)
  refine wN_g rfl (wN_mov (v := iv (x : Int)) rfl ?_)
  refine wN_g rfl (wN_idx (b := bl) (o := 0) (k := x) (j := (x : Int)) rfl rfl rfl (by omega) ?_)
  refine wN_g rfl (wN_ld (b := bl) (o := 0 + x * 1) (v := iv (lf x)) rfl cl0.rd (nf_at (f := lf) (by omega)) ?_)
  refine wN_g rfl (wN_b_gtr (a := (lf x)) (b := 0) rfl rfl ?_)
  intro t2 g2; cases t2
  ·have g2 : ¬ ((lf x) > 0) := of_decide_eq_false g2
   refine wN_pur (v := .bool false) rfl rfl ?_
   refine wN_mov (v := .bool false) rfl ?_
   refine wN_end ?_
   exact And.intro trivial (Exists.intro _ (And.intro rfl ⟨congrArg Value.bool (show false = decide (rdF us x ≤ h ∧ 0 < lf x) from (by symm; first | (exact decide_eq_true (by omega)) | (exact decide_eq_false (by omega)))), hk⟩))
  ·have g2 : (lf x) > 0 := of_decide_eq_true g2
   refine wN_pur (v := .bool true) rfl rfl ?_
   refine wN_mov (v := .bool true) rfl ?_
   refine wN_end ?_
   exact And.intro trivial (Exists.intro _ (And.intro rfl ⟨congrArg Value.bool (show true = decide (rdF us x ≤ h ∧ 0 < lf x) from (by symm; first | (exact decide_eq_true (by omega)) | (exact decide_eq_false (by omega)))), hk⟩))
/-- freeze -/
theorem freeze_ok {sa : Option Addr} {n cap bl cl x : Nat} {us : List Fz} {lf : Nat → Int} {h : Int} (hs : Sl H sa n cap (fzc us)) (hl : us.length = n) (hx : x < n) (hn : n ≤ 1000000) (cl0 : Cl H bl (nf lf n)) (hlo : lo ≤ H.next) (hlb : lo ≤ bl) (hR : 0 ≤ h ∧ h ≤ 17592186044416) (hlf : 0 ≤ lf x ∧ lf x ≤ 1099511627776) : ∃ H', FnX Try.prog kn lo 84 [.agg #[.slice sa n cap, .slice (some ⟨bl, 0, none⟩) n cl], iv (x : Int), iv h] H (iv (h - min h (lf x))) H' ∧ Keep H H' [bl] ∧ Cl H' bl (nf (upd lf x (lf x - min h (lf x))) n) := by
 have key := fnX_low (kn := kn) (lo := lo) (H := H) (args := [.agg #[.slice sa n cap, .slice (some ⟨bl, 0, none⟩) n cl], iv (x : Int), iv h]) (Q := fun w H' => w = iv (h - min h (lf x)) ∧ Keep H H' [bl] ∧ Cl H' bl (nf (upd lf x (lf x - min h (lf x))) n)) Try.func84 B84 N84 Z84 L84 (by simp) ?_
 ·obtain ⟨w, H', h, rfl, q⟩ := key; exact ⟨H', h, q⟩
 have hk := Keep.refl H [bl]
 have lbl := cl0.lt
 refine wN_seq ?_
 refine wN_box (v := .agg #[.slice sa n cap, .slice (some ⟨bl, 0, none⟩) n cl]) rfl ?_
 intro H1 kH1 nH1 c1
 have c1 : Cl H1 H.next [.slice sa n cap, .slice (some ⟨bl, 0, none⟩) n cl] := c1
 have mH1 := kH1.1
 have hk := hk.trans (kH1.mono (by simp))
 have cl0 := kH1.cl cl0 (by simp)
 refine wN_mov (v := iv 0) rfl ?_
 refine wN_end ?_
 refine wN_seq ?_
 refine wN_mov (v := iv h) rfl ?_
 refine wN_addo (b := H.next) (o := 0) rfl ?_
 refine wN_ld (b := H.next) (o := 1) (v := .slice (some ⟨bl, 0, none⟩) n cl) rfl c1.rd rfl ?_
 refine wN_mov (v := iv (x : Int)) rfl ?_
 refine wN_idx (b := bl) (o := 0) (k := x) (j := (x : Int)) rfl rfl rfl (by omega) ?_
 refine wN_ld (b := bl) (o := 0 + x * 1) (v := iv (lf x)) rfl cl0.rd (nf_at (f := lf) (by omega)) ?_
 refine wN_mm (a := h) (b := (lf x)) rfl rfl ?_
 refine wN_mov (v := iv (min h (lf x))) rfl ?_
 refine wN_end ?_
 refine wN_seq ?_
 refine wN_addo (b := H.next) (o := 0) rfl ?_
 refine wN_ld (b := H.next) (o := 1) (v := .slice (some ⟨bl, 0, none⟩) n cl) rfl c1.rd rfl ?_
 refine wN_mov (v := iv (x : Int)) rfl ?_
 refine wN_idx (b := bl) (o := 0) (k := x) (j := (x : Int)) rfl rfl rfl (by omega) ?_
 refine wN_ld (b := bl) (o := 0 + x * 1) (v := iv (lf x)) rfl cl0.rd (nf_at (f := lf) (by omega)) ?_
 refine wN_mov (v := iv (min h (lf x))) rfl ?_
 refine wN_sub (a := (lf x)) (b := min h (lf x)) rfl rfl ⟨by omega, by omega⟩ ?_
 refine wN_idx (b := bl) (o := 0) (k := x) (j := (x : Int)) rfl rfl rfl (by omega) ?_
 refine wN_st (b := bl) (o := 0 + x * 1) (v := iv ((lf x) - (min h (lf x)))) rfl rfl cl0 (by omega) rfl rfl (by rw [nf_len]; omega) ?_
 intro H2 kH2 nH2 sH2
 have mH2 := kH2.1
 have hk := hk.new kH2 (fun b hb => by simp at hb ⊢; omega)
 have c1 := kH2.cl c1 (by first | (simp; done) | (simp; omega))
 have c2 := sH2
 rw [nf_set hx] at c2
 refine wN_end ?_
 refine wN_seq ?_
 refine wN_mov (v := iv h) rfl ?_
 refine wN_mov (v := iv (min h (lf x))) rfl ?_
 refine wN_sub (a := h) (b := min h (lf x)) rfl rfl ⟨by omega, by omega⟩ ?_
 refine wN_mov (v := iv (h - (min h (lf x)))) rfl ?_
 refine wN_end ?_
 exact And.intro trivial (Exists.intro _ (And.intro rfl ⟨rfl, hk, c2⟩))
set_option maxHeartbeats 2000000 in
/-- frozen -/
theorem frozen_ok {sa : Option Addr} {n cap : Nat} {us : List Fz} {R : Int} {L : Nat → Nat} (hs : Sl H sa n cap (fzc us)) (hl : us.length = n) (hn : n ≤ 16) (hL : L = srt (duF us) n) (hok : us.all Fz.ok = true) (hR : 1 ≤ R ∧ R ≤ 17592186044416) (hlo : lo ≤ H.next) : ∃ b H', FnX Try.prog kn lo 58 [.slice sa n cap, iv R] H (slv b n n) H' ∧ Keep H H' [] ∧ H.next ≤ b ∧ Cl H' b (nf (dnA L (rdF us) R (msF us) n 500) n) := by
 have key := fnX_low (kn := kn) (lo := lo) (H := H) (args := [.slice sa n cap, iv R]) (Q := fun w H' => ∃ b, w = slv b n n ∧ Keep H H' [] ∧ H.next ≤ b ∧ Cl H' b (nf (dnA L (rdF us) R (msF us) n 500) n)) Try.func58 B58 N58 Z58 L58 (by simp) ?_
 ·obtain ⟨w, H', h, a, rfl, q⟩ := key; exact ⟨a, H', h, q⟩
 have hk := Keep.refl H []
 have fs := hs.old
 have hO : OO (duF us) n n L := by rw [hL]; exact srt_ok n (Nat.le_refl _)
 have hM : ∀ x, x < n → 0 ≤ msF us x ∧ msF us x ≤ 1099511627776 := fun x hx => (all_at hok (by omega)).2.2
 have hms : ∀ x, x < n → 0 ≤ msF us x := fun x hx => (hM x hx).1
 refine wN_seq ?_
 refine wN_mov (v := .slice none 0 0) rfl ?_
 refine wN_end ?_
 first | refine wN_scp ?_ | refine wN_sscp ?_
 refine wN_seq ?_
 refine wN_mov (v := .slice sa n cap) rfl ?_
 refine wN_pur (v := .agg #[.slice sa n cap, .slice none 0 0]) rfl (by kernel_rfl) ?_
 refine wN_alc ?_
 intro H1 kH1 nH1 c1
 have c1 : Cl H1 H.next [.slice none 0 0, .slice none 0 0] := c1
 have mH1 := kH1.1
 have hk := hk.trans kH1
 have hs := kH1.sl0 hs
 refine wN_sta (b := H.next) (o := 0) rfl rfl c1 (by omega) rfl rfl (by simp) ?_
 intro H2 kH2 nH2 sH2
 have mH2 := kH2.1
 have hk := hk.new kH2 (fun b hb => by simp at hb ⊢; omega)
 have hs := kH2.sl hs (fun b e => by have := fs b e; first | (simp; done) | (simp; omega))
 have c1 : Cl H2 H.next [.slice sa n cap, .slice none 0 0] := sH2
 refine wN_end ?_
 refine wN_seq ?_
 refine wN_mov (v := .slice sa n cap) rfl ?_
 refine wN_len (m := n) rfl ?_
 obtain ⟨ie, hie, hib⟩ := in3b
 obtain ⟨H3, hH3⟩ : ∃ H3, H2.new (.cells (zeros [iv 0] n) 3 false) = H3 := ⟨_, rfl⟩
 refine wN_memh (v := .slice (some ⟨H2.next, 0, none⟩) 0 n) (H' := H3) (k := .heavy) rfl (by kernel_rfl) ((heap_makeR (a := 0) (m := n) se42 z3 hie hib rfl rfl (by omega) (by omega)).trans (by rw [← hH3]; rfl)) (fun b e => by cases e) ?_
 obtain ⟨kH3, nH3, _⟩ := new_facts hH3
 have dd0 := new_sc hH3
 rw [zeros_nf] at dd0
 have mH3 := kH3.1
 have hk := hk.trans kH3
 have hs := kH3.sl0 hs
 have c1 := kH3.cl c1 (by simp)
 obtain ⟨bdd, ebdd⟩ : ∃ b, b = H2.next := ⟨_, rfl⟩
 have dd : Sc H3 bdd (nf (fun _ => 0) n) := by rw [ebdd]; exact dd0
 rw [← ebdd]
 have l0dd := dd.lt
 refine wN_mov (v := .slice (some ⟨bdd, 0, none⟩) 0 n) rfl ?_
 refine wN_end ?_
 refine wN_seq ?_
 refine wN_mov (v := .slice sa n cap) rfl ?_
 refine wN_len (m := n) rfl ?_
 refine wN_mov (v := iv 0) rfl ?_
 refine wN_end ?_
 have dd : Sc H3 bdd (nf (fun x => if x < 0 then dn0 (rdF us) (msF us) x else 0) n) := by rw [nf_congr (g := fun _ => 0) (fun k hk => if_neg (by omega))]; exact dd
 have ac0 : Acc lo H3.next 3 H3 (.slice none 0 0) 0 (nf (msF us) 0) := .inl ⟨rfl, rfl, rfl⟩
 refine loop_low (fn := Try.f58) E58_1 N58 L58x1 (fun i : Nat => [(1, iv R), (5, pt H.next), (6, .slice (some ⟨bdd, 0, none⟩) i n), (19, .slice sa n cap), (20, iv (n : Int)), (21, iv (i : Int))])
  (fun d i H' => i + d = n ∧ Keep H H' [] ∧ H3.next ≤ H'.next ∧ Sl H' sa n cap (fzc us) ∧ Sc H' bdd (nf (fun x => if x < i then dn0 (rdF us) (msF us) x else 0) n) ∧ ∃ wv, Acc lo H3.next 3 H' wv i (nf (msF us) i) ∧ Cl H' H.next [.slice sa n cap, wv]) n 0 ⟨by omega, hk, Nat.le_refl _, hs, dd, _, ac0, c1⟩ ⟨rfl, rfl, rfl, rfl, rfl, rfl, trivial⟩ ?_
 rintro d i L1 ⟨hid, hk, hnx, hs, dd, wv, hacc, c5⟩
 have kacc := Keep.refl L1 []
 have mki := hk.1
 have hbk := bkv_in hacc
 refine wN_seq ?_
 refine wN_c_lss (a := (i : Int)) (b := (n : Int)) rfl rfl ?_
 refine wN_end ?_
 refine And.intro (fun q1 => ?_) (fun q1 => ?_)
 ·have q1 : (i : Int) < (n : Int) := of_decide_eq_true q1
  have hi : i < n := by omega
  obtain ⟨x, hx⟩ := get_some (l := us) (i := i) (by omega)
  rcases id hs with ⟨_, h0, _⟩ | ⟨sb, esb, hsd, _⟩
  ·omega
  have lsb := fs sb esb
  obtain ⟨fx1, fx2, fx3⟩ := Fz.at hx
  first | refine wN_skip ?_ | skip
  refine wN_seq ?_
  refine wN_idx (b := sb) (o := 0) (k := i) (j := (i : Int)) (by rw [← esb]; rfl) rfl rfl hi ?_
  refine wN_lda (b := sb) (o := 0 + i * 3) rfl hsd (fzc_row hx) ?_
  refine wN_alc ?_
  intro H4 kH4 nH4 c4
  have c4 : Cl H4 L1.next [iv 0, iv 0, iv 0] := c4
  have mH4 := kH4.1
  have hk := hk.trans kH4
  have hs := kH4.sl0 hs
  have kacc := kacc.trans kH4
  have dd := kH4.sc dd (by simp)
  have c5 := kH4.cl c5 (by simp)
  have hsd := kH4.rd hsd (by simp)
  refine wN_sta (b := L1.next) (o := 0) rfl rfl c4 (by omega) rfl rfl (by simp) ?_
  intro H5 kH5 nH5 sH5
  have mH5 := kH5.1
  have hk := hk.new kH5 (fun b hb => by simp at hb ⊢; omega)
  have hs := kH5.sl hs (fun b e => by have := fs b e; first | (simp; done) | (simp; omega))
  have kacc := kacc.new kH5 (fun b hb => by simp at hb ⊢; omega)
  have dd := kH5.sc dd (by first | (simp; done) | (simp; omega))
  have c5 := kH5.cl c5 (by first | (simp; done) | (simp; omega))
  have hsd := kH5.rd hsd (by first | (simp; done) | (simp; omega))
  have c4 : Cl H5 L1.next [iv x.rd, iv x.du, iv x.ms] := sH5
  refine wN_end ?_
  refine wN_seq ?_
  refine wN_addo (b := H.next) (o := 0) rfl ?_
  refine wN_ld (b := H.next) (o := 1) (v := wv) rfl c5.rd rfl ?_
  refine wN_addo (b := L1.next) (o := 0) rfl ?_
  refine wN_ld (b := L1.next) (o := 2) (v := iv x.ms) rfl c4.rd rfl ?_
  obtain ⟨H6, hH6⟩ : ∃ H6, H5.new (.cells [iv x.ms] 3 false) = H6 := ⟨_, rfl⟩
  refine wN_memh (H' := H6) (k := .heavy) rfl (by kernel_rfl) ((heap_build1 (v := iv x.ms) se42 z3 rfl rfl rfl (by decide)).trans (by rw [← hH6]; rfl)) (fun b e => by cases e) ?_
  obtain ⟨kH6, nH6, c6⟩ := new_facts hH6; clear hH6
  have c6 : Cl H6 H5.next [iv x.ms] := c6
  have mH6 := kH6.1
  have hk := hk.trans kH6
  have hs := kH6.sl0 hs
  have kacc := kacc.trans kH6
  have dd := kH6.sc dd (by simp)
  have c5 := kH6.cl c5 (by simp)
  have hsd := kH6.rd hsd (by simp)
  have c4 := kH6.cl c4 (by simp)
  obtain ⟨H7, kdH7, eH7, dH7, hacc2, kbH7⟩ := heap_append_out (P := Try.prog) (lo := lo) (k := i) (t1 := 42) se42 u42 (c6.sl (Nat.le_refl 1)) rfl (by decide) rfl (by rw [nf_len]; omega) (by omega) (hacc.keep kacc) (by omega) (by omega)
  refine wN_memh (k := kdH7) rfl (by cases wv <;> kernel_rfl) (eH7 _ _ _ _ _ _ _ rfl rfl) (reg_ok dH7 _) ?_
  rw [← fx3, ← nf_succ] at hacc2
  have hk := hk.new kbH7 (fun b hb => .inr (by have := hbk _ hb; omega))
  have hs := kbH7.sl hs (fun b e hx => by have := fs b e; have := hbk _ hx; omega)
  have dd := kbH7.sc dd (fun hx => by have := hbk _ hx; omega)
  have c5 := kbH7.cl c5 (fun hx => by have := hbk _ hx; omega)
  have hsd := kbH7.rd hsd (fun hx => by have := hbk _ hx; omega)
  have c4 := kbH7.cl c4 (fun hx => by have := hbk _ hx; omega)
  have mH7 := kbH7.1
  refine wN_addo (b := H.next) (o := 0) rfl ?_
  refine wN_st (b := H.next) (o := 1) rfl rfl c5 (by omega) rfl rfl (by simp) ?_
  intro H8 kH8 nH8 sH8
  have mH8 := kH8.1
  have hk := hk.new kH8 (fun b hb => by simp at hb ⊢; omega)
  have hs := kH8.sl hs (fun b e => by have := fs b e; first | (simp; done) | (simp; omega))
  have dd := kH8.sc dd (by first | (simp; done) | (simp; omega))
  have hsd := kH8.rd hsd (by first | (simp; done) | (simp; omega))
  have c4 := kH8.cl c4 (by first | (simp; done) | (simp; omega))
  have hacc2 := hacc2.keepW kH8 (by omega)
  have c5 : Cl H8 H.next [.slice sa n cap, .slice (some ⟨H6.next, 0, none⟩) (i + 1) (i + 1)] := sH8
  refine wN_end ?_
  first | refine wN_reg ?_ | refine wN_blk ?_ | refine wN_bseq ?_ | (refine wOps_nil ?_; refine wN_reg ?_)
  refine wN_mov (v := .slice (some ⟨bdd, 0, none⟩) i n) rfl ?_
  refine wN_lda (b := L1.next) (o := 0) rfl c4.rd (show row 3 _ _ = some [iv x.rd, iv x.du, iv x.ms] from rfl) ?_
  obtain ⟨H9, fH9, kH9⟩ := first81_ok (kn := kn) (lo := lo) (H := H8) (x := x) (by omega)
  refine wN_callf (vs := [.agg (Fz.f x).toArray]) rfl (callX_args fH9) ?_
  have mH9 := kH9.1
  have hk := hk.trans kH9
  have hs := kH9.sl0 hs
  have dd := kH9.sc dd (by simp)
  have hsd := kH9.rd hsd (by simp)
  have c4 := kH9.cl c4 (by simp)
  have hacc2 := hacc2.keep kH9
  have c5 := kH9.cl c5 (by simp)
  obtain ⟨H10, hH10⟩ : ∃ H10, H9.new (.cells [iv (if x.ms = 0 then x.rd else 501)] 3 false) = H10 := ⟨_, rfl⟩
  refine wN_memh (H' := H10) (k := .heavy) rfl (by kernel_rfl) ((heap_build1 (v := iv (if x.ms = 0 then x.rd else 501)) se42 z3 rfl rfl rfl (by decide)).trans (by rw [← hH10]; rfl)) (fun b e => by cases e) ?_
  obtain ⟨kH10, nH10, c10⟩ := new_facts hH10; clear hH10
  have c10 : Cl H10 H9.next [iv (if x.ms = 0 then x.rd else 501)] := c10
  have mH10 := kH10.1
  have hk := hk.trans kH10
  have hs := kH10.sl0 hs
  have dd := kH10.sc dd (by simp)
  have hsd := kH10.rd hsd (by simp)
  have c4 := kH10.cl c4 (by simp)
  have hacc2 := hacc2.keep kH10
  have c5 := kH10.cl c5 (by simp)
  obtain ⟨H11, eH11, kH11, nH11, aH11⟩ := heap_append_room (P := Try.prog) (lo := lo) (k := i) (cap := n) (t1 := 42) se42 u42 (c10.sl (Nat.le_refl 1)) rfl rfl dd hi (by omega) (by rw [nf_len]; omega) (by omega)
  refine wN_memh (k := .store bdd) rfl (by kernel_rfl) (eH11 _ _ _ _ _ _ _ rfl rfl) (fun b e => by cases e) ?_
  have mH11 := kH11.1
  have hk := hk.new kH11 (fun b hb => by simp at hb ⊢; omega)
  have hs := kH11.sl hs (fun b e => by have := fs b e; first | (simp; done) | (simp; omega))
  have hsd := kH11.rd hsd (by first | (simp; done) | (simp; omega))
  have c4 := kH11.cl c4 (by first | (simp; done) | (simp; omega))
  have hacc2 := hacc2.keepW kH11 (by omega)
  have c5 := kH11.cl c5 (by first | (simp; done) | (simp; omega))
  have c10 := kH11.cl c10 (by first | (simp; done) | (simp; omega))
  have dd : Sc H11 bdd ((nf (fun x => if x < i then dn0 (rdF us) (msF us) x else 0) n).set (0 + i * 1) (iv (if x.ms = 0 then x.rd else 501))) := aH11
  rw [nf_set hi] at dd
  have dd : Sc H11 bdd (nf (fun x => if x < i + 1 then dn0 (rdF us) (msF us) x else 0) n) := by
   rw [nf_congr (g := upd (fun x => if x < i then dn0 (rdF us) (msF us) x else 0) i (if x.ms = 0 then x.rd else 501)) (fun k hk => by
    show (if k < i + 1 then dn0 (rdF us) (msF us) k else 0) = (if k = i then (if x.ms = 0 then x.rd else 501) else (if k < i then dn0 (rdF us) (msF us) k else 0))
    by_cases e : k = i
    ·subst e; rw [if_pos (by omega), if_pos rfl]; unfold dn0; rw [fx2, fx3]
    ·rw [if_neg e]; by_cases q : k < i
     ·rw [if_pos (by omega), if_pos q]
     ·rw [if_neg (by omega), if_neg q])]
   exact dd
  refine wN_mov (v := .slice (some ⟨bdd, 0, none⟩) (i + 1) n) rfl ?_
  refine wN_end ?_
  first | refine wN_reg ?_ | refine wN_blk ?_ | refine wN_bseq ?_ | (refine wOps_nil ?_; refine wN_reg ?_)
  refine wN_add (a := (i : Int)) (b := 1) rfl rfl ⟨by omega, by omega⟩ ?_
  refine wN_mov (v := iv ((i : Int) + 1)) rfl ?_
  refine wN_end ?_
  exact ⟨d - 1, i + 1, by omega, ⟨by omega, hk, by omega, hs, dd, _, hacc2, c5⟩, rfl, rfl, rfl, rfl, rfl, rfl, trivial⟩
 ·have q1 : ¬ ((i : Int) < (n : Int)) := of_decide_eq_false q1
  have e : n = i := by omega
  subst e
  have dd : Cl L1 bdd (nf (dnA L (rdF us) R (msF us) n 0) n) := by show Cl L1 bdd (nf (dn0 (rdF us) (msF us)) n); rw [nf_congr (g := fun x => if x < n then dn0 (rdF us) (msF us) x else 0) (fun k hk => (if_pos hk).symm)]; exact dd.cl
  obtain ⟨bl, hwv, hcl, hbl⟩ : ∃ bl, (0 < n → wv = .slice (some ⟨bl, 0, none⟩) n n) ∧ (0 < n → Cl L1 bl (nf (lfA L (rdF us) R (msF us) n 0) n)) ∧ (0 < n → H3.next ≤ bl ∧ lo ≤ bl ∧ bl < L1.next) := by
   rcases hacc with ⟨q, _, _⟩ | ⟨b, q1, q2, q3, q4, q5, q6⟩
   ·exact ⟨0, fun z => absurd z (by omega), fun z => absurd z (by omega), fun z => absurd z (by omega)⟩
   ·exact ⟨b, fun _ => q1, fun _ => ⟨q5, _, _, q6⟩, fun _ => ⟨q3, q4, q5⟩⟩
  first | (refine wN_exit ?_; show wC _ _ _ _ _ _ _ _ _) | skip
  refine wN_seq ?_
  refine wN_lda (b := H.next) (o := 0) rfl c5.rd (show row 2 _ _ = some [.slice sa n cap, wv] from rfl) ?_
  obtain ⟨bo, H12, fH12, kH12, lbo, co⟩ := order_ok (kn := kn) (lo := lo) (H := L1) (lv := wv) hs hl hn (by omega)
  refine wN_callf (vs := [.agg #[.slice sa n cap, wv]]) rfl (callX_args fH12) ?_
  have mH12 := kH12.1
  have hk := hk.trans kH12
  have hs := kH12.sl0 hs
  have dd := kH12.cl dd (by simp)
  have c5 := kH12.cl c5 (by simp)
  have hcl := fun z => kH12.cl (hcl z) (by simp)
  rw [← hL] at co
  have lco := co.lt
  refine wN_mov (v := .slice (some ⟨bo, 0, none⟩) n n) rfl ?_
  refine wN_end ?_
  first | refine wN_skip ?_ | skip
  refine wN_seq ?_
  refine wN_mov (v := iv 0) rfl ?_
  refine wN_end ?_
  refine loop_low (fn := Try.f58) E58_2 N58 L58x2 (fun t : Nat => [(1, iv R), (5, pt H.next), (6, .slice (some ⟨bdd, 0, none⟩) n n), (9, .slice (some ⟨bo, 0, none⟩) n n), (40, iv (t : Int))])
   (fun d t H' => t + d = 500 ∧ Keep H H' [] ∧ H12.next ≤ H'.next ∧ Sl H' sa n cap (fzc us) ∧ Cl H' bdd (nf (dnA L (rdF us) R (msF us) n t) n) ∧ (0 < n → Cl H' bl (nf (lfA L (rdF us) R (msF us) n t) n)) ∧ Cl H' bo (nf (fun p => (L p : Int)) n) ∧ Cl H' H.next [.slice sa n cap, wv]) 500 0 ⟨by omega, hk, Nat.le_refl _, hs, dd, hcl, co, c5⟩ ⟨rfl, rfl, rfl, rfl, rfl, trivial⟩ ?_
  rintro d t L2 ⟨htd, hk, hnx2, hs, dd, hcl, co, c5⟩
  have mki := hk.1
  refine wN_seq ?_
  refine wN_c_lss (a := (t : Int)) (b := 500) rfl rfl ?_
  refine wN_end ?_
  refine And.intro (fun q2 => ?_) (fun q2 => ?_)
  ·have q2 : (t : Int) < 500 := of_decide_eq_true q2
   first | refine wN_skip ?_ | skip
   refine wN_seq ?_
   refine wN_mov (v := iv (t : Int)) rfl ?_
   refine wN_mov (v := iv (t : Int)) rfl ?_
   refine wN_end ?_
   refine wN_seq ?_
   refine wN_mov (v := iv R) rfl ?_
   refine wN_mov (v := iv R) rfl ?_
   refine wN_end ?_
   refine wN_seq ?_
   refine wN_mov (v := .slice (some ⟨bo, 0, none⟩) n n) rfl ?_
   refine wN_len (m := n) rfl ?_
   refine wN_mov (v := iv 0) rfl ?_
   refine wN_end ?_
   refine loop_low (fn := Try.f58) E58_3 N58 L58x3 (fun k : Nat => [(1, iv R), (5, pt H.next), (6, .slice (some ⟨bdd, 0, none⟩) n n), (9, .slice (some ⟨bo, 0, none⟩) n n), (10, iv (t : Int)), (11, iv ((hst L (rdF us) (t : Int) R (lfA L (rdF us) R (msF us) n t) k).2)), (40, iv (t : Int)), (44, .slice (some ⟨bo, 0, none⟩) n n), (45, iv (n : Int)), (46, iv (k : Int))])
    (fun e k H' => k + e = n ∧ Keep H H' [] ∧ L2.next ≤ H'.next ∧ Sl H' sa n cap (fzc us) ∧ Cl H' bdd (nf (dst L (rdF us) (t : Int) R (lfA L (rdF us) R (msF us) n t) (dnA L (rdF us) R (msF us) n t) k) n) ∧ (0 < n → Cl H' bl (nf (hst L (rdF us) (t : Int) R (lfA L (rdF us) R (msF us) n t) k).1 n)) ∧ Cl H' bo (nf (fun p => (L p : Int)) n) ∧ Cl H' H.next [.slice sa n cap, wv]) n 0 ⟨by omega, hk, Nat.le_refl _, hs, dd, hcl, co, c5⟩ ⟨rfl, rfl, rfl, rfl, rfl, rfl, rfl, rfl, rfl, rfl, trivial⟩ ?_
   rintro e k L3 ⟨hke, hk, hnx3, hs, dd, hcl, co, c5⟩
   have mkj := hk.1
   obtain ⟨hin, hr0, hrR⟩ := hst_in (rd := rdF us) (R := R) (t := t) hO hms (by omega) (show k ≤ n by omega)
   refine wN_seq ?_
   refine wN_c_lss (a := (k : Int)) (b := (n : Int)) rfl rfl ?_
   refine wN_end ?_
   refine And.intro (fun q3 => ?_) (fun q3 => ?_)
   ·have q3 : (k : Int) < (n : Int) := of_decide_eq_true q3
    have hkn : k < n := by omega
    have h0 : 0 < n := by omega
    have hLk := hO.lt k hkn
    have hlb := hbl h0
    have hp1 := hin k hkn
    have hms2 := (hM (L k) hLk)
    first | refine wN_skip ?_ | skip
    refine wN_seq ?_
    refine wN_idx (b := bo) (o := 0) (k := k) (j := (k : Int)) rfl rfl rfl hkn ?_
    refine wN_ld (b := bo) (o := 0 + k * 1) (v := iv (L k : Int)) rfl co.rd (nf_at (f := fun p => (L p : Int)) (by omega)) ?_
    refine wN_mov (v := iv (L k : Int)) rfl ?_
    refine wN_end ?_
    refine wN_seq ?_
    refine wN_mov (v := iv ((hst L (rdF us) (t : Int) R (lfA L (rdF us) R (msF us) n t) k).2)) rfl ?_
    refine wN_c_eql (a := ((hst L (rdF us) (t : Int) R (lfA L (rdF us) R (msF us) n t) k).2)) (b := 0) rfl rfl ?_
    refine wN_end ?_
    refine And.intro (fun q4 => ?_) (fun q4 => ?_)
    ·have q4 : ((hst L (rdF us) (t : Int) R (lfA L (rdF us) R (msF us) n t) k).2) = 0 := by simpa using q4
     obtain ⟨hq1, hq2⟩ := hour_stop (rd := rdF us) (R := R) (t := t) hO hms (by omega) (show k ≤ n by omega) (by omega)
     have dd2 : Cl L3 bdd (nf (dnA L (rdF us) R (msF us) n (t + 1)) n) := by
      have q : (dnA L (rdF us) R (msF us) n (t + 1)) = (dst L (rdF us) (t : Int) R (lfA L (rdF us) R (msF us) n t) (dnA L (rdF us) R (msF us) n t) k) := hq2 _
      rw [q]; exact dd
     have hcl2 : 0 < n → Cl L3 bl (nf (lfA L (rdF us) R (msF us) n (t + 1)) n) := fun z => by rw [hq1]; exact hcl z
     first | (refine wN_exit ?_; show wC _ _ _ _ _ _ _ _ _) | skip
     first | refine wN_reg ?_ | refine wN_blk ?_ | refine wN_bseq ?_ | (refine wOps_nil ?_; refine wN_reg ?_)
     refine wN_add (a := (t : Int)) (b := 1) rfl rfl ⟨by omega, by omega⟩ ?_
     refine wN_mov (v := iv ((t : Int) + 1)) rfl ?_
     refine wN_end ?_
     exact ⟨d - 1, t + 1, by omega, ⟨by omega, hk, by omega, hs, dd2, hcl2, co, c5⟩, rfl, rfl, rfl, rfl, rfl, trivial⟩
    ·have q4 : ¬ (((hst L (rdF us) (t : Int) R (lfA L (rdF us) R (msF us) n t) k).2) = 0) := by simpa using q4
     first | refine wN_skip ?_ | skip
     refine wN_seq ?_
     refine wN_lda (b := H.next) (o := 0) rfl c5.rd (show row 2 _ _ = some [.slice sa n cap, wv] from rfl) ?_
     refine wN_mov (v := iv (L k : Int)) rfl ?_
     refine wN_mov (v := iv (t : Int)) rfl ?_
     obtain ⟨H13, fH13, kH13⟩ := waiting_ok (kn := kn) (lo := lo) (H := L3) (x := L k) (h := (t : Int)) (cl := n) hs hl hLk (by omega) (hcl h0) (by omega)
     rw [← hwv h0] at fH13
     have mH13 := kH13.1
     have hk := hk.trans kH13
     have hs := kH13.sl0 hs
     have dd := kH13.cl dd (by simp)
     have hcl := fun z => kH13.cl (hcl z) (by simp)
     have co := kH13.cl co (by simp)
     have c5 := kH13.cl c5 (by simp)
     cases hw : decide (rdF us (L k) ≤ (t : Int) ∧ 0 < (hst L (rdF us) (t : Int) R (lfA L (rdF us) R (msF us) n t) k).1 (L k))
     ·rw [hw] at fH13
      refine wN_callf (vs := [.agg #[.slice sa n cap, wv], iv (L k : Int), iv (t : Int)]) rfl (callX_args fH13) ?_
      have hw := of_decide_eq_false hw
      have hroom : (hst L (rdF us) (t : Int) R (lfA L (rdF us) R (msF us) n t) (k + 1)).2 = (hst L (rdF us) (t : Int) R (lfA L (rdF us) R (msF us) n t) k).2 := by rw [hst_idle hw hp1.1 hr0]
      have dd3 : Cl H13 bdd (nf (dst L (rdF us) (t : Int) R (lfA L (rdF us) R (msF us) n t) (dnA L (rdF us) R (msF us) n t) (k + 1)) n) := by rw [dst_idle hw hp1.1 hr0]; exact dd
      have hcl3 : 0 < n → Cl H13 bl (nf (hst L (rdF us) (t : Int) R (lfA L (rdF us) R (msF us) n t) (k + 1)).1 n) := fun z => by rw [hst_idle hw hp1.1 hr0]; exact hcl z
      refine wN_pur (v := .bool true) rfl rfl ?_
      refine wN_end ?_
      refine condT ?_
      first | (refine wN_exit ?_; show wC _ _ _ _ _ _ _ _ _) | skip
      first | refine wN_reg ?_ | refine wN_blk ?_ | refine wN_bseq ?_ | (refine wOps_nil ?_; refine wN_reg ?_)
      refine wN_add (a := (k : Int)) (b := 1) rfl rfl ⟨by omega, by omega⟩ ?_
      refine wN_mov (v := iv ((k : Int) + 1)) rfl ?_
      refine wN_end ?_
      exact ⟨e - 1, k + 1, by omega, ⟨by omega, hk, by omega, hs, dd3, hcl3, co, c5⟩, rfl, rfl, rfl, rfl, rfl, by rw [hroom]; rfl, rfl, rfl, rfl, rfl, trivial⟩
     ·rw [hw] at fH13
      refine wN_callf (vs := [.agg #[.slice sa n cap, wv], iv (L k : Int), iv (t : Int)]) rfl (callX_args fH13) ?_
      have hw := of_decide_eq_true hw
      have hws := hst_wait (L := L) (left := (lfA L (rdF us) R (msF us) n t)) (R := R) (k := k) hw.1
      refine wN_pur (v := .bool false) rfl rfl ?_
      refine wN_end ?_
      refine condF ?_
      first | refine wN_skip ?_ | skip
      refine wN_seq ?_
      refine wN_lda (b := H.next) (o := 0) rfl c5.rd (show row 2 _ _ = some [.slice sa n cap, wv] from rfl) ?_
      refine wN_mov (v := iv (L k : Int)) rfl ?_
      refine wN_mov (v := iv ((hst L (rdF us) (t : Int) R (lfA L (rdF us) R (msF us) n t) k).2)) rfl ?_
      obtain ⟨H14, fH14, kH14, cH14⟩ := freeze_ok (kn := kn) (lo := lo) (H := H13) (x := L k) (h := (hst L (rdF us) (t : Int) R (lfA L (rdF us) R (msF us) n t) k).2) (cl := n) hs hl hLk (by omega) (hcl h0) (by omega) hlb.2.1 ⟨hr0, by omega⟩ ⟨hp1.1, by omega⟩
      rw [← hwv h0] at fH14
      refine wN_callf (vs := [.agg #[.slice sa n cap, wv], iv (L k : Int), iv (hst L (rdF us) (t : Int) R (lfA L (rdF us) R (msF us) n t) k).2]) rfl (callX_args fH14) ?_
      have mH14 := kH14.1
      have hk := hk.new kH14 (fun b hb => by simp at hb ⊢; omega)
      have hs := kH14.sl hs (fun b e => by have := fs b e; first | (simp; done) | (simp; omega))
      have dd := kH14.cl dd (by first | (simp; done) | (simp; omega))
      have co := kH14.cl co (by first | (simp; done) | (simp; omega))
      have c5 := kH14.cl c5 (by first | (simp; done) | (simp; omega))
      have hroom : (hst L (rdF us) (t : Int) R (lfA L (rdF us) R (msF us) n t) (k + 1)).2 = (hst L (rdF us) (t : Int) R (lfA L (rdF us) R (msF us) n t) k).2 - min (hst L (rdF us) (t : Int) R (lfA L (rdF us) R (msF us) n t) k).2 ((hst L (rdF us) (t : Int) R (lfA L (rdF us) R (msF us) n t) k).1 (L k)) := by rw [hws]
      have cl3 : Cl H14 bl (nf (hst L (rdF us) (t : Int) R (lfA L (rdF us) R (msF us) n t) (k + 1)).1 n) := by rw [hws]; exact cH14
      rw [hwv h0] at c5
      refine wN_mov (v := iv ((hst L (rdF us) (t : Int) R (lfA L (rdF us) R (msF us) n t) k).2 - min (hst L (rdF us) (t : Int) R (lfA L (rdF us) R (msF us) n t) k).2 ((hst L (rdF us) (t : Int) R (lfA L (rdF us) R (msF us) n t) k).1 (L k)))) rfl ?_
      refine wN_end ?_
      refine wN_seq ?_
      refine wN_addo (b := H.next) (o := 0) rfl ?_
      refine wN_ld (b := H.next) (o := 1) (v := .slice (some ⟨bl, 0, none⟩) n n) rfl c5.rd rfl ?_
      refine wN_mov (v := iv (L k : Int)) rfl ?_
      refine wN_idx (b := bl) (o := 0) (k := L k) (j := (L k : Int)) rfl rfl rfl hLk ?_
      refine wN_ld (b := bl) (o := 0 + (L k) * 1) (v := iv ((hst L (rdF us) (t : Int) R (lfA L (rdF us) R (msF us) n t) (k + 1)).1 (L k))) rfl cl3.rd (nf_at (f := (hst L (rdF us) (t : Int) R (lfA L (rdF us) R (msF us) n t) (k + 1)).1) hLk) ?_
      refine wN_c_eql (a := ((hst L (rdF us) (t : Int) R (lfA L (rdF us) R (msF us) n t) (k + 1)).1 (L k))) (b := 0) rfl rfl ?_
      refine wN_end ?_
      refine And.intro (fun q5 => ?_) (fun q5 => ?_)
      ·have q5 : ((hst L (rdF us) (t : Int) R (lfA L (rdF us) R (msF us) n t) (k + 1)).1 (L k)) = 0 := by simpa using q5
       first | refine wN_reg ?_ | refine wN_blk ?_ | refine wN_bseq ?_ | (refine wOps_nil ?_; refine wN_reg ?_)
       refine wN_mov (v := .slice (some ⟨bdd, 0, none⟩) n n) rfl ?_
       refine wN_mov (v := iv (L k : Int)) rfl ?_
       refine wN_mov (v := iv (t : Int)) rfl ?_
       refine wN_add (a := (t : Int)) (b := 1) rfl rfl ⟨by omega, by omega⟩ ?_
       refine wN_idx (b := bdd) (o := 0) (k := L k) (j := (L k : Int)) rfl rfl rfl hLk ?_
       refine wN_st (b := bdd) (o := 0 + L k * 1) (v := iv ((t : Int) + 1)) rfl rfl dd (by omega) rfl rfl (by rw [nf_len]; omega) ?_
       intro H15 kH15 nH15 sH15
       have mH15 := kH15.1
       have hk := hk.new kH15 (fun b hb => by simp at hb ⊢; omega)
       have hs := kH15.sl hs (fun b e => by have := fs b e; first | (simp; done) | (simp; omega))
       have co := kH15.cl co (by first | (simp; done) | (simp; omega))
       have c5 := kH15.cl c5 (by first | (simp; done) | (simp; omega))
       have cl3 := kH15.cl cl3 (by first | (simp; done) | (simp; omega))
       have dd3 : Cl H15 bdd (nf (dst L (rdF us) (t : Int) R (lfA L (rdF us) R (msF us) n t) (dnA L (rdF us) R (msF us) n t) (k + 1)) n) := by
        have q := sH15; rw [nf_set hLk] at q; rw [dst_go hw.2 (by omega)]; exact q
       have hcl3 : 0 < n → Cl H15 bl (nf (hst L (rdF us) (t : Int) R (lfA L (rdF us) R (msF us) n t) (k + 1)).1 n) := fun _ => cl3
       have c5 : Cl H15 H.next [.slice sa n cap, wv] := by rw [hwv h0]; exact c5
       refine wN_end ?_
       first | refine wN_reg ?_ | refine wN_blk ?_ | refine wN_bseq ?_ | (refine wOps_nil ?_; refine wN_reg ?_)
       refine wN_add (a := (k : Int)) (b := 1) rfl rfl ⟨by omega, by omega⟩ ?_
       refine wN_mov (v := iv ((k : Int) + 1)) rfl ?_
       refine wN_end ?_
       exact ⟨e - 1, k + 1, by omega, ⟨by omega, hk, by omega, hs, dd3, hcl3, co, c5⟩, rfl, rfl, rfl, rfl, rfl, by rw [hroom]; rfl, rfl, rfl, rfl, rfl, trivial⟩
      ·have q5 : ¬ (((hst L (rdF us) (t : Int) R (lfA L (rdF us) R (msF us) n t) (k + 1)).1 (L k)) = 0) := by simpa using q5
       have dd3 : Cl H14 bdd (nf (dst L (rdF us) (t : Int) R (lfA L (rdF us) R (msF us) n t) (dnA L (rdF us) R (msF us) n t) (k + 1)) n) := by rw [dst_no (by omega)]; exact dd
       have hcl3 : 0 < n → Cl H14 bl (nf (hst L (rdF us) (t : Int) R (lfA L (rdF us) R (msF us) n t) (k + 1)).1 n) := fun _ => cl3
       have c5 : Cl H14 H.next [.slice sa n cap, wv] := by rw [hwv h0]; exact c5
       first | refine wN_skip ?_ | skip
       first | refine wN_reg ?_ | refine wN_blk ?_ | refine wN_bseq ?_ | (refine wOps_nil ?_; refine wN_reg ?_)
       refine wN_add (a := (k : Int)) (b := 1) rfl rfl ⟨by omega, by omega⟩ ?_
       refine wN_mov (v := iv ((k : Int) + 1)) rfl ?_
       refine wN_end ?_
       exact ⟨e - 1, k + 1, by omega, ⟨by omega, hk, by omega, hs, dd3, hcl3, co, c5⟩, rfl, rfl, rfl, rfl, rfl, by rw [hroom]; rfl, rfl, rfl, rfl, rfl, trivial⟩
   ·have q3 : ¬ ((k : Int) < (n : Int)) := of_decide_eq_false q3
    have ek : k = n := by omega
    have dd2 : Cl L3 bdd (nf (dnA L (rdF us) R (msF us) n (t + 1)) n) := by rw [ek] at dd; exact dd
    have hcl2 : 0 < n → Cl L3 bl (nf (lfA L (rdF us) R (msF us) n (t + 1)) n) := fun z => by have q := hcl z; rw [ek] at q; exact q
    first | (refine wN_exit ?_; show wC _ _ _ _ _ _ _ _ _) | skip
    first | refine wN_reg ?_ | refine wN_blk ?_ | refine wN_bseq ?_ | (refine wOps_nil ?_; refine wN_reg ?_)
    refine wN_add (a := (t : Int)) (b := 1) rfl rfl ⟨by omega, by omega⟩ ?_
    refine wN_mov (v := iv ((t : Int) + 1)) rfl ?_
    refine wN_end ?_
    exact ⟨d - 1, t + 1, by omega, ⟨by omega, hk, by omega, hs, dd2, hcl2, co, c5⟩, rfl, rfl, rfl, rfl, rfl, trivial⟩
  ·have q2 : ¬ ((t : Int) < 500) := of_decide_eq_false q2
   first | (refine wN_exit ?_; show wC _ _ _ _ _ _ _ _ _) | skip
   refine wN_seq ?_
   refine wN_mov (v := .slice (some ⟨bdd, 0, none⟩) n n) rfl ?_
   refine wN_mov (v := .slice (some ⟨bdd, 0, none⟩) n n) rfl ?_
   refine wN_end ?_
   have et : t = 500 := by omega
   subst et
   exact And.intro trivial (Exists.intro _ (And.intro rfl ⟨_, rfl, hk, by omega, dd⟩))
end
end Go.Ax

/-
 Plant: Blend; the document's Tanks, Recipe, Right (written by program).
-/
namespace Go.Ax
open Go Go.RowKit Go.Proofs

def blE (us : List Tn) (r : Rc) : Int := if us.length > 5 then 3 else if (us.all Tn.ok && r.ok) = true then (if (bestB us r).isSome = true then 0 else 4) else 1
def blB (us : List Tn) (r : Rc) : Bl := (bestB us r).getD bz
def blN (us : List Tn) (r : Rc) : Nat := if blE us r = 0 then us.length else 0
def blC (us : List Tn) (r : Rc) : Int := if blE us r = 0 then cosB us (blB us r) else 0
theorem mulR {a b : Int} (h0 : 0 ≤ a) (h1 : a ≤ 2000000) (h2 : 0 ≤ b) (h3 : b ≤ 1000) : -9223372036854775808 ≤ a * b ∧ a * b < 9223372036854775808 := by
 have := Int.mul_nonneg h0 h2
 have := Int.mul_le_mul h1 h3 h2 (by decide)
 omega
theorem in3s : ∃ i, Try.prog.info? 3 = some i ∧ i.size = 1 := by
 have h : (Try.prog.info? 3).map (fun i => Nat.beq i.size 1) = some true := by kernel_rfl
 cases e : Try.prog.info? 3 with
 | none => rw [e] at h; cases h
 | some i => rw [e] at h; exact ⟨i, rfl, by simpa using h⟩
theorem u89 : Try.prog.underlying 89 = some (.array 5 3) := by kernel_rfl
theorem bc_take {b : Bl} {n : Nat} (h : n ≤ 5) : (bc b).take n = nf b n := by
 match n, h with
 | 0, _ => rfl
 | 1, _ => rfl
 | 2, _ => rfl
 | 3, _ => rfl
 | 4, _ => rfl
 | 5, _ => rfl
 | n + 6, h => exact absurd h (by omega)
theorem wN_boxS {P : Program} {kn : FuncId → Option Bool} {lo n : Nat} {r : List RO} {S : Rg} {H : Hp} {K : Rg → Hp → Prop} {d : Option Nat} {x : Operand} {e : TypeId} {v : Value} (hx : evS S x = some v) (h : ∀ H1, Keep H H1 [] → H1.next = H.next + 1 → Sc H1 H.next v.cells.toList → wOps P kn lo n r (putS S d (.pointer (some ⟨H.next, 0, none⟩))) H1 K) : wOps P kn lo n (⟨d, none, .box e x⟩ :: r) S H K := by
 simp only [wOps, wRO, wRI, hx]
 intro H1 hH1
 obtain ⟨k1, n1, _⟩ := new_facts hH1
 exact h H1 k1 n1 (new_sc hH1)
theorem heap_arr5 {lo n : Nat} {S : Rg} {H : Hp} {d : Option Tmp} {ty : TypeId} {x y : Operand} {p : String} {b k : Nat} {c : Bl} (h0 : Sc H b (bc c)) (hk : k ≤ 5) (hx : evS S x = some (pt b)) (hy : evS S y = some (iv (k : Int))) :
  heapOp Try.prog lo (frS n S) H ⟨d, .slice 89 x none (some y) none, ty, p, #[], none⟩ = some (.val (.slice (some ⟨b, 0, none⟩) k 5) H, .read b) := by
 obtain ⟨i, hi, hs⟩ := in3s
 obtain ⟨_, e, h2⟩ := h0
 have b0 : boundOf (frS n S) 5 (some y) = some k := by unfold boundOf; simp only [ev_frS, hy]
 have b1 : boundOf (frS n S) 0 none = some 0 := rfl
 unfold heapOp
 simp only [ev_frS, hx, u89, hi, b0, b1, h2, hs, add_none, Nat.mul_one, Nat.add_zero, Nat.ble_eq_true_of_le hk, Nat.ble_eq_true_of_le (Nat.zero_le k), Bool.and_self, cond_true]
 rfl
theorem heap_app5 {lo n : Nat} {S : Rg} {H : Hp} {d : Option Tmp} {ty : TypeId} {x y : Operand} {p : String} {b k : Nat} {c : Bl} (h0 : Cl H b (bc c)) (hk0 : 0 < k) (hk : k ≤ 5) (hx : evS S x = some (.slice none 0 0)) (hy : evS S y = some (.slice (some ⟨b, 0, none⟩) k 5)) :
  heapOp Try.prog lo (frS n S) H ⟨d, .call ⟨.builtin .append, #[x, y], #[42, 42]⟩, ty, p, #[], none⟩ = some (.val (.slice (some ⟨H.next, 0, none⟩) k k) (H.new (.cells (nf c k) 3 true)), .heavy) := by
 have hm : row (k * 1) (bc c) 0 = some (nf c k) := by
  rw [← bc_take hk]
  unfold row
  simp only [List.drop_zero, Nat.mul_one, beq_eq, List.length_take, List.length_cons, List.length_nil, Nat.zero_add, Nat.reduceAdd, Nat.min_eq_left hk, decide_true, cond_true]
 have hsr : srcCells H 1 (.slice (some ⟨b, 0, none⟩) k 5) = some (k, nf c k) := by simp only [srcCells, h0.rd.of, hm]
 have h1 : Nat.beq k 0 = false := by rw [beq_eq]; simp; omega
 unfold heapOp
 simp only [evs, ev_frS, hx, hy, builtinV, List.getElem?_toArray, List.getElem?_cons_zero, List.getElem?_cons_succ, se42, u42, hsr, appendV, h1, Nat.ble_eq_true_of_le (show k ≤ 1048576 by omega), Nat.beq_refl, Bool.and_true, cond_true, cond_false]
 rfl
theorem heap_app0 {lo n : Nat} {S : Rg} {H : Hp} {d : Option Tmp} {ty : TypeId} {x y : Operand} {p : String} {b : Nat} {c : Bl} (h0 : Cl H b (bc c)) (hx : evS S x = some (.slice none 0 0)) (hy : evS S y = some (.slice (some ⟨b, 0, none⟩) 0 5)) :
  heapOp Try.prog lo (frS n S) H ⟨d, .call ⟨.builtin .append, #[x, y], #[42, 42]⟩, ty, p, #[], none⟩ = some (.val (.slice none 0 0) H, .pure) := by
 have hm : row (0 * 1) (bc c) 0 = some [] := rfl
 have hsr : srcCells H 1 (.slice (some ⟨b, 0, none⟩) 0 5) = some (0, []) := by simp only [srcCells, h0.rd.of, hm]
 unfold heapOp
 simp only [evs, ev_frS, hx, hy, builtinV, List.getElem?_toArray, List.getElem?_cons_zero, List.getElem?_cons_succ, se42, u42, hsr, appendV, Nat.beq_refl, Bool.and_true, cond_true, cond_false]
 rfl
section
variable {kn : FuncId → Option Bool} {lo : Nat} {H : Hp}
theorem blB_in {us : List Tn} {r : Rc} (hA : us.all Tn.ok = true) (hr : 1 ≤ r.un) : ∀ i, 0 ≤ blB us r i ∧ blB us r i ≤ 12 := by
 have h := bestB_says (us := us) (r := r) (by omega)
 unfold blB
 cases e : bestB us r with
 | none => intro i; exact ⟨Int.le_refl _, (by decide : (0 : Int) ≤ 12)⟩
 | some b =>
  rw [e] at h
  intro i
  show 0 ≤ b i ∧ b i ≤ 12
  rcases Nat.lt_or_ge i us.length with q | q
  ·have a := h.1.un i q
   have c := (Tn.ok_t (tn_at hA q)).1
   unfold unF at a
   omega
  ·rw [h.1.z i q]; exact ⟨Int.le_refl _, by decide⟩
theorem slow_ok {lim : Int} {sa : Option Addr} {cap : Nat} {us : List Tn} (hs : Sl H sa us.length cap (tnc us)) (h0 : 1 ≤ lim) (h9 : lim ≤ 1000000) (hlo : lo ≤ H.next) : ∃ t H', FnX Try.prog kn lo 24 [.slice sa us.length cap, iv lim] H (.bool t) H' ∧ Keep H H' [] ∧ (t = false → us.length ≤ 8) := by
 have key := fnX_low (kn := kn) (lo := lo) (H := H) (args := [.slice sa us.length cap, iv lim]) (Q := fun w H' => ∃ t, w = .bool t ∧ Keep H H' [] ∧ (t = false → us.length ≤ 8)) Try.func24 B24 N24 Z24 L24 (by simp) ?_
 ·obtain ⟨w, H', h, t, rfl, q⟩ := key; exact ⟨t, H', h, q⟩
 have hk := Keep.refl H []
 have fs := hs.old
 refine wN_seq ?_
 refine wN_mov (v := .bool false) rfl ?_
 refine wN_end ?_
 refine wN_seq ?_
 refine wN_mov (v := iv 1) rfl ?_
 refine wN_end ?_
 refine wN_seq ?_
 refine wN_mov (v := iv 0) rfl ?_
 refine wN_end ?_
 refine loop_low (fn := Try.f24) E24_1 N24 L24x1 (fun x : Nat × Int => [(0, .slice sa us.length cap), (1, iv lim), (5, iv x.2), (6, iv (x.1 : Int))])
  (fun k x H' => x.1 + k = 8 ∧ 1 ≤ x.2 + 1 ∧ x.2 ≤ lim + 1 ∧ Keep H H' [] ∧ Sl H' sa us.length cap (tnc us)) 8 (0, 1) ⟨by omega, by decide, by omega, hk, hs⟩ ⟨rfl, rfl, rfl, rfl, trivial⟩ ?_
 rintro k ⟨i, q⟩ L1 ⟨hik, h1, h2, hk, hs⟩
 simp only at hik h1 h2 ⊢
 refine wN_seq ?_
 refine wN_mov (v := iv (i : Int)) rfl ?_
 refine wN_mov (v := .slice sa us.length cap) rfl ?_
 refine wN_len (m := us.length) rfl ?_
 refine wN_b_lss (a := (i : Int)) (b := (us.length : Int)) rfl rfl ?_
 intro t1 g1; cases t1
 ·have g1 : ¬ ((i : Int) < (us.length : Int)) := of_decide_eq_false g1
  refine wN_mov (v := .bool false) rfl ?_
  refine wN_gs rfl ?_
  refine wN_gs rfl ?_
  refine wN_pur (v := .bool false) rfl rfl ?_
  refine wN_end ?_
  refine condF ?_
  first | (refine wN_exit ?_; show wC _ _ _ _ _ _ _ _ _) | skip
  refine wN_seq ?_
  refine wN_mov (v := iv q) rfl ?_
  refine wN_mov (v := iv lim) rfl ?_
  refine wN_b_gtr (a := q) (b := lim) rfl rfl ?_
  intro t2 g2; cases t2
  ·have g2 : ¬ (q > lim) := of_decide_eq_false g2
   refine wN_mov (v := .bool false) rfl ?_
   refine wN_g rfl (wN_mov (v := .slice sa us.length cap) rfl ?_)
   refine wN_g rfl (wN_len (m := us.length) rfl ?_)
   refine wN_g rfl (wN_b_gtr (a := (us.length : Int)) (b := 8) rfl rfl ?_)
   intro t3 g3; cases t3
   ·have g3 : ¬ ((us.length : Int) > 8) := of_decide_eq_false g3
    refine wN_pur (v := .bool false) rfl rfl ?_
    refine wN_mov (v := .bool false) rfl ?_
    refine wN_end ?_
    exact And.intro trivial (Exists.intro _ (And.intro rfl ⟨false, rfl, hk, fun e => by first | (cases e; done) | omega⟩))
   ·have g3 : (us.length : Int) > 8 := of_decide_eq_true g3
    refine wN_pur (v := .bool true) rfl rfl ?_
    refine wN_mov (v := .bool true) rfl ?_
    refine wN_end ?_
    exact And.intro trivial (Exists.intro _ (And.intro rfl ⟨true, rfl, hk, fun e => by first | (cases e; done) | omega⟩))
  ·have g2 : q > lim := of_decide_eq_true g2
   refine wN_mov (v := .bool true) rfl ?_
   refine wN_gs rfl ?_
   refine wN_gs rfl ?_
   refine wN_gs rfl ?_
   refine wN_pur (v := .bool true) rfl rfl ?_
   refine wN_mov (v := .bool true) rfl ?_
   refine wN_end ?_
   exact And.intro trivial (Exists.intro _ (And.intro rfl ⟨true, rfl, hk, fun e => by first | (cases e; done) | omega⟩))
 ·have g1 : (i : Int) < (us.length : Int) := of_decide_eq_true g1
  refine wN_mov (v := .bool true) rfl ?_
  refine wN_g rfl (wN_mov (v := iv (i : Int)) rfl ?_)
  refine wN_g rfl (wN_b_lss (a := (i : Int)) (b := 8) rfl rfl ?_)
  intro t4 g4; cases t4
  ·have g4 : ¬ ((i : Int) < 8) := of_decide_eq_false g4
   refine wN_pur (v := .bool false) rfl rfl ?_
   refine wN_end ?_
   refine condF ?_
   first | (refine wN_exit ?_; show wC _ _ _ _ _ _ _ _ _) | skip
   refine wN_seq ?_
   refine wN_mov (v := iv q) rfl ?_
   refine wN_mov (v := iv lim) rfl ?_
   refine wN_b_gtr (a := q) (b := lim) rfl rfl ?_
   intro t5 g5; cases t5
   ·have g5 : ¬ (q > lim) := of_decide_eq_false g5
    refine wN_mov (v := .bool false) rfl ?_
    refine wN_g rfl (wN_mov (v := .slice sa us.length cap) rfl ?_)
    refine wN_g rfl (wN_len (m := us.length) rfl ?_)
    refine wN_g rfl (wN_b_gtr (a := (us.length : Int)) (b := 8) rfl rfl ?_)
    intro t6 g6; cases t6
    ·have g6 : ¬ ((us.length : Int) > 8) := of_decide_eq_false g6
     refine wN_pur (v := .bool false) rfl rfl ?_
     refine wN_mov (v := .bool false) rfl ?_
     refine wN_end ?_
     exact And.intro trivial (Exists.intro _ (And.intro rfl ⟨false, rfl, hk, fun e => by first | (cases e; done) | omega⟩))
    ·have g6 : (us.length : Int) > 8 := of_decide_eq_true g6
     refine wN_pur (v := .bool true) rfl rfl ?_
     refine wN_mov (v := .bool true) rfl ?_
     refine wN_end ?_
     exact And.intro trivial (Exists.intro _ (And.intro rfl ⟨true, rfl, hk, fun e => by first | (cases e; done) | omega⟩))
   ·have g5 : q > lim := of_decide_eq_true g5
    refine wN_mov (v := .bool true) rfl ?_
    refine wN_gs rfl ?_
    refine wN_gs rfl ?_
    refine wN_gs rfl ?_
    refine wN_pur (v := .bool true) rfl rfl ?_
    refine wN_mov (v := .bool true) rfl ?_
    refine wN_end ?_
    exact And.intro trivial (Exists.intro _ (And.intro rfl ⟨true, rfl, hk, fun e => by first | (cases e; done) | omega⟩))
  ·have g4 : (i : Int) < 8 := of_decide_eq_true g4
   refine wN_pur (v := .bool true) rfl rfl ?_
   refine wN_end ?_
   refine condT ?_
   rcases id hs with ⟨_, h0, _⟩ | ⟨sb, es, rs, _⟩
   ·omega
   have lsb := rs.lt
   first | refine wN_skip ?_ | skip
   first | refine wN_reg ?_ | refine wN_blk ?_ | refine wN_bseq ?_ | (refine wOps_nil ?_; refine wN_reg ?_)
   refine wN_mov (v := iv q) rfl ?_
   refine wN_mov (v := .slice sa us.length cap) rfl ?_
   refine wN_mov (v := iv (i : Int)) rfl ?_
   refine wN_idx (b := sb) (o := 0) (k := i) (j := (i : Int)) (by rw [← es]; rfl) rfl rfl (by omega) ?_
   refine wN_addo (b := sb) (o := 0 + i * 5) rfl ?_
   refine wN_ld (b := sb) (o := 0 + i * 5) (v := iv ((us.getD i Tn.z).un)) rfl rs (tnc_atF (j := 0) (by omega) rfl) ?_
   refine wN_mm (a := (us.getD i Tn.z).un) (b := 20) rfl rfl ?_
   refine wN_mm (a := 0) (b := min ((us.getD i Tn.z).un) 20) rfl rfl ?_
   refine wN_add (a := 1) (b := max 0 (min ((us.getD i Tn.z).un) 20)) rfl rfl ⟨by omega, by omega⟩ ?_
   refine wN_mul (a := q) (b := 1 + (max 0 (min ((us.getD i Tn.z).un) 20))) rfl rfl (mulR (by omega) (by omega) (by omega) (by omega)) ?_
   have hp0 : 0 ≤ q * (1 + (max 0 (min ((us.getD i Tn.z).un) 20))) := Int.mul_nonneg (by omega) (by omega)
   refine wN_mov (v := iv lim) rfl ?_
   refine wN_add (a := lim) (b := 1) rfl rfl ⟨by omega, by omega⟩ ?_
   refine wN_mm (a := q * (1 + (max 0 (min ((us.getD i Tn.z).un) 20)))) (b := lim + 1) rfl rfl ?_
   refine wN_mov (v := iv (min (q * (1 + (max 0 (min ((us.getD i Tn.z).un) 20)))) (lim + 1))) rfl ?_
   refine wN_end ?_
   first | refine wN_reg ?_ | refine wN_blk ?_ | refine wN_bseq ?_ | (refine wOps_nil ?_; refine wN_reg ?_)
   refine wN_mov (v := iv (i : Int)) rfl ?_
   refine wN_add (a := (i : Int)) (b := 1) rfl rfl ⟨by omega, by omega⟩ ?_
   refine wN_mov (v := iv ((i : Int) + 1)) rfl ?_
   refine wN_end ?_
   exact ⟨k - 1, (i + 1, min (q * (1 + (max 0 (min ((us.getD i Tn.z).un) 20)))) (lim + 1)), by omega, ⟨by simp only; omega, by simp only; omega, by simp only; omega, hk, hs⟩, rfl, rfl, rfl, rfl, trivial⟩
end
end Go.Ax

/-
  Plant: some blend; the law PlantCheapest (written by program).
-/
namespace Go.Ax
open Go Go.RowKit Go.Proofs

theorem AccB.of {b0 lo f : Nat} {e : TypeId} {H : Hp} {v : Value} {n : Nat} {cs : List Value} (h : Acc lo f e H v n cs) (h0 : 0 < n) : AccB b0 lo f e H v n cs := by
  rcases h with ⟨q, _⟩ | q
  · omega
  · exact .inr q
theorem AccB.lt {b0 lo f : Nat} {e : TypeId} {H : Hp} {v : Value} {n : Nat} {cs : List Value} (h : AccB b0 lo f e H v n cs) {b m c : Nat} (ev : v = .slice (some ⟨b, 0, none⟩) m c) : b < H.next := by
  rcases h with ⟨_, _, rfl, hb, _⟩ | ⟨b1, rfl, _, _, _, hn, _⟩
  · cases ev; exact hb
  · cases ev; exact hn
theorem AccB.sl {b0 lo f : Nat} {e : TypeId} {H : Hp} {v : Value} {n : Nat} {cs : List Value} (h : AccB b0 lo f e H v n cs) : ∃ a c, v = .slice a n c ∧ Sl H a n c cs := by
  rcases h with ⟨rfl, rfl, rfl, hb, e0, h0⟩ | ⟨b, rfl, h0, hf, hl, hn, hg⟩
  · exact ⟨_, _, rfl, .inr ⟨b0, rfl, ⟨hb, by unfold cellsOf; rw [h0]⟩, Nat.le_refl _⟩⟩
  · exact ⟨_, _, rfl, .inr ⟨b, rfl, ⟨hn, by unfold cellsOf; rw [hg]⟩, Nat.le_refl _⟩⟩
section
variable {kn : FuncId → Option Bool} {lo : Nat} {H : Hp}
end
end Go.Ax

/-
  Plant: all lists of units, and the first cheapest one of them (written by program).
-/
namespace Go.Ax
open Go Go.RowKit

end Go.Ax

/-
  Plant: the document's Blend: all lists (56) (written by program).
-/
namespace Go.Ax
open Go Go.RowKit Go.Proofs

theorem se94 : sliceElem Try.prog 94 = some (42, 1) := by kernel_rfl
theorem u94 : Try.prog.underlying 94 = some (.slice 42) := by kernel_rfl
/-- a list of numbers that append made, or none -/
def Els (H : Hp) (a : Option Addr) (cap n : Nat) (cs : List Value) : Prop := (n = 0 ∧ a = none ∧ cap = 0 ∧ cs = []) ∨ ∃ b, a = some ⟨b, 0, none⟩ ∧ cap = n ∧ b < H.next ∧ H.t.get b = some (.cells cs 3 true)
theorem Els.sl {H : Hp} {a : Option Addr} {cap n : Nat} {cs : List Value} (h : Els H a cap n cs) : Sl H a n cap cs := by
  rcases h with ⟨rfl, rfl, rfl, rfl⟩ | ⟨b, rfl, rfl, h1, h2⟩
  · exact .inl ⟨.inl rfl, rfl, rfl, rfl⟩
  · exact .inr ⟨b, rfl, ⟨h1, by unfold cellsOf; rw [h2]⟩, Nat.le_refl _⟩
/-- what lies below f stays, and all blocks but those that hold lists of lists -/
structure KL (f : Nat) (H H1 : Hp) : Prop where
  nx : H.next ≤ H1.next
  bl : ∀ b, b < H.next → (b < f ∨ ∀ cs, H.t.get b ≠ some (.cells cs 42 true)) → H1.t.get b = H.t.get b
  ro : ∀ b cs, b < H1.next → H1.t.get b = some (.ro cs) → b < H.next ∧ H.t.get b = some (.ro cs)
theorem KL.of {f : Nat} {H H1 : Hp} (k : Keep H H1 []) : KL f H H1 := ⟨k.1, fun b hb _ => k.2 b hb (by simp), k.3⟩
theorem KL.trans {f : Nat} {H H1 H2 : Hp} (h : KL f H H1) (k : KL f H1 H2) : KL f H H2 :=
  ⟨Nat.le_trans h.nx k.nx, fun b hb q => by
    have e := h.bl b hb q
    rw [← e]
    refine k.bl b (Nat.lt_of_lt_of_le hb h.nx) (q.imp id fun z cs => ?_)
    rw [e]; exact z cs, fun b cs hb hg => by
    obtain ⟨a, c⟩ := k.ro b cs hb hg
    exact h.ro b cs a c⟩
theorem KL.keep {f : Nat} {H0 H H1 : Hp} (k : KL f H H1) (h : Keep H0 H []) (hf : H0.next ≤ f) : Keep H0 H1 [] :=
  ⟨Nat.le_trans h.1 k.nx, fun b hb hn => by rw [k.bl b (Nat.lt_of_lt_of_le hb h.1) (.inl (Nat.lt_of_lt_of_le hb hf)), h.2 b hb hn], fun b cs hb hg => by
    obtain ⟨a, c⟩ := k.ro b cs hb hg
    exact h.3 b cs a c⟩
theorem KL.els {f : Nat} {H H1 : Hp} (k : KL f H H1) {a : Option Addr} {cap n : Nat} {cs : List Value} (h : Els H a cap n cs) : Els H1 a cap n cs :=
  h.imp id fun ⟨b, e1, e2, h1, h2⟩ => ⟨b, e1, e2, Nat.lt_of_lt_of_le h1 k.nx, by rw [k.bl b h1 (.inr fun cs q => by rw [h2] at q; cases q)]; exact h2⟩
theorem KL.sl {f : Nat} {H H1 : Hp} (k : KL f H H1) {a : Option Addr} {cap n : Nat} {cs : List Value} (h : Sl H a n cap cs) (hf : ∀ b, a = some ⟨b, 0, none⟩ → b < f) : Sl H1 a n cap cs :=
  h.imp id fun ⟨b, e1, ⟨h1, h2⟩, q⟩ => ⟨b, e1, ⟨Nat.lt_of_lt_of_le h1 k.nx, by unfold cellsOf at h2 ⊢; rw [k.bl b h1 (.inl (hf b e1))]; exact h2⟩, q⟩
/-- a list of lists that append made -/
def Out (lo f n : Nat) (H : Hp) (v : Value) (L : List Bl) : Prop := ∃ cs, Acc lo f 42 H v L.length cs ∧ cs.length = L.length * 1 ∧ ∀ (i : Nat) (x : Bl), L[i]? = some x → ∃ a cap, cs[i]? = some (Value.slice a n cap) ∧ Els H a cap n (nf x n)
theorem Out.keep {lo f n : Nat} {H H1 : Hp} {v : Value} {L : List Bl} (h : Out lo f n H v L) (k : Keep H H1 []) : Out lo f n H1 v L := by
  obtain ⟨cs, h1, h2, h3⟩ := h
  exact ⟨cs, h1.keep k, h2, fun i x hx => by obtain ⟨a, cap, e, q⟩ := h3 i x hx; exact ⟨a, cap, e, (KL.of (f := 0) k).els q⟩⟩
/-- append of one to what append made (any number) -/
theorem heap_append_big {P : Program} {lo : Nat} {H : Hp} {t0 t1 e ep : TypeId} {k cap2 f : Nat} {a : Option Addr} {v w : Value} {cs : List Value} (he : sliceElem P t0 = some (e, 1)) (ht : P.underlying t1 = some (.slice ep))
    (hs : Sl H a 1 cap2 [w]) (hone : one w = true) (hcl : cs.length = k * 1) (hk : k < 1000000) (ha : Acc lo f e H v k cs) (hlo : lo ≤ H.next) (hf : f ≤ H.next) :
    ∃ H1 kd, (∀ (n : Nat) (S : Rg) (d : Option Tmp) (x y : Operand) (ty : TypeId) (p : String), evS S x = some v → evS S y = some (.slice a 1 cap2) → heapOp P lo (frS n S) H ⟨d, .call ⟨.builtin .append, #[x, y], #[t0, t1]⟩, ty, p, #[], none⟩ = some (.val (.slice (some ⟨H.next, 0, none⟩) (k + 1) (k + 1)) H1, kd)) ∧ (∀ b, kd ≠ .read b) ∧
      Acc lo f e H1 (.slice (some ⟨H.next, 0, none⟩) (k + 1) (k + 1)) (k + 1) (cs ++ [w]) ∧ Keep H H1 (bkv v).toList := by
  have hl : [w].length = 1 * 1 := rfl
  have hone : [w].all one = true := by simp [hone]
  rcases ha with ⟨rfl, rfl, rfl⟩ | ⟨b, rfl, h0, hb, hlb, hn, hg⟩
  · refine ⟨H.new (.cells [w] e true), .heavy, ?_, (fun b e => by cases e), ?_, (new_facts rfl).1.mono (by simp)⟩
    · intro n S d x y ty p hx hy
      unfold heapOp
      simp only [evs, ev_frS, hx, hy, builtinV, List.getElem?_toArray, List.getElem?_cons_zero, List.getElem?_cons_succ, he, ht, src_of hs hl, appendV]
      rfl
    · refine .inr ⟨H.next, rfl, by omega, hf, hlo, Nat.lt_succ_self _, ?_⟩
      show (H.t.set H.next _).get H.next = _
      rw [Tr.get_set, if_pos rfl]; rfl
  · have h1 : Nat.ble (0 + (k + 1) * 1) cs.length = false := by
      cases h : Nat.ble (0 + (k + 1) * 1) cs.length with
      | false => rfl
      | true => have := Nat.le_of_ble_eq_true h; rw [hcl, Nat.succ_mul] at this; omega
    have h2 : Nat.beq (0 + k * 1) cs.length = true := by rw [hcl, Nat.zero_add]; exact Nat.beq_refl _
    have h3 : Nat.ble (k + 1) 1048576 = true := Nat.ble_eq_true_of_le (by omega)
    have h4 : Nat.beq e e = true := Nat.beq_refl e
    refine ⟨({ H with t := H.t.set b .dead } : Hp).new (.cells (cs ++ [w]) e true), .store b, ?_, (fun b e => by cases e), ?_, ?_⟩
    · intro n S d x y ty p hx hy
      unfold heapOp
      simp only [evs, ev_frS, hx, hy, builtinV, List.getElem?_toArray, List.getElem?_cons_zero, List.getElem?_cons_succ, he, ht, src_of hs hl, appendV, hg, h1, h2, h3, h4, hone, Nat.ble_eq_true_of_le hlb, Bool.and_self, cond_true, cond_false, List.drop_zero, show Nat.beq 1 0 = false from rfl]
    · refine .inr ⟨H.next, rfl, by omega, hf, hlo, Nat.lt_succ_self _, ?_⟩
      show ((H.t.set b .dead).set H.next _).get H.next = _
      rw [Tr.get_set, if_pos rfl]
    · refine ⟨Nat.le_succ _, fun c hc hn => ?_, fun c xs hc hx => ?_⟩
      · have hne : c ≠ b := by simpa [bkv] using hn
        show ((H.t.set b .dead).set H.next _).get c = _
        rw [Tr.get_set, if_neg (by omega), Tr.get_set, if_neg hne]
      · have hx : ((H.t.set b .dead).set H.next (.cells (cs ++ [w]) e true)).get c = some (.ro xs) := hx
        have hc : c < H.next + 1 := hc
        rw [Tr.get_set] at hx
        split at hx
        · cases hx
        · rw [Tr.get_set] at hx
          split at hx
          · cases hx
          · exact ⟨by omega, hx⟩
/-- one more list -/
theorem Out.append {lo f n : Nat} {H : Hp} {v : Value} {L : List Bl} {a a1 : Option Addr} {cap c1 : Nat} {x : Bl} (h : Out lo f n H v L) (hx : Els H a cap n (nf x n)) (hs : Sl H a1 1 c1 [.slice a n cap]) (hL : L.length < 1000000) (hlo : lo ≤ H.next) (hf : f ≤ H.next) :
    ∃ v1 H1 kd, (∀ (m : Nat) (S : Rg) (d : Option Tmp) (x y : Operand) (ty : TypeId) (p : String), evS S x = some v → evS S y = some (.slice a1 1 c1) → heapOp Try.prog lo (frS m S) H ⟨d, .call ⟨.builtin .append, #[x, y], #[94, 94]⟩, ty, p, #[], none⟩ = some (.val v1 H1, kd)) ∧ (∀ b, kd ≠ .read b) ∧ Out lo f n H1 v1 (L ++ [x]) ∧ KL f H H1 := by
  obtain ⟨cs, h1, h2, h3⟩ := h
  obtain ⟨H1, kd, e, d, ac, k⟩ := heap_append_big (P := Try.prog) (lo := lo) (t1 := 94) se94 u94 hs rfl h2 hL h1 hlo hf
  have kl : KL f H H1 := by
    refine ⟨k.1, fun b hb q => k.2 b hb fun hm => ?_, k.3⟩
    rcases h1 with ⟨_, _, rfl⟩ | ⟨b1, rfl, _, hf1, _, _, hg⟩
    · simp [bkv] at hm
    · simp [bkv] at hm
      subst hm
      rcases q with q | q
      · omega
      · exact q _ hg
  refine ⟨_, H1, kd, e, d, ⟨cs ++ [.slice a n cap], by rw [List.length_append]; exact ac, by rw [List.length_append, List.length_append, h2]; simp, fun i y hy => ?_⟩, kl⟩
  rcases Nat.lt_or_ge i L.length with q | q
  · rw [List.getElem?_append_left q] at hy
    obtain ⟨a', cap', e', z⟩ := h3 i y hy
    exact ⟨a', cap', by rw [List.getElem?_append_left (by omega)]; exact e', kl.els z⟩
  · rw [List.getElem?_append_right q] at hy
    have e0 : i - L.length = 0 := by
      rcases Nat.eq_zero_or_pos (i - L.length) with z | z
      · exact z
      · rw [List.getElem?_eq_none (by simp; omega)] at hy; cases hy
    rw [e0] at hy
    have hy : x = y := by simpa using hy
    subst hy
    exact ⟨a, cap, by rw [List.getElem?_append_right (by omega), show i - cs.length = 0 by omega]; rfl, kl.els hx⟩
section
variable {kn : FuncId → Option Bool} {lo : Nat} {H : Hp}
end
end Go.Ax

/-
  Plant: when lots are frozen, late lots, the least rate (written by program).
-/
namespace Go.Ax
open Go Go.RowKit

section
variable {L : Nat → Nat} {rd ms du : Nat → Int} {R : Int} {n : Nat}
end
/-- of lots -/
def LS (us : List Fz) : Nat → Nat := srt (duF us) us.length
def DN (us : List Fz) (R : Int) : Nat → Int := dnA (LS us) (rdF us) R (msF us) us.length 500
structure FzOk (us : List Fz) : Prop where
  m : ∀ x, x < us.length → 0 ≤ msF us x ∧ msF us x ≤ 1099511627776
  a : ∀ x, x < us.length → 0 ≤ rdF us x
  d : ∀ x, x < us.length → rdF us x ≤ duF us x ∧ duF us x ≤ 500
theorem FzOk.of {us : List Fz} (h : us.all Fz.ok = true) : FzOk us := ⟨fun x hx => (all_at h hx).2.2, fun x hx => (all_at h hx).2.1.1, fun x hx => ⟨(all_at h hx).2.1.2, (all_at h hx).1.2⟩⟩
end Go.Ax

/-
  Plant: Frozen, Late, the law PlantInTime (written by program).
-/
namespace Go.Ax
open Go Go.RowKit Go.Proofs

/-- the error of Frozen -/
def frzE (us : List Fz) (R : Int) : Int := if chkF us = 0 then (if 1 ≤ R ∧ R ≤ 17592186044416 then 0 else 2) else chkF us
theorem chkF_0 {us : List Fz} (h : chkF us = 0) : us.length ≤ 16 ∧ us.all Fz.ok = true := by
  unfold chkF at h
  split at h
  · cases h
  · rename_i q
    refine ⟨by omega, ?_⟩
    split at h
    · assumption
    · cases h
theorem frzE_0 {us : List Fz} {R : Int} (h : frzE us R = 0) : us.length ≤ 16 ∧ us.all Fz.ok = true ∧ 1 ≤ R ∧ R ≤ 17592186044416 := by
  unfold frzE at h
  split at h
  · rename_i q
    split at h
    · exact ⟨(chkF_0 q).1, (chkF_0 q).2, by assumption⟩
    · cases h
  · rename_i q; exact absurd h q
section
variable {kn : FuncId → Option Bool} {lo : Nat} {H : Hp}
/-- Frozen, where it answers -/
theorem frozen28_ok {sa : Option Addr} {n cap : Nat} {us : List Fz} {R : Int} (hs : Sl H sa n cap (fzc us)) (hl : us.length = n) (hn2 : n ≤ 1000000) (hlo : lo ≤ H.next) (h0 : frzE us R = 0) : ∃ b H', FnX Try.prog kn lo 28 [.slice sa n cap, iv R] H (.tuple #[slv b n n, iv 0]) H' ∧ Keep H H' [] ∧ H.next ≤ b ∧ Cl H' b (nf (DN us R) n) := by
  have key := fnX_low (kn := kn) (lo := lo) (H := H) (args := [.slice sa n cap, iv R]) (Q := fun w H' => ∃ b, w = .tuple #[slv b n n, iv 0] ∧ Keep H H' [] ∧ H.next ≤ b ∧ Cl H' b (nf (DN us R) n)) Try.func28 B28 N28 Z28 L28 (by simp) ?_
  · obtain ⟨w, H', h, a, rfl, q⟩ := key; exact ⟨a, H', h, q⟩
  have hk := Keep.refl H []
  obtain ⟨h1, h2, h3, h4⟩ := frzE_0 h0
  have hc : chkF us = 0 := by unfold chkF; rw [if_neg (by omega), h2]; rfl
  refine wN_seq ?_
  refine wN_mov (v := .slice none 0 0) rfl ?_
  refine wN_mov (v := iv 0) rfl ?_
  refine wN_end ?_
  refine wN_seq ?_
  refine wN_mov (v := .slice sa n cap) rfl ?_
  obtain ⟨H1, fH1, kH1⟩ := check57_ok (kn := kn) (lo := lo) (H := H) hs hl hn2 (by omega)
  refine wN_callf (vs := [.slice sa n cap]) rfl (callX_args fH1) ?_
  have mH1 := kH1.1
  have hk := hk.trans kH1
  have hs := kH1.sl0 hs
  refine wN_mov (v := iv (chkF us)) rfl ?_
  refine wN_end ?_
  refine wN_seq ?_
  refine wN_mov (v := iv (chkF us)) rfl ?_
  refine wN_c_neq (a := (chkF us)) (b := 0) rfl rfl ?_
  refine wN_end ?_
  refine And.intro (fun q1 => ?_) (fun q1 => ?_)
  · have q1 : (chkF us) ≠ 0 := by simpa using q1
    exfalso; omega
  · have q1 : ¬ ((chkF us) ≠ 0) := by simpa using q1
    first | refine wN_skip ?_ | skip
    refine wN_seq ?_
    refine wN_mov (v := iv R) rfl ?_
    refine wN_b_lss (a := R) (b := 1) rfl rfl ?_
    intro t2 g2; cases t2
    · have g2 : ¬ (R < 1) := of_decide_eq_false g2
      refine wN_mov (v := .bool false) rfl ?_
      refine wN_g rfl (wN_mov (v := iv R) rfl ?_)
      refine wN_g rfl (wN_b_gtr (a := R) (b := 17592186044416) rfl rfl ?_)
      intro t3 g3; cases t3
      · have g3 : ¬ (R > 17592186044416) := of_decide_eq_false g3
        refine wN_pur (v := .bool false) rfl rfl ?_
        refine wN_end ?_
        refine condF ?_
        first | refine wN_skip ?_ | skip
        refine wN_seq ?_
        refine wN_mov (v := .slice sa n cap) rfl ?_
        refine wN_mov (v := iv R) rfl ?_
        obtain ⟨b, H2, fH2, kH2, hb, cb⟩ := frozen_ok (kn := kn) (lo := lo) (H := H1) (R := R) hs hl (by omega) (L := LS us) (by unfold LS; rw [hl]) h2 ⟨h3, h4⟩ (by omega)
        refine wN_callf (vs := [.slice sa n cap, iv R]) rfl (callX_args fH2) ?_
        have mH2 := kH2.1
        have hk := hk.trans kH2
        have hs := kH2.sl0 hs
        refine wN_mov (v := .slice (some ⟨b, 0, none⟩) n n) rfl ?_
        refine wN_mov (v := iv 0) rfl ?_
        refine wN_end ?_
        exact And.intro trivial (Exists.intro _ (And.intro rfl ⟨_, rfl, hk, by omega, by unfold DN; rw [hl]; exact cb⟩))
      · have g3 : R > 17592186044416 := of_decide_eq_true g3
        exfalso; omega
    · have g2 : R < 1 := of_decide_eq_true g2
      exfalso; omega
/-- Frozen, where it does not -/
theorem frozen28_no {sa : Option Addr} {n cap : Nat} {us : List Fz} {R : Int} (hs : Sl H sa n cap (fzc us)) (hl : us.length = n) (hn2 : n ≤ 1000000) (hlo : lo ≤ H.next) (h0 : frzE us R ≠ 0) : ∃ H', FnX Try.prog kn lo 28 [.slice sa n cap, iv R] H (.tuple #[.slice none 0 0, iv (frzE us R)]) H' ∧ Keep H H' [] := by
  have key := fnX_low (kn := kn) (lo := lo) (H := H) (args := [.slice sa n cap, iv R]) (Q := fun w H' => w = .tuple #[.slice none 0 0, iv (frzE us R)] ∧ Keep H H' []) Try.func28 B28 N28 Z28 L28 (by simp) ?_
  · obtain ⟨w, H', h, rfl, q⟩ := key; exact ⟨H', h, q⟩
  have hk := Keep.refl H []
  refine wN_seq ?_
  refine wN_mov (v := .slice none 0 0) rfl ?_
  refine wN_mov (v := iv 0) rfl ?_
  refine wN_end ?_
  refine wN_seq ?_
  refine wN_mov (v := .slice sa n cap) rfl ?_
  obtain ⟨H1, fH1, kH1⟩ := check57_ok (kn := kn) (lo := lo) (H := H) hs hl hn2 (by omega)
  refine wN_callf (vs := [.slice sa n cap]) rfl (callX_args fH1) ?_
  have mH1 := kH1.1
  have hk := hk.trans kH1
  have hs := kH1.sl0 hs
  refine wN_mov (v := iv (chkF us)) rfl ?_
  refine wN_end ?_
  refine wN_seq ?_
  refine wN_mov (v := iv (chkF us)) rfl ?_
  refine wN_c_neq (a := (chkF us)) (b := 0) rfl rfl ?_
  refine wN_end ?_
  refine And.intro (fun q1 => ?_) (fun q1 => ?_)
  · have q1 : (chkF us) ≠ 0 := by simpa using q1
    refine wN_seq ?_
    refine wN_mov (v := iv (chkF us)) rfl ?_
    refine wN_mov (v := .slice none 0 0) rfl ?_
    refine wN_mov (v := iv (chkF us)) rfl ?_
    refine wN_end ?_
    exact And.intro trivial (Exists.intro _ (And.intro rfl ⟨by unfold frzE; first | (rw [if_neg (by omega)]; rfl) | (rw [if_pos (by omega), if_neg (by omega)]; rfl), hk⟩))
  · have q1 : ¬ ((chkF us) ≠ 0) := by simpa using q1
    first | refine wN_skip ?_ | skip
    refine wN_seq ?_
    refine wN_mov (v := iv R) rfl ?_
    refine wN_b_lss (a := R) (b := 1) rfl rfl ?_
    intro t2 g2; cases t2
    · have g2 : ¬ (R < 1) := of_decide_eq_false g2
      refine wN_mov (v := .bool false) rfl ?_
      refine wN_g rfl (wN_mov (v := iv R) rfl ?_)
      refine wN_g rfl (wN_b_gtr (a := R) (b := 17592186044416) rfl rfl ?_)
      intro t3 g3; cases t3
      · have g3 : ¬ (R > 17592186044416) := of_decide_eq_false g3
        exfalso; exact h0 (by unfold frzE; rw [if_pos (by omega), if_pos (by omega)])
      · have g3 : R > 17592186044416 := of_decide_eq_true g3
        refine wN_pur (v := .bool true) rfl rfl ?_
        refine wN_end ?_
        refine condT ?_
        refine wN_seq ?_
        refine wN_mov (v := .slice none 0 0) rfl ?_
        refine wN_mov (v := iv 2) rfl ?_
        refine wN_end ?_
        exact And.intro trivial (Exists.intro _ (And.intro rfl ⟨by unfold frzE; first | (rw [if_neg (by omega)]; rfl) | (rw [if_pos (by omega), if_neg (by omega)]; rfl), hk⟩))
    · have g2 : R < 1 := of_decide_eq_true g2
      refine wN_mov (v := .bool true) rfl ?_
      refine wN_gs rfl ?_
      refine wN_gs rfl ?_
      refine wN_pur (v := .bool true) rfl rfl ?_
      refine wN_end ?_
      refine condT ?_
      refine wN_seq ?_
      refine wN_mov (v := .slice none 0 0) rfl ?_
      refine wN_mov (v := iv 2) rfl ?_
      refine wN_end ?_
      exact And.intro trivial (Exists.intro _ (And.intro rfl ⟨by unfold frzE; first | (rw [if_neg (by omega)]; rfl) | (rw [if_pos (by omega), if_neg (by omega)]; rfl), hk⟩))
end
end Go.Ax

/-! The law PlantFaster's code, an addition that may wrap left as it is (written by program). -/
namespace Go.Ax
open Go Go.RowKit Go.Proofs
end Go.Ax

/-
  Plant: Rate, Late, Freezes, the law PlantFaster (written by program).
-/
namespace Go.Ax
open Go Go.RowKit Go.Proofs

section
variable {kn : FuncId → Option Bool} {lo : Nat} {H : Hp}
end
end Go.Ax

/-
  Plant: the document's way to freeze: the next lot, again and again (written by program).
-/
namespace Go.Ax
open Go Go.RowKit

/-- the lot that is taken next, of the first k -/
def nx (us : List Fz) (g : Nat → Int) (h : Int) : Nat → Int
  | 0 => -1
  | k + 1 => if (rdF us k ≤ h ∧ 0 < g k) ∧ (nx us g h k < 0 ∨ duF us k < duF us (nx us g h k).toNat) then (k : Int) else nx us g h k
section
variable {L : Nat → Nat} {rd left dn : Nat → Int} {h R : Int} {n k : Nat}
end
end Go.Ax

/-
  Plant: the document's Frozen and Rate, the law PlantFreezes (written by program).
-/
namespace Go.Ax
open Go Go.RowKit Go.Proofs

section
variable {kn : FuncId → Option Bool} {lo : Nat} {H : Hp}
end
end Go.Ax

/-
  Plant: the document's Rate, Ints, the law PlantFreezes (written by program).
-/
namespace Go.Ax
open Go Go.RowKit Go.Proofs

section
variable {kn : FuncId → Option Bool} {lo : Nat} {H : Hp}
/-- the document's Ints, of the same -/
theorem ints27_ok {g : Nat → Int} {a1 a2 : Option Addr} {n c1 c2 m : Nat} (h1 : Sl H a1 n c1 (nf g m)) (h2 : Sl H a2 n c2 (nf g m)) (hnm : n ≤ m) (hn2 : n ≤ 1000000) : ∃ H', FnX Try.prog kn lo 27 [.slice a1 n c1, .slice a2 n c2] H (.bool true) H' ∧ Keep H H' [] := by
  have key := fnX_low (kn := kn) (lo := lo) (H := H) (args := [.slice a1 n c1, .slice a2 n c2]) (Q := fun w H' => w = .bool true ∧ Keep H H' []) Try.func27 B27 N27 Z27 L27 (by simp) ?_
  · obtain ⟨w, H', h, rfl, q⟩ := key; exact ⟨H', h, q⟩
  have hk := Keep.refl H []
  refine wN_seq ?_
  refine wN_mov (v := .bool false) rfl ?_
  refine wN_end ?_
  refine wN_seq ?_
  refine wN_mov (v := .slice a1 n c1) rfl ?_
  refine wN_len (m := n) rfl ?_
  refine wN_mov (v := .slice a2 n c2) rfl ?_
  refine wN_len (m := n) rfl ?_
  refine wN_c_neq (a := (n : Int)) (b := (n : Int)) rfl rfl ?_
  refine wN_end ?_
  refine And.intro (fun q1 => ?_) (fun q1 => ?_)
  · have q1 : (n : Int) ≠ (n : Int) := by simpa using q1
    exfalso; omega
  · have q1 : ¬ ((n : Int) ≠ (n : Int)) := by simpa using q1
    first | refine wN_skip ?_ | skip
    refine wN_seq ?_
    refine wN_mov (v := iv 0) rfl ?_
    refine wN_end ?_
    refine loop_low (fn := Try.f27) E27_1 N27 L27x1 (fun i : Nat => [(0, .slice a1 n c1), (1, .slice a2 n c2), (5, iv (i : Int))])
      (fun k i H' => i + k = n ∧ Keep H H' [] ∧ Sl H' a1 n c1 (nf g m) ∧ Sl H' a2 n c2 (nf g m)) n 0 ⟨by omega, hk, h1, h2⟩ ⟨rfl, rfl, rfl, trivial⟩ ?_
    rintro k i L1 ⟨hik, hk, h1, h2⟩
    refine wN_seq ?_
    refine wN_mov (v := iv (i : Int)) rfl ?_
    refine wN_mov (v := .slice a1 n c1) rfl ?_
    refine wN_len (m := n) rfl ?_
    refine wN_c_lss (a := (i : Int)) (b := (n : Int)) rfl rfl ?_
    refine wN_end ?_
    refine And.intro (fun q2 => ?_) (fun q2 => ?_)
    · have q2 : (i : Int) < (n : Int) := of_decide_eq_true q2
      have hi : i < n := by omega
      rcases id h1 with ⟨_, h0, _⟩ | ⟨b1, e1, r1, _⟩
      · omega
      rcases id h2 with ⟨_, h0, _⟩ | ⟨b2, e2, r2, _⟩
      · omega
      first | refine wN_skip ?_ | skip
      refine wD_seq ?_
      refine wD_mov (v := .slice a1 n c1) rfl ?_
      refine wD_mov (v := iv (i : Int)) rfl ?_
      refine wD_idx (b := b1) (o := 0) (k := i) (j := (i : Int)) (by rw [← e1]; rfl) rfl rfl hi ?_
      refine wD_ld (b := b1) (o := 0 + i * 1) (v := iv (g i)) rfl r1 (nf_at (f := g) (by omega)) ?_
      refine wD_mov (v := .slice a2 n c2) rfl ?_
      refine wD_mov (v := iv (i : Int)) rfl ?_
      refine wD_idx (b := b2) (o := 0) (k := i) (j := (i : Int)) (by rw [← e2]; rfl) rfl rfl hi ?_
      refine wD_ld (b := b2) (o := 0 + i * 1) (v := iv (g i)) rfl r2 (nf_at (f := g) (by omega)) ?_
      refine wD_c_neq (a := g i) (b := g i) rfl rfl ?_
      rw [show (g i != g i) = false by simp]
      refine wD_end (by repeat' first | exact True.intro | exact (fun h => h) | refine And.intro ?_ ?_ | (intro h; have h : (_ : Nat) = _ := h; omega)) ?_
      refine condF ?_
      first | refine wN_skip ?_ | skip
      first | refine wN_reg ?_ | refine wN_blk ?_ | refine wN_bseq ?_ | (refine wOps_nil ?_; refine wN_reg ?_)
      refine wN_mov (v := iv (i : Int)) rfl ?_
      refine wN_add (a := (i : Int)) (b := 1) rfl rfl ⟨by omega, by omega⟩ ?_
      refine wN_mov (v := iv ((i : Int) + 1)) rfl ?_
      refine wN_end ?_
      exact ⟨k - 1, i + 1, by omega, ⟨by omega, hk, h1, h2⟩, rfl, rfl, rfl, trivial⟩
    · have q2 : ¬ ((i : Int) < (n : Int)) := of_decide_eq_false q2
      first | (refine wN_exit ?_; show wC _ _ _ _ _ _ _ _ _) | skip
      refine wN_seq ?_
      refine wN_mov (v := .bool true) rfl ?_
      refine wN_end ?_
      exact And.intro trivial (Exists.intro _ (And.intro rfl ⟨rfl, hk⟩))
end
end Go.Ax

/-
  Plant: the document's Blend, the law PlantBlends (written by program).
-/
namespace Go.Ax
open Go Go.RowKit Go.Proofs

section
variable {kn : FuncId → Option Bool} {lo : Nat} {H : Hp}
end
end Go.Ax

/-
  Plant: a machine's work, as the document has it (written by program).
-/
namespace Go.Ax
open Go Go.RowKit

end Go.Ax

/-
  Plant: Run (both), Same, great, and the law PlantRuns (written by program).
-/
namespace Go.Ax
open Go Go.RowKit Go.Proofs

theorem prun_bind {P : Program} {α β : Type} (f : α → Sem β) : ∀ (x : Sem α), prun P (x >>= f) = (prun P x).bind fun a => prun P (f a) := by
  intro x
  induction x with
  | pure a => rfl
  | program k ih => exact ih P
  | _ => rfl
theorem prun_pure {α : Type} {P : Program} (a : α) : prun P (pure a : Sem α) = some a := rfl
theorem prun_ite {α : Type} {P : Program} {c : Prop} [Decidable c] (a b : Sem α) : prun P (if c then a else b) = if c then prun P a else prun P b := by split <;> rfl
theorem same_struct {P : Program} {d : Nat} {t : TypeId} {xs : Array Value} {fs : Array Field} (hu : prun P (underlying t) = some (.struct fs)) (hp : P.stoodInHeld t = false)
    (hf : ∀ f ∈ fs.toList, ∃ v, prun P (part f.type xs f.offset) = some v ∧ prun P (Op.equalIn d f.type v v) = some true) :
    prun P (Op.equalIn (d + 1) t (.agg xs) (.agg xs)) = some true := by
  simp only [Op.equalIn, prun_bind, hu, Option.bind_some, show prun P program = some P from rfl, hp, Bool.false_eq_true, if_false]
  rw [← Array.forIn_toList]
  generalize fs.toList = l at hf
  induction l with
  | nil => rfl
  | cons f l ih =>
    obtain ⟨v, h1, h2⟩ := hf f (by simp)
    have ih := ih (fun g hg => hf g (by simp [hg]))
    simp only [List.forIn_cons, prun_bind, prun_ite]
    split
    · simp only [h1, h2, Option.bind_some, Bool.not_true, Bool.false_eq_true, if_false, prun_pure]
      exact ih
    · simp only [prun_pure, Option.bind_some]
      exact ih
theorem same_int {d : Nat} {x : Int} : prun Try.prog (Op.equalIn (d + 1) 3 (iv x) (iv x)) = some true := by
  have h : prun Try.prog (Op.equalIn (d + 1) 3 (iv x) (iv x)) = some (x == x) := by kernel_rfl
  rw [h]; simp
def fldsIn (P : Program) (t : TypeId) : Array Field :=
  match P.underlying t with
  | some (.struct fs) => fs
  | _ => #[]
theorem un24 : prun Try.prog (underlying 24) = some (.struct (fldsIn Try.prog 24)) := by kernel_rfl
theorem fs24 : (fldsIn Try.prog 24).toList.map (fun f => (f.type, f.offset)) = [(3, 0), (3, 1), (3, 2), (3, 3)] := by kernel_rfl
theorem st24 : Program.stoodInHeld Try.prog 24 = false := by kernel_rfl
theorem same24 {d : Nat} {x0 x1 x2 x3 : Int} : prun Try.prog (Op.equalIn (d + 2) 24 (.agg #[iv x0, iv x1, iv x2, iv x3]) (.agg #[iv x0, iv x1, iv x2, iv x3])) = some true := by
  refine same_struct (xs := #[iv x0, iv x1, iv x2, iv x3]) un24 st24 ?_
  intro f hf
  have h : (f.type, f.offset) ∈ [(3, 0), (3, 1), (3, 2), (3, 3)] := by rw [← fs24]; exact List.mem_map.mpr ⟨f, hf, rfl⟩
  simp only [List.mem_cons, List.not_mem_nil, or_false, Prod.mk.injEq] at h
  rcases h with ⟨h1, h2⟩ | ⟨h1, h2⟩ | ⟨h1, h2⟩ | ⟨h1, h2⟩ <;> rw [h1, h2]
  · exact ⟨iv x0, by kernel_rfl, same_int⟩
  · exact ⟨iv x1, by kernel_rfl, same_int⟩
  · exact ⟨iv x2, by kernel_rfl, same_int⟩
  · exact ⟨iv x3, by kernel_rfl, same_int⟩
theorem neq24 {n : Nat} {S : Rg} {d : Option Tmp} {x y : Operand} {p : String} {ty : TypeId} {x0 x1 x2 x3 : Int} (hx : evS S x = some (.agg #[iv x0, iv x1, iv x2, iv x3])) (hy : evS S y = some (.agg #[iv x0, iv x1, iv x2, iv x3])) : pureOp Try.prog (frS n S) ⟨d, .binOp .neq 24 x y 24, ty, p, #[], none⟩ = some (.bool false) := by
  have key : prun Try.prog (do eqGuard .neq 24 x y (.agg #[iv x0, iv x1, iv x2, iv x3]) (.agg #[iv x0, iv x1, iv x2, iv x3]); binOp .neq 24 (.agg #[iv x0, iv x1, iv x2, iv x3]) (.agg #[iv x0, iv x1, iv x2, iv x3])) = some (.bool false) := by
    rw [prun_bind, show prun Try.prog (eqGuard .neq 24 x y (.agg #[iv x0, iv x1, iv x2, iv x3]) (.agg #[iv x0, iv x1, iv x2, iv x3])) = some () from by kernel_rfl, Option.bind_some]
    show prun Try.prog (do pure (Value.bool (!(← Op.equalIn (9998 + 2) 24 (.agg #[iv x0, iv x1, iv x2, iv x3]) (.agg #[iv x0, iv x1, iv x2, iv x3]))))) = _
    rw [prun_bind, same24]; rfl
  unfold pureOp
  simp only [ev_frS, hx, hy]
  rw [show (flat (.agg #[iv x0, iv x1, iv x2, iv x3]) && flat (.agg #[iv x0, iv x1, iv x2, iv x3])) = true from rfl, cond_true, key]
  rfl
theorem un59 : prun Try.prog (underlying 59) = some (.struct (fldsIn Try.prog 59)) := by kernel_rfl
theorem fs59 : (fldsIn Try.prog 59).toList.map (fun f => (f.type, f.offset)) = [(3, 0), (3, 1), (3, 2), (3, 3), (3, 4)] := by kernel_rfl
theorem st59 : Program.stoodInHeld Try.prog 59 = false := by kernel_rfl
theorem same59 {d : Nat} {x0 x1 x2 x3 x4 : Int} : prun Try.prog (Op.equalIn (d + 2) 59 (.agg #[iv x0, iv x1, iv x2, iv x3, iv x4]) (.agg #[iv x0, iv x1, iv x2, iv x3, iv x4])) = some true := by
  refine same_struct (xs := #[iv x0, iv x1, iv x2, iv x3, iv x4]) un59 st59 ?_
  intro f hf
  have h : (f.type, f.offset) ∈ [(3, 0), (3, 1), (3, 2), (3, 3), (3, 4)] := by rw [← fs59]; exact List.mem_map.mpr ⟨f, hf, rfl⟩
  simp only [List.mem_cons, List.not_mem_nil, or_false, Prod.mk.injEq] at h
  rcases h with ⟨h1, h2⟩ | ⟨h1, h2⟩ | ⟨h1, h2⟩ | ⟨h1, h2⟩ | ⟨h1, h2⟩ <;> rw [h1, h2]
  · exact ⟨iv x0, by kernel_rfl, same_int⟩
  · exact ⟨iv x1, by kernel_rfl, same_int⟩
  · exact ⟨iv x2, by kernel_rfl, same_int⟩
  · exact ⟨iv x3, by kernel_rfl, same_int⟩
  · exact ⟨iv x4, by kernel_rfl, same_int⟩
theorem neq59 {n : Nat} {S : Rg} {d : Option Tmp} {x y : Operand} {p : String} {ty : TypeId} {x0 x1 x2 x3 x4 : Int} (hx : evS S x = some (.agg #[iv x0, iv x1, iv x2, iv x3, iv x4])) (hy : evS S y = some (.agg #[iv x0, iv x1, iv x2, iv x3, iv x4])) : pureOp Try.prog (frS n S) ⟨d, .binOp .neq 59 x y 59, ty, p, #[], none⟩ = some (.bool false) := by
  have key : prun Try.prog (do eqGuard .neq 59 x y (.agg #[iv x0, iv x1, iv x2, iv x3, iv x4]) (.agg #[iv x0, iv x1, iv x2, iv x3, iv x4]); binOp .neq 59 (.agg #[iv x0, iv x1, iv x2, iv x3, iv x4]) (.agg #[iv x0, iv x1, iv x2, iv x3, iv x4])) = some (.bool false) := by
    rw [prun_bind, show prun Try.prog (eqGuard .neq 59 x y (.agg #[iv x0, iv x1, iv x2, iv x3, iv x4]) (.agg #[iv x0, iv x1, iv x2, iv x3, iv x4])) = some () from by kernel_rfl, Option.bind_some]
    show prun Try.prog (do pure (Value.bool (!(← Op.equalIn (9998 + 2) 59 (.agg #[iv x0, iv x1, iv x2, iv x3, iv x4]) (.agg #[iv x0, iv x1, iv x2, iv x3, iv x4]))))) = _
    rw [prun_bind, same59]; rfl
  unfold pureOp
  simp only [ev_frS, hx, hy]
  rw [show (flat (.agg #[iv x0, iv x1, iv x2, iv x3, iv x4]) && flat (.agg #[iv x0, iv x1, iv x2, iv x3, iv x4])) = true from rfl, cond_true, key]
  rfl
theorem un73 : prun Try.prog (underlying 73) = some (.struct (fldsIn Try.prog 73)) := by kernel_rfl
theorem fs73 : (fldsIn Try.prog 73).toList.map (fun f => (f.type, f.offset)) = [(3, 0), (3, 1), (3, 2), (3, 3), (3, 4)] := by kernel_rfl
theorem st73 : Program.stoodInHeld Try.prog 73 = false := by kernel_rfl
theorem same73 {d : Nat} {x0 x1 x2 x3 x4 : Int} : prun Try.prog (Op.equalIn (d + 2) 73 (.agg #[iv x0, iv x1, iv x2, iv x3, iv x4]) (.agg #[iv x0, iv x1, iv x2, iv x3, iv x4])) = some true := by
  refine same_struct (xs := #[iv x0, iv x1, iv x2, iv x3, iv x4]) un73 st73 ?_
  intro f hf
  have h : (f.type, f.offset) ∈ [(3, 0), (3, 1), (3, 2), (3, 3), (3, 4)] := by rw [← fs73]; exact List.mem_map.mpr ⟨f, hf, rfl⟩
  simp only [List.mem_cons, List.not_mem_nil, or_false, Prod.mk.injEq] at h
  rcases h with ⟨h1, h2⟩ | ⟨h1, h2⟩ | ⟨h1, h2⟩ | ⟨h1, h2⟩ | ⟨h1, h2⟩ <;> rw [h1, h2]
  · exact ⟨iv x0, by kernel_rfl, same_int⟩
  · exact ⟨iv x1, by kernel_rfl, same_int⟩
  · exact ⟨iv x2, by kernel_rfl, same_int⟩
  · exact ⟨iv x3, by kernel_rfl, same_int⟩
  · exact ⟨iv x4, by kernel_rfl, same_int⟩
theorem neq73 {n : Nat} {S : Rg} {d : Option Tmp} {x y : Operand} {p : String} {ty : TypeId} {x0 x1 x2 x3 x4 : Int} (hx : evS S x = some (.agg #[iv x0, iv x1, iv x2, iv x3, iv x4])) (hy : evS S y = some (.agg #[iv x0, iv x1, iv x2, iv x3, iv x4])) : pureOp Try.prog (frS n S) ⟨d, .binOp .neq 73 x y 73, ty, p, #[], none⟩ = some (.bool false) := by
  have key : prun Try.prog (do eqGuard .neq 73 x y (.agg #[iv x0, iv x1, iv x2, iv x3, iv x4]) (.agg #[iv x0, iv x1, iv x2, iv x3, iv x4]); binOp .neq 73 (.agg #[iv x0, iv x1, iv x2, iv x3, iv x4]) (.agg #[iv x0, iv x1, iv x2, iv x3, iv x4])) = some (.bool false) := by
    rw [prun_bind, show prun Try.prog (eqGuard .neq 73 x y (.agg #[iv x0, iv x1, iv x2, iv x3, iv x4]) (.agg #[iv x0, iv x1, iv x2, iv x3, iv x4])) = some () from by kernel_rfl, Option.bind_some]
    show prun Try.prog (do pure (Value.bool (!(← Op.equalIn (9998 + 2) 73 (.agg #[iv x0, iv x1, iv x2, iv x3, iv x4]) (.agg #[iv x0, iv x1, iv x2, iv x3, iv x4]))))) = _
    rw [prun_bind, same73]; rfl
  unfold pureOp
  simp only [ev_frS, hx, hy]
  rw [show (flat (.agg #[iv x0, iv x1, iv x2, iv x3, iv x4]) && flat (.agg #[iv x0, iv x1, iv x2, iv x3, iv x4])) = true from rfl, cond_true, key]
  rfl
theorem un76 : prun Try.prog (underlying 76) = some (.struct (fldsIn Try.prog 76)) := by kernel_rfl
theorem fs76 : (fldsIn Try.prog 76).toList.map (fun f => (f.type, f.offset)) = [(3, 0), (3, 1), (3, 2)] := by kernel_rfl
theorem st76 : Program.stoodInHeld Try.prog 76 = false := by kernel_rfl
theorem same76 {d : Nat} {x0 x1 x2 : Int} : prun Try.prog (Op.equalIn (d + 2) 76 (.agg #[iv x0, iv x1, iv x2]) (.agg #[iv x0, iv x1, iv x2])) = some true := by
  refine same_struct (xs := #[iv x0, iv x1, iv x2]) un76 st76 ?_
  intro f hf
  have h : (f.type, f.offset) ∈ [(3, 0), (3, 1), (3, 2)] := by rw [← fs76]; exact List.mem_map.mpr ⟨f, hf, rfl⟩
  simp only [List.mem_cons, List.not_mem_nil, or_false, Prod.mk.injEq] at h
  rcases h with ⟨h1, h2⟩ | ⟨h1, h2⟩ | ⟨h1, h2⟩ <;> rw [h1, h2]
  · exact ⟨iv x0, by kernel_rfl, same_int⟩
  · exact ⟨iv x1, by kernel_rfl, same_int⟩
  · exact ⟨iv x2, by kernel_rfl, same_int⟩
theorem neq76 {n : Nat} {S : Rg} {d : Option Tmp} {x y : Operand} {p : String} {ty : TypeId} {x0 x1 x2 : Int} (hx : evS S x = some (.agg #[iv x0, iv x1, iv x2])) (hy : evS S y = some (.agg #[iv x0, iv x1, iv x2])) : pureOp Try.prog (frS n S) ⟨d, .binOp .neq 76 x y 76, ty, p, #[], none⟩ = some (.bool false) := by
  have key : prun Try.prog (do eqGuard .neq 76 x y (.agg #[iv x0, iv x1, iv x2]) (.agg #[iv x0, iv x1, iv x2]); binOp .neq 76 (.agg #[iv x0, iv x1, iv x2]) (.agg #[iv x0, iv x1, iv x2])) = some (.bool false) := by
    rw [prun_bind, show prun Try.prog (eqGuard .neq 76 x y (.agg #[iv x0, iv x1, iv x2]) (.agg #[iv x0, iv x1, iv x2])) = some () from by kernel_rfl, Option.bind_some]
    show prun Try.prog (do pure (Value.bool (!(← Op.equalIn (9998 + 2) 76 (.agg #[iv x0, iv x1, iv x2]) (.agg #[iv x0, iv x1, iv x2]))))) = _
    rw [prun_bind, same76]; rfl
  unfold pureOp
  simp only [ev_frS, hx, hy]
  rw [show (flat (.agg #[iv x0, iv x1, iv x2]) && flat (.agg #[iv x0, iv x1, iv x2])) = true from rfl, cond_true, key]
  rfl
/-- is it more than a statement looks at? -/
def grtB (rs : List Mc) : Bool := decide (rs.length > 16) || rs.any fun r => decide (r.n > 8)
theorem grtB_f {rs : List Mc} {n : Nat} (hl : rs.length = n) (h : grtB rs = false) : (∀ r ∈ rs, r.n ≤ 1000000) ∧ n ≤ 16 ∧ ∀ r ∈ rs, r.n ≤ 8 := by
  unfold grtB at h
  rw [Bool.or_eq_false_iff, decide_eq_false_iff_not, List.any_eq_false] at h
  have q : ∀ r ∈ rs, r.n ≤ 8 := fun r hr => by have := h.2 r hr; simp at this; omega
  exact ⟨fun r hr => by have := q r hr; omega, by omega, q⟩
theorem any_step {α : Type} {f : α → Bool} {l : List α} {i : Nat} {x : α} (h : l[i]? = some x) : (l.take (i + 1)).any f = ((l.take i).any f || f x) := by
  rw [List.take_add_one, h]; simp
theorem any_hit2 {α : Type} {f : α → Bool} {l : List α} {i : Nat} {x : α} (h : l[i]? = some x) (hx : f x = true) : l.any f = true := List.any_eq_true.2 ⟨x, List.mem_of_getElem? h, hx⟩
/-- does Run answer? -/
def rok (rs : List Mc) (s : Nat → Int) : Bool := pok (mss rs) && wiQ s 1099511627776
theorem rok_t {rs : List Mc} {s : Nat → Int} (h : rok rs s = true) : pok (mss rs) = true ∧ ∀ j, j < 4 → 0 ≤ s j ∧ s j ≤ 1099511627776 := by
  unfold rok at h; rw [Bool.and_eq_true] at h; exact ⟨h.1, wiQ_t h.2⟩
section
variable {kn : FuncId → Option Bool} {lo : Nat} {H : Hp}
/-- great -/
theorem great_ok {sa : Option Addr} {n cap f : Nat} {rs : List Mc} (hr : Mcs H f sa n cap rs) : ∃ H', FnX Try.prog kn lo 15 [.slice sa n cap] H (.bool (grtB rs)) H' ∧ Keep H H' [] := by
  have key := fnX_low (kn := kn) (lo := lo) (H := H) (args := [.slice sa n cap]) (Q := fun w H' => w = .bool (grtB rs) ∧ Keep H H' []) Try.func15 B15 N15 Z15 L15 (by simp) ?_
  · obtain ⟨w, H', h, rfl, q⟩ := key; exact ⟨H', h, q⟩
  have hk := Keep.refl H []
  refine wN_seq ?_
  refine wN_mov (v := .bool false) rfl ?_
  refine wN_end ?_
  refine wN_seq ?_
  refine wN_mov (v := iv 0) rfl ?_
  refine wN_end ?_
  refine loop_low (fn := Try.f15) E15_1 N15 L15x1 (fun i : Nat => [(0, .slice sa n cap), (3, iv (i : Int))])
    (fun k i H' => i + k = n ∧ Keep H H' [] ∧ Mcs H' f sa n cap rs ∧ (i ≤ 17) ∧ (rs.take i).any (fun r => decide (r.n > 8)) = false) n 0 ⟨by omega, hk, hr, by omega, rfl⟩ ⟨rfl, rfl, trivial⟩ ?_
  rintro k i L1 ⟨hik, hk, hr, h17, hall⟩
  refine wN_seq ?_
  refine wN_mov (v := iv (i : Int)) rfl ?_
  refine wN_mov (v := .slice sa n cap) rfl ?_
  refine wN_len (m := n) rfl ?_
  refine wN_b_lss (a := (i : Int)) (b := (n : Int)) rfl rfl ?_
  intro t1 g1; cases t1
  · have g1 : ¬ ((i : Int) < (n : Int)) := of_decide_eq_false g1
    refine wN_mov (v := .bool false) rfl ?_
    refine wN_gs rfl ?_
    refine wN_gs rfl ?_
    refine wN_pur (v := .bool false) rfl rfl ?_
    refine wN_end ?_
    refine condF ?_
    refine wN_seq ?_
    refine wN_mov (v := .slice sa n cap) rfl ?_
    refine wN_len (m := n) rfl ?_
    refine wN_c_gtr (a := (n : Int)) (b := 16) rfl rfl ?_
    refine wN_mov (v := .bool (decide ((n : Int) > 16))) rfl ?_
    refine wN_end ?_
    exact And.intro trivial (Exists.intro _ (And.intro rfl ⟨congrArg Value.bool (show decide ((n : Int) > 16) = grtB rs from (by
      symm; have hrl := hr.rl; unfold grtB; rw [hrl]
      by_cases q : n > 16
      · rw [decide_eq_true q]; exact (decide_eq_true (by omega)).symm
      · rw [List.take_of_length_le (by omega)] at hall; rw [hall, Bool.or_false]; exact decide_eq_decide.2 (by omega))), hk⟩))
  · have g1 : (i : Int) < (n : Int) := of_decide_eq_true g1
    refine wN_mov (v := .bool true) rfl ?_
    refine wN_g rfl (wN_mov (v := iv (i : Int)) rfl ?_)
    refine wN_g rfl (wN_b_lss (a := (i : Int)) (b := 17) rfl rfl ?_)
    intro t2 g2; cases t2
    · have g2 : ¬ ((i : Int) < 17) := of_decide_eq_false g2
      refine wN_pur (v := .bool false) rfl rfl ?_
      refine wN_end ?_
      refine condF ?_
      refine wN_seq ?_
      refine wN_mov (v := .slice sa n cap) rfl ?_
      refine wN_len (m := n) rfl ?_
      refine wN_c_gtr (a := (n : Int)) (b := 16) rfl rfl ?_
      refine wN_mov (v := .bool (decide ((n : Int) > 16))) rfl ?_
      refine wN_end ?_
      exact And.intro trivial (Exists.intro _ (And.intro rfl ⟨congrArg Value.bool (show decide ((n : Int) > 16) = grtB rs from (by
        symm; have hrl := hr.rl; unfold grtB; rw [hrl]
        by_cases q : n > 16
        · rw [decide_eq_true q]; exact (decide_eq_true (by omega)).symm
        · rw [List.take_of_length_le (by omega)] at hall; rw [hall, Bool.or_false]; exact decide_eq_decide.2 (by omega))), hk⟩))
    · have g2 : (i : Int) < 17 := of_decide_eq_true g2
      refine wN_pur (v := .bool true) rfl rfl ?_
      refine wN_end ?_
      refine condT ?_
      have hi : i < n := by omega
      obtain ⟨sb, so, cs, x, hx, esb, rsb, lsf, lcap, hat, hmem⟩ := hr.opn hi
      first | refine wN_skip ?_ | skip
      refine wN_seq ?_
      refine wN_mov (v := .slice sa n cap) rfl ?_
      refine wN_mov (v := iv (i : Int)) rfl ?_
      refine wN_idx (b := sb) (o := so) (k := i) (j := (i : Int)) (by rw [← esb]; rfl) rfl rfl hi ?_
      refine wN_addo (b := sb) (o := so + i * 1) rfl ?_
      refine wN_ld (b := sb) (o := so + i * 1) (v := .slice x.ra x.n x.cap) rfl rsb hat ?_
      refine wN_len (m := x.n) rfl ?_
      refine wN_c_gtr (a := (x.n : Int)) (b := 8) rfl rfl ?_
      refine wN_end ?_
      refine And.intro (fun q3 => ?_) (fun q3 => ?_)
      · have q3 : (x.n : Int) > 8 := of_decide_eq_true q3
        have hok : (fun r : Mc => decide (r.n > 8)) x = true := decide_eq_true (by omega)
        refine wN_seq ?_
        refine wN_mov (v := .bool true) rfl ?_
        refine wN_end ?_
        exact And.intro trivial (Exists.intro _ (And.intro rfl ⟨congrArg Value.bool (show true = grtB rs from (by symm; unfold grtB; rw [Bool.or_eq_true]; right; exact any_hit2 hx hok)), hk⟩))
      · have q3 : ¬ ((x.n : Int) > 8) := of_decide_eq_false q3
        have hok : (fun r : Mc => decide (r.n > 8)) x = false := decide_eq_false (by omega)
        first | refine wN_skip ?_ | skip
        first | refine wN_reg ?_ | refine wN_blk ?_ | refine wN_bseq ?_ | (refine wOps_nil ?_; refine wN_reg ?_)
        refine wN_mov (v := iv (i : Int)) rfl ?_
        refine wN_add (a := (i : Int)) (b := 1) rfl rfl ⟨by omega, by omega⟩ ?_
        refine wN_mov (v := iv ((i : Int) + 1)) rfl ?_
        refine wN_end ?_
        exact ⟨k - 1, i + 1, by omega, ⟨by omega, hk, hr, by omega, by rw [any_step hx, hall]; exact hok⟩, rfl, rfl, trivial⟩
set_option maxRecDepth 100000 in
set_option maxHeartbeats 1000000 in
/-- Run, where it answers -/
theorem run17_ok {s : Nat → Int} {sa : Option Addr} {n cap f : Nat} {rs : List Mc} (hr : Mcs H f sa n cap rs) (hm : ∀ r ∈ rs, r.n ≤ 1000000) (hn2 : n ≤ 1000000) (hf : f ≤ H.next) (hlo : lo ≤ H.next) (hok : rok rs s = true) : ∃ a H', FnX Try.prog kn lo 17 [.slice sa n cap, .agg (qc s).toArray] H (.tuple #[slv a 16 16, iv 0]) H' ∧ Keep H H' [] ∧ H.next ≤ a ∧ Sc H' a (cc (rnA (mss rs) s) 16) := by
  have key := fnX_low (kn := kn) (lo := lo) (H := H) (args := [.slice sa n cap, .agg (qc s).toArray]) (Q := fun w H' => ∃ a, w = .tuple #[slv a 16 16, iv 0] ∧ Keep H H' [] ∧ H.next ≤ a ∧ Sc H' a (cc (rnA (mss rs) s) 16)) Try.func17 B17 N17 Z17 L17 (by simp) ?_
  · obtain ⟨w, H', h, a, rfl, q⟩ := key; exact ⟨a, H', h, q⟩
  have hk := Keep.refl H []
  obtain ⟨hp, hS⟩ := rok_t hok
  have hw : wiQ s 1099511627776 = true := wiQ_i hS
  refine wN_seq ?_
  refine wN_box (v := .agg (qc s).toArray) rfl ?_
  intro H1 kH1 nH1 c1
  have c1 : Cl H1 H.next [iv (s 0), iv (s 1), iv (s 2), iv (s 3)] := c1
  have mH1 := kH1.1
  have hk := hk.trans kH1
  have hr := hr.keep kH1 (by simp)
  refine wN_mov (v := .slice none 0 0) rfl ?_
  refine wN_mov (v := iv 0) rfl ?_
  refine wN_end ?_
  refine wN_seq ?_
  refine wN_mov (v := .slice sa n cap) rfl ?_
  obtain ⟨H2, fH2, kH2⟩ := vplant_ok (kn := kn) (lo := lo) (H := H1) hr hm hn2 (by omega) (by omega)
  have mH2 := kH2.1
  have hk := hk.trans kH2
  have hr := hr.keep kH2 (by simp)
  have c1 := kH2.cl c1 (by simp)
  rw [hp] at fH2
  refine wN_callf (vs := [.slice sa n cap]) rfl (callX_args fH2) ?_
  refine wN_pur (v := .bool false) rfl rfl ?_
  refine wN_mov (v := .bool false) rfl ?_
  refine wN_g rfl (wN_lda (b := H.next) (o := 0) rfl c1.rd (show row 4 _ _ = some [iv (s 0), iv (s 1), iv (s 2), iv (s 3)] from rfl) ?_)
  obtain ⟨H3, fH3, kH3⟩ := vstream_ok (kn := kn) (lo := lo) (H := H2) (s := s) (by omega)
  have mH3 := kH3.1
  have hk := hk.trans kH3
  have hr := hr.keep kH3 (by simp)
  have c1 := kH3.cl c1 (by simp)
  rw [show wiQ s 1099511627776 = true from hw] at fH3
  refine wN_g rfl (wN_callf (vs := [.agg (qc s).toArray]) rfl (callX_args fH3) ?_)
  refine wN_g rfl (wN_pur (v := .bool false) rfl rfl ?_)
  refine wN_pur (v := .bool false) rfl rfl ?_
  refine wN_end ?_
  refine condF ?_
  first | refine wN_skip ?_ | skip
  refine wN_seq ?_
  refine wN_mov (v := .slice sa n cap) rfl ?_
  refine wN_lda (b := H.next) (o := 0) rfl c1.rd (show row 4 _ _ = some [iv (s 0), iv (s 1), iv (s 2), iv (s 3)] from rfl) ?_
  obtain ⟨a, H4, fH4, kH4, ha, hal⟩ := run44_ok (kn := kn) (lo := lo) (H := H3) (s := s) hr (by omega) (by omega) hp hS
  refine wN_callf (vs := [.slice sa n cap, .agg (qc s).toArray]) rfl (callX_args fH4) ?_
  have mH4 := kH4.1
  have hk := hk.trans kH4
  have hr := hr.keep kH4 (by simp)
  have c1 := kH4.cl c1 (by simp)
  refine wN_mov (v := .slice (some ⟨a, 0, none⟩) 16 16) rfl ?_
  refine wN_mov (v := iv 0) rfl ?_
  refine wN_end ?_
  exact And.intro trivial (Exists.intro _ (And.intro rfl ⟨_, rfl, hk, by omega, hal⟩))
/-- Run, where it does not -/
theorem run17_no {s : Nat → Int} {sa : Option Addr} {n cap f : Nat} {rs : List Mc} (hr : Mcs H f sa n cap rs) (hm : ∀ r ∈ rs, r.n ≤ 1000000) (hn2 : n ≤ 1000000) (hf : f ≤ H.next) (hlo : lo ≤ H.next) (hno : rok rs s = false) : ∃ H', FnX Try.prog kn lo 17 [.slice sa n cap, .agg (qc s).toArray] H (.tuple #[.slice none 0 0, iv 1]) H' ∧ Keep H H' [] := by
  have key := fnX_low (kn := kn) (lo := lo) (H := H) (args := [.slice sa n cap, .agg (qc s).toArray]) (Q := fun w H' => w = .tuple #[.slice none 0 0, iv 1] ∧ Keep H H' []) Try.func17 B17 N17 Z17 L17 (by simp) ?_
  · obtain ⟨w, H', h, rfl, q⟩ := key; exact ⟨H', h, q⟩
  have hk := Keep.refl H []
  refine wN_seq ?_
  refine wN_box (v := .agg (qc s).toArray) rfl ?_
  intro H1 kH1 nH1 c1
  have c1 : Cl H1 H.next [iv (s 0), iv (s 1), iv (s 2), iv (s 3)] := c1
  have mH1 := kH1.1
  have hk := hk.trans kH1
  have hr := hr.keep kH1 (by simp)
  refine wN_mov (v := .slice none 0 0) rfl ?_
  refine wN_mov (v := iv 0) rfl ?_
  refine wN_end ?_
  refine wN_seq ?_
  refine wN_mov (v := .slice sa n cap) rfl ?_
  obtain ⟨H2, fH2, kH2⟩ := vplant_ok (kn := kn) (lo := lo) (H := H1) hr hm hn2 (by omega) (by omega)
  have mH2 := kH2.1
  have hk := hk.trans kH2
  have hr := hr.keep kH2 (by simp)
  have c1 := kH2.cl c1 (by simp)
  cases hp : pok (mss rs)
  · rw [hp] at fH2
    refine wN_callf (vs := [.slice sa n cap]) rfl (callX_args fH2) ?_
    refine wN_pur (v := .bool true) rfl rfl ?_
    refine wN_mov (v := .bool true) rfl ?_
    refine wN_gs rfl ?_
    refine wN_gs rfl ?_
    refine wN_gs rfl ?_
    refine wN_pur (v := .bool true) rfl rfl ?_
    refine wN_end ?_
    refine condT ?_
    refine wN_seq ?_
    refine wN_mov (v := .slice none 0 0) rfl ?_
    refine wN_mov (v := iv 1) rfl ?_
    refine wN_end ?_
    exact And.intro trivial (Exists.intro _ (And.intro rfl ⟨rfl, hk⟩))
  · rw [hp] at fH2
    refine wN_callf (vs := [.slice sa n cap]) rfl (callX_args fH2) ?_
    refine wN_pur (v := .bool false) rfl rfl ?_
    refine wN_mov (v := .bool false) rfl ?_
    refine wN_g rfl (wN_lda (b := H.next) (o := 0) rfl c1.rd (show row 4 _ _ = some [iv (s 0), iv (s 1), iv (s 2), iv (s 3)] from rfl) ?_)
    obtain ⟨H3, fH3, kH3⟩ := vstream_ok (kn := kn) (lo := lo) (H := H2) (s := s) (by omega)
    have mH3 := kH3.1
    have hk := hk.trans kH3
    have hr := hr.keep kH3 (by simp)
    have c1 := kH3.cl c1 (by simp)
    rw [show wiQ s 1099511627776 = false from (by unfold rok at hno; rw [hp, Bool.true_and] at hno; exact hno)] at fH3
    refine wN_g rfl (wN_callf (vs := [.agg (qc s).toArray]) rfl (callX_args fH3) ?_)
    refine wN_g rfl (wN_pur (v := .bool true) rfl rfl ?_)
    refine wN_pur (v := .bool true) rfl rfl ?_
    refine wN_end ?_
    refine condT ?_
    refine wN_seq ?_
    refine wN_mov (v := .slice none 0 0) rfl ?_
    refine wN_mov (v := iv 1) rfl ?_
    refine wN_end ?_
    exact And.intro trivial (Exists.intro _ (And.intro rfl ⟨rfl, hk⟩))
/-- the document's Same, of the same -/
theorem same23_ok {C : Cs} {a1 a2 : Option Addr} {n c1 c2 m : Nat} (h1 : Sl H a1 n c1 (cc C m)) (h2 : Sl H a2 n c2 (cc C m)) (hnm : n ≤ m) (hn2 : n ≤ 1000000) : ∃ H', FnX Try.prog kn lo 23 [.slice a1 n c1, .slice a2 n c2] H (.bool true) H' ∧ Keep H H' [] := by
  have key := fnX_low (kn := kn) (lo := lo) (H := H) (args := [.slice a1 n c1, .slice a2 n c2]) (Q := fun w H' => w = .bool true ∧ Keep H H' []) Try.func23 B23 N23 Z23 L23 (by simp) ?_
  · obtain ⟨w, H', h, rfl, q⟩ := key; exact ⟨H', h, q⟩
  have hk := Keep.refl H []
  refine wN_seq ?_
  refine wN_mov (v := .bool false) rfl ?_
  refine wN_end ?_
  refine wN_seq ?_
  refine wN_mov (v := .slice a1 n c1) rfl ?_
  refine wN_len (m := n) rfl ?_
  refine wN_mov (v := .slice a2 n c2) rfl ?_
  refine wN_len (m := n) rfl ?_
  refine wN_c_neq (a := (n : Int)) (b := (n : Int)) rfl rfl ?_
  refine wN_end ?_
  refine And.intro (fun q1 => ?_) (fun q1 => ?_)
  · have q1 : (n : Int) ≠ (n : Int) := by simpa using q1
    exfalso; omega
  · have q1 : ¬ ((n : Int) ≠ (n : Int)) := by simpa using q1
    first | refine wN_skip ?_ | skip
    refine wN_seq ?_
    refine wN_mov (v := iv 0) rfl ?_
    refine wN_end ?_
    refine loop_low (fn := Try.f23) E23_1 N23 L23x1 (fun i : Nat => [(0, .slice a1 n c1), (1, .slice a2 n c2), (5, iv (i : Int))])
      (fun k i H' => i + k = n ∧ Keep H H' [] ∧ Sl H' a1 n c1 (cc C m) ∧ Sl H' a2 n c2 (cc C m)) n 0 ⟨by omega, hk, h1, h2⟩ ⟨rfl, rfl, rfl, trivial⟩ ?_
    rintro k i L1 ⟨hik, hk, h1, h2⟩
    refine wN_seq ?_
    refine wN_mov (v := iv (i : Int)) rfl ?_
    refine wN_mov (v := .slice a1 n c1) rfl ?_
    refine wN_len (m := n) rfl ?_
    refine wN_c_lss (a := (i : Int)) (b := (n : Int)) rfl rfl ?_
    refine wN_end ?_
    refine And.intro (fun q2 => ?_) (fun q2 => ?_)
    · have q2 : (i : Int) < (n : Int) := of_decide_eq_true q2
      have hi : i < n := by omega
      rcases id h1 with ⟨_, h0, _⟩ | ⟨b1, e1, r1, _⟩
      · omega
      rcases id h2 with ⟨_, h0, _⟩ | ⟨b2, e2, r2, _⟩
      · omega
      first | refine wN_skip ?_ | skip
      refine wD_seq ?_
      refine wD_mov (v := .slice a1 n c1) rfl ?_
      refine wD_mov (v := iv (i : Int)) rfl ?_
      refine wD_idx (b := b1) (o := 0) (k := i) (j := (i : Int)) (by rw [← e1]; rfl) rfl rfl hi ?_
      refine wD_lda (b := b1) (o := 0 + i * 4) rfl r1 (cc_row (by omega)) ?_
      refine wD_mov (v := .slice a2 n c2) rfl ?_
      refine wD_mov (v := iv (i : Int)) rfl ?_
      refine wD_idx (b := b2) (o := 0) (k := i) (j := (i : Int)) (by rw [← e2]; rfl) rfl rfl hi ?_
      refine wD_lda (b := b2) (o := 0 + i * 4) rfl r2 (cc_row (by omega)) ?_
      refine wD_pur (v := .bool false) rfl (neq24 rfl rfl) ?_
      refine wD_end (by repeat' first | exact True.intro | exact (fun h => h) | refine And.intro ?_ ?_ | (intro h; have h : (_ : Nat) = _ := h; omega)) ?_
      refine condF ?_
      first | refine wN_skip ?_ | skip
      first | refine wN_reg ?_ | refine wN_blk ?_ | refine wN_bseq ?_ | (refine wOps_nil ?_; refine wN_reg ?_)
      refine wN_mov (v := iv (i : Int)) rfl ?_
      refine wN_add (a := (i : Int)) (b := 1) rfl rfl ⟨by omega, by omega⟩ ?_
      refine wN_mov (v := iv ((i : Int) + 1)) rfl ?_
      refine wN_end ?_
      exact ⟨k - 1, i + 1, by omega, ⟨by omega, hk, h1, h2⟩, rfl, rfl, rfl, trivial⟩
    · have q2 : ¬ ((i : Int) < (n : Int)) := of_decide_eq_false q2
      refine wN_seq ?_
      refine wN_mov (v := .bool true) rfl ?_
      refine wN_end ?_
      exact And.intro trivial (Exists.intro _ (And.intro rfl ⟨rfl, hk⟩))
end
end Go.Ax

/-
  Plant: what is in all bins together is what came in; each number goes its way alone (written by program).
-/
namespace Go.Ax
open Go Go.RowKit

end Go.Ax

/-
  Plant: the law PlantKeeps (written by program).
-/
namespace Go.Ax
open Go Go.RowKit Go.Proofs

section
variable {kn : FuncId → Option Bool} {lo : Nat} {H : Hp}
end
end Go.Ax

/-! What 'low' makes of functions of plant (written by program). -/
namespace Go.Ax
open Go Go.RowKit Go.Proofs
theorem N41 : Try.f41.ntmps = 17 := by kernel_rfl
theorem Z41 : Try.f41.results.toList = ((List.toArray [(.tmp 1)]) : Array ResultVar).toList := by kernel_rfl
theorem B41 : Try.f41.body = some (at_ Try.f41 []) := by kernel_rfl
noncomputable def R41 : RC := (.seq (.reg [⟨(some 1), none, (.mov (.const (.slice none 0 0)))⟩])
  (.seq (.reg [⟨(some 2), none, (.mov (.const (.slice none 0 0)))⟩])
  (.seq (.seq (.reg [⟨(some 5), none, (.ld (.tmp 0) 1)⟩, ⟨(some 6), none, (.len (.tmp 5))⟩, ⟨(some 7), none, (.mov (.const (.int .i64 0)))⟩])
  (.block 0 (.other (at_ Try.f41 [1, 1, 0, 1, 0]))))
  (.seq (.reg [⟨(some 16), none, (.mov (.tmp 2))⟩, ⟨(some 1), none, (.mov (.tmp 16))⟩])
  .ret))))
theorem L41 : low Try.prog Try.f41.ntmps (at_ Try.f41 []) = some R41 := by kernel_rfl
theorem E41_1 : at_ Try.f41 [1, 1, 0, 1, 0] = .loop (at_ Try.f41 [1, 1, 0, 1, 0, 0]) := by kernel_rfl
noncomputable def R41x1 : RC := (.seq (.reg [⟨(some 8), none, (.cmp .lss (.tmp 7) (.tmp 6))⟩])
  (.seq (.cond (.tmp 8) .skip
  (.exit 0))
  (.seq (.block 1 (.seq (.reg [⟨(some 9), none, (.idx (.tmp 5) (.tmp 7) 1)⟩, ⟨(some 10), none, (.lda (.tmp 9) 1)⟩, ⟨(some 4), none, (.alc 62 [(.slice none 0 0)])⟩, ⟨none, none, (.sta (.tmp 4) (.tmp 10) 1)⟩])
  (.reg [⟨(some 11), none, (.mov (.tmp 2))⟩, ⟨(some 12), none, (.addo (.tmp 4) 0)⟩, ⟨(some 13), none, (.ld (.tmp 12) 1)⟩, ⟨(some 14), none, (.mem ⟨(some 14), (.call ⟨(.builtin .append), (List.toArray [(.tmp 11), (.tmp 13)]), (List.toArray [60, 60])⟩), 60, "", (List.toArray []), none⟩)⟩, ⟨(some 2), none, (.mov (.tmp 14))⟩])))
  (.reg [⟨(some 15), none, (.ari .add (.tmp 7) (.const (.int .i64 1)))⟩, ⟨(some 7), none, (.mov (.tmp 15))⟩]))))
theorem L41x1 : low Try.prog Try.f41.ntmps (at_ Try.f41 [1, 1, 0, 1, 0, 0]) = some R41x1 := by kernel_rfl
end Go.Ax

/-
 Plant: what PlantOwns wants: all outlets (41), Blend's own block (written by program).
-/
namespace Go.Ax
open Go Go.RowKit Go.Proofs

def flt (rs : List Mc) (i : Nat) : List Ou := (rs.take i).flatMap Mc.l
theorem flt_step {rs : List Mc} {i : Nat} {x : Mc} (h : rs[i]? = some x) : flt rs (i + 1) = flt rs i ++ x.l := by
 unfold flt; rw [List.take_add_one, h]; simp
theorem flt_len {rs : List Mc} (h : ∀ r ∈ rs, r.l.length ≤ 8) : ∀ i, (flt rs i).length ≤ i * 8
 | 0 => by unfold flt; simp
 | i + 1 => by
  have ih := flt_len h i
  cases e : rs[i]? with
  | none =>
   have hl : rs.length ≤ i := by simpa using e
   have : flt rs (i + 1) = flt rs i := by unfold flt; rw [List.take_of_length_le (by omega), List.take_of_length_le hl]
   rw [this]; omega
  | some x =>
   rw [flt_step e, List.length_append]
   have := h x (List.mem_of_getElem? e)
   omega
theorem ouc_app (a b : List Ou) : ouc (a ++ b) = ouc a ++ ouc b := by unfold ouc; exact List.flatMap_append
theorem ouc_len (l : List Ou) : (ouc l).length = l.length * 5 := by
 induction l with
 | nil => rfl
 | cons a l ih =>
  have e : (ouc (a :: l)).length = a.f.length + (ouc l).length := List.length_append ..
  rw [e, ih]; show 5 + l.length * 5 = (l.length + 1) * 5; omega
theorem ouc_one (l : List Ou) : (ouc l).all one = true := by
 rw [List.all_eq_true]
 intro v hv
 obtain ⟨t, _, ht⟩ := List.mem_flatMap.1 hv
 simp only [Ou.f, List.mem_cons, List.not_mem_nil, or_false] at ht
 rcases ht with rfl | rfl | rfl | rfl | rfl <;> rfl
theorem fzc_len (l : List Fz) : (fzc l).length = l.length * 3 := by
 induction l with
 | nil => rfl
 | cons a l ih =>
  have e : (fzc (a :: l)).length = a.f.length + (fzc l).length := List.length_append ..
  rw [e, ih]; show 3 + l.length * 3 = (l.length + 1) * 3; omega
theorem se60 : sliceElem Try.prog 60 = some (59, 5) := by kernel_rfl
theorem u60 : Try.prog.underlying 60 = some (.slice 59) := by kernel_rfl
theorem se47 : sliceElem Try.prog 47 = some (76, 3) := by kernel_rfl
theorem u47 : Try.prog.underlying 47 = some (.slice 76) := by kernel_rfl
theorem z76 : zeroOf Try.prog 76 = some (.agg #[iv 0, iv 0, iv 0]) := by kernel_rfl
theorem heap_append_manyA {P : Program} {lo : Nat} {H : Hp} {t0 t1 e ep : TypeId} {size k m cap2 f : Nat} {a : Option Addr} {v : Value} {cs news : List Value} (he : sliceElem P t0 = some (e, size)) (ht : P.underlying t1 = some (.slice ep))
  (hs : Sl H a m cap2 news) (hl : news.length = m * size) (hz : 0 < size) (hone : news.all one = true) (hcl : cs.length = k * size) (hk : k + m ≤ 2000) (ha : Acc lo f e H v k cs) (hlo : lo ≤ H.next) (hf : f ≤ H.next) :
  ∃ v1 H1 kd, (∀ (n : Nat) (S : Rg) (d : Option Tmp) (x y : Operand) (ty : TypeId) (p : String), evS S x = some v → evS S y = some (.slice a m cap2) → heapOp P lo (frS n S) H ⟨d, .call ⟨.builtin .append, #[x, y], #[t0, t1]⟩, ty, p, #[], none⟩ = some (.val v1 H1, kd)) ∧ (∀ b, kd ≠ .read b) ∧
   Acc lo f e H1 v1 (k + m) (cs ++ news) ∧ KeepB f H H1 := by
 rcases Nat.eq_zero_or_pos m with rfl | hp
 ·have hn : news = [] := by cases news with | nil => rfl | cons _ _ => simp at hl
  subst hn
  refine ⟨v, H, .pure, ?_, fun b e => (by cases e), by simpa using ha, ⟨Nat.le_refl _, fun _ _ => rfl, fun _ _ h k => ⟨h, k⟩⟩⟩
  intro n S d x y ty p hx hy
  have h3 : Nat.ble (k + 0) 1048576 = true := Nat.ble_eq_true_of_le (by omega)
  rcases ha with ⟨rfl, _, rfl⟩ | ⟨b, rfl, _⟩
  ·unfold heapOp
   simp only [evs, ev_frS, hx, hy, builtinV, List.getElem?_toArray, List.getElem?_cons_zero, List.getElem?_cons_succ, he, ht, src_of hs hl, appendV]
   rfl
  ·unfold heapOp
   simp only [evs, ev_frS, hx, hy, builtinV, List.getElem?_toArray, List.getElem?_cons_zero, List.getElem?_cons_succ, he, ht, src_of hs hl, appendV, h3, Nat.beq_refl, cond_true]
 ·have h5 : Nat.beq m 0 = false := by rw [beq_eq]; simp; omega
  rcases ha with ⟨rfl, rfl, rfl⟩ | ⟨b, rfl, h0, hb, hlb, hn, hg⟩
  ·refine ⟨.slice (some ⟨H.next, 0, none⟩) m m, H.new (.cells news e true), .heavy, ?_, fun b e => (by cases e), .inr ⟨H.next, by rw [Nat.zero_add], by omega, hf, hlo, (new_facts rfl).2.2.1, new_get rfl⟩, KeepB.of (new_facts rfl).1 hf⟩
   intro n S d x y ty p hx hy
   unfold heapOp
   simp only [evs, ev_frS, hx, hy, builtinV, List.getElem?_toArray, List.getElem?_cons_zero, List.getElem?_cons_succ, he, ht, src_of hs hl, appendV, h5, Nat.ble_eq_true_of_le (show m ≤ 1048576 by omega), Nat.beq_refl, Bool.and_true, cond_true, cond_false]
   rfl
  ·have hmz : 1 ≤ m * size := Nat.mul_pos hp hz
   have h1 : Nat.ble (0 + (k + m) * size) cs.length = false := by
    cases h : Nat.ble (0 + (k + m) * size) cs.length with
    | false => rfl
    | true => have := Nat.le_of_ble_eq_true h; rw [hcl, Nat.add_mul] at this; omega
   have h2 : Nat.beq (0 + k * size) cs.length = true := by rw [hcl, Nat.zero_add]; exact Nat.beq_refl _
   have h3 : Nat.ble (k + m) 1048576 = true := Nat.ble_eq_true_of_le (by omega)
   have h4 : Nat.beq e e = true := Nat.beq_refl e
   refine ⟨.slice (some ⟨H.next, 0, none⟩) (k + m) (k + m), ({ H with t := H.t.set b .dead } : Hp).new (.cells (cs ++ news) e true), .store b, ?_, fun b e => (by cases e), ?_, ?_⟩
   ·intro n S d x y ty p hx hy
    unfold heapOp
    simp only [evs, ev_frS, hx, hy, builtinV, List.getElem?_toArray, List.getElem?_cons_zero, List.getElem?_cons_succ, he, ht, src_of hs hl, appendV, hg, h1, h2, h3, h4, h5, hone, Nat.ble_eq_true_of_le hlb, Bool.and_self, cond_true, cond_false, List.drop_zero]
   ·refine .inr ⟨H.next, rfl, by omega, hf, hlo, Nat.lt_succ_self _, ?_⟩
    show ((H.t.set b .dead).set H.next _).get H.next = _
    rw [Tr.get_set, if_pos rfl]
   ·refine ⟨Nat.le_succ _, fun c hc => ?_, fun c xs hc hx => ?_⟩
    ·show ((H.t.set b .dead).set H.next _).get c = _
     rw [Tr.get_set, if_neg (by omega), Tr.get_set, if_neg (by omega)]
    ·have hx : ((H.t.set b .dead).set H.next (.cells (cs ++ news) e true)).get c = some (.ro xs) := hx
     have hc : c < H.next + 1 := hc
     rw [Tr.get_set] at hx
     split at hx
     ·cases hx
     ·rw [Tr.get_set] at hx
      split at hx
      ·cases hx
      ·exact ⟨by omega, hx⟩
theorem heap_listb {lo : Nat} {H : Hp} {b k : Nat} {c : Bl} (h0 : Cl H b (bc c)) (hk : k ≤ 5) : ∃ a c' H1 kd, (∀ (n : Nat) (S : Rg) (d : Option Tmp) (x y : Operand) (ty : TypeId) (p : String), evS S x = some (.slice none 0 0) → evS S y = some (.slice (some ⟨b, 0, none⟩) k 5) → heapOp Try.prog lo (frS n S) H ⟨d, .call ⟨.builtin .append, #[x, y], #[42, 42]⟩, ty, p, #[], none⟩ = some (.val (.slice a k c') H1, kd)) ∧ (∀ x, kd ≠ .read x) ∧ Keep H H1 [] ∧ Sl H1 a k c' (nf c k) ∧ ∀ x, a = some ⟨x, 0, none⟩ → H.next ≤ x ∧ Cl H1 x (nf c k) := by
 rcases Nat.eq_zero_or_pos k with rfl | hp
 ·exact ⟨none, 0, H, .pure, fun n S d x y ty p hx hy => heap_app0 h0 hx hy, (fun x e => by cases e), Keep.refl _ _, .inl ⟨.inl rfl, rfl, rfl, rfl⟩, fun x e => by cases e⟩
 ·refine ⟨some ⟨H.next, 0, none⟩, k, _, .heavy, fun n S d x y ty p hx hy => heap_app5 h0 hp hk hx hy, (fun x e => by cases e), (new_facts rfl).1, .inr ⟨H.next, rfl, ⟨(new_facts rfl).2.2.1, by unfold cellsOf; rw [new_get rfl]⟩, Nat.le_refl _⟩, fun x e => ?_⟩
  cases e
  exact ⟨Nat.le_refl _, (new_facts rfl).2.2.1, _, _, new_get rfl⟩
section
variable {kn : FuncId → Option Bool} {lo : Nat} {H : Hp}
theorem flat41_ok {ma : Option Addr} {n mcap f bx : Nat} {rs : List Mc} (hr : Mcs H f ma n mcap rs) (hf : f ≤ H.next) (rx : Rd H bx [.slice ma n mcap]) (hn16 : n ≤ 16) (hm8 : ∀ r ∈ rs, r.n ≤ 8) (hlo : lo ≤ H.next) : ∃ a c H', FnX Try.prog kn lo 41 [pt bx] H (.slice a (flt rs n).length c) H' ∧ Keep H H' [] ∧ Sl H' a (flt rs n).length c (ouc (flt rs n)) := by
 have key := fnX_low (kn := kn) (lo := lo) (H := H) (args := [pt bx]) (Q := fun w H' => ∃ a c, w = .slice a (flt rs n).length c ∧ Keep H H' [] ∧ Sl H' a (flt rs n).length c (ouc (flt rs n))) Try.func41 B41 N41 Z41 L41 (by simp) ?_
 ·obtain ⟨w, H', h, a, c, rfl, q⟩ := key; exact ⟨a, c, H', h, q⟩
 have hk := Keep.refl H []
 have hr0 := hr
 have lbx := rx.lt
 refine wN_seq ?_
 refine wN_mov (v := .slice none 0 0) rfl ?_
 refine wN_end ?_
 refine wN_seq ?_
 refine wN_mov (v := .slice none 0 0) rfl ?_
 refine wN_end ?_
 refine wN_seq ?_
 refine wN_ld (b := bx) (o := 0) (v := .slice ma n mcap) rfl rx rfl ?_
 refine wN_len (m := n) rfl ?_
 refine wN_mov (v := iv 0) rfl ?_
 refine wN_end ?_
 have ac : Acc lo H.next 59 H (.slice none 0 0) 0 (ouc (flt rs 0)) := .inl ⟨rfl, rfl, rfl⟩
 refine loop_low (fn := Try.f41) E41_1 N41 L41x1 (fun z : Nat × Value => [(2, z.2), (5, .slice ma n mcap), (6, iv (n : Int)), (7, iv (z.1 : Int))])
  (fun k z H' => z.1 + k = n ∧ Keep H H' [] ∧ Mcs H' f ma n mcap rs ∧ Acc lo H.next 59 H' z.2 (flt rs z.1).length (ouc (flt rs z.1))) n (0, Value.slice none 0 0) ⟨by omega, hk, hr, ac⟩ ⟨rfl, rfl, rfl, rfl, trivial⟩ ?_
 rintro k ⟨i, wv⟩ L1 ⟨hik, hk, hr, hac⟩
 simp only at hik hac ⊢
 have mki := hk.1
 have kacc := Keep.refl L1 []
 refine wN_seq ?_
 refine wN_c_lss (a := (i : Int)) (b := (n : Int)) rfl rfl ?_
 refine wN_end ?_
 refine And.intro (fun q1 => ?_) (fun q1 => ?_)
 ·have q1 : (i : Int) < (n : Int) := of_decide_eq_true q1
  obtain ⟨mb, mo, mcs, x, hx, ema, hrd, hbf, hnc, hcell, hmem⟩ := hr.opn (i := i) (by omega)
  have lmb := hrd.lt
  have hx8 := hm8 x hmem
  have hfl := flt_len (rs := rs) (fun r hr2 => by rw [(hr.ri r hr2).2.1]; exact hm8 r hr2) i
  first | refine wN_skip ?_ | skip
  refine wN_seq ?_
  refine wN_idx (b := mb) (o := mo) (k := i) (j := (i : Int)) (by rw [← ema]; rfl) rfl rfl (by omega) ?_
  refine wN_lda (b := mb) (o := mo + i * 1) rfl hrd (row1_of hcell) ?_
  refine wN_alc ?_
  intro H1 kH1 nH1 c1
  have c1 : Cl H1 L1.next [.slice none 0 0] := c1
  have mH1 := kH1.1
  have hk := hk.trans kH1
  have hr := hr.keep kH1 (by simp)
  have kacc := kacc.trans kH1
  refine wN_sta (b := L1.next) (o := 0) rfl rfl c1 (by omega) rfl rfl (by simp) ?_
  intro H2 kH2 nH2 sH2
  have mH2 := kH2.1
  have hk := hk.new kH2 (fun b hb => by simp at hb ⊢; omega)
  have hr := hr.keep kH2 (fun x hx => by simp at hx; omega)
  have kacc := kacc.new kH2 (fun b hb => by simp at hb ⊢; omega)
  have c1 : Cl H2 L1.next [.slice x.ra x.n x.cap] := sH2
  refine wN_end ?_
  first | refine wN_reg ?_ | refine wN_blk ?_ | refine wN_bseq ?_ | (refine wOps_nil ?_; refine wN_reg ?_)
  refine wN_mov (v := wv) rfl ?_
  refine wN_addo (b := L1.next) (o := 0) rfl ?_
  refine wN_ld (b := L1.next) (o := 0) (v := .slice x.ra x.n x.cap) rfl c1.rd rfl ?_
  obtain ⟨hxs, hxl, hxo⟩ := hr.ri x hmem
  obtain ⟨vH3, H3, kdH3, eH3, dH3, ac2, kbH3⟩ := heap_append_manyA (P := Try.prog) (lo := lo) (H := H2) (f := H.next) (t1 := 60) se60 u60 hxs (by rw [ouc_len, hxl]) (by decide) (ouc_one _) (ouc_len _) (by omega) (hac.keep kacc) (by omega) (by omega)
  refine wN_memh (k := kdH3) rfl (by rcases hac with ⟨_, _, rfl⟩ | ⟨_, rfl, _⟩ <;> kernel_rfl) (eH3 _ _ _ _ _ _ _ rfl rfl) (fun b q => absurd q (dH3 b)) ?_
  rw [← ouc_app, ← hxl, ← List.length_append, ← flt_step hx] at ac2
  have hk := kbH3.keep hk (Nat.le_refl _)
  have hr := hr0.keep hk (by simp)
  have mH3 := kbH3.1
  refine wN_mov (v := vH3) rfl ?_
  refine wN_end ?_
  first | refine wN_reg ?_ | refine wN_blk ?_ | refine wN_bseq ?_ | (refine wOps_nil ?_; refine wN_reg ?_)
  refine wN_add (a := (i : Int)) (b := 1) rfl rfl ⟨by omega, by omega⟩ ?_
  refine wN_mov (v := iv ((i : Int) + 1)) rfl ?_
  refine wN_end ?_
  exact ⟨k - 1, (i + 1, vH3), by omega, ⟨by simp only; omega, hk, hr, ac2⟩, rfl, rfl, rfl, rfl, trivial⟩
 ·have q1 : ¬ ((i : Int) < (n : Int)) := of_decide_eq_false q1
  first | (refine wN_exit ?_; show wC _ _ _ _ _ _ _ _ _) | skip
  refine wN_seq ?_
  refine wN_mov (v := wv) rfl ?_
  refine wN_mov (v := wv) rfl ?_
  refine wN_end ?_
  have ei : i = n := by omega
  subst ei
  obtain ⟨a, c, rfl, sl, _⟩ := hac.sl
  exact And.intro trivial (Exists.intro _ (And.intro rfl ⟨a, c, rfl, hk, sl⟩))
theorem list54b_ok {b : Bl} {sa : Option Addr} {cap : Nat} {us : List Tn} (hn : us.length ≤ 5) (hlo : lo ≤ H.next) : ∃ a c H', FnX Try.prog kn lo 54 [.agg (bc b).toArray, .slice sa us.length cap] H (.slice a us.length c) H' ∧ Keep H H' [] ∧ Sl H' a us.length c (nf b us.length) ∧ ∀ x, a = some ⟨x, 0, none⟩ → H.next ≤ x ∧ Cl H' x (nf b us.length) := by
 have key := fnX_low (kn := kn) (lo := lo) (H := H) (args := [.agg (bc b).toArray, .slice sa us.length cap]) (Q := fun w H' => ∃ a c, w = .slice a us.length c ∧ Keep H H' [] ∧ Sl H' a us.length c (nf b us.length) ∧ ∀ x, a = some ⟨x, 0, none⟩ → H.next ≤ x ∧ Cl H' x (nf b us.length)) Try.func54 B54 N54 Z54 L54 (by simp) ?_
 ·obtain ⟨w, H', h, a, c, rfl, q⟩ := key; exact ⟨a, c, H', h, q⟩
 have hk := Keep.refl H []
 refine wN_seq ?_
 refine wN_boxS (v := .agg (bc b).toArray) rfl ?_
 intro H1 k1 n1 cb
 have cb : Sc H1 H.next (bc b) := cb
 have mH1 := k1.1
 have hk := hk.trans k1
 refine wN_mov (v := .slice none 0 0) rfl ?_
 refine wN_end ?_
 refine wN_seq ?_
 refine wN_mov (v := .slice sa us.length cap) rfl ?_
 refine wN_len (m := us.length) rfl ?_
 refine wN_memh (k := .read H.next) rfl (by kernel_rfl) (heap_arr5 cb hn rfl rfl) (fun x e => by cases e; exact cb.lt) ?_
 obtain ⟨a, c, H2, kd, eH2, dH2, kH2, sl, nw⟩ := heap_listb (lo := lo) cb.cl hn
 refine wN_memh (k := kd) rfl (by kernel_rfl) (eH2 _ _ _ _ _ _ _ rfl rfl) (fun x e => absurd e (dH2 x)) ?_
 have mH2 := kH2.1
 have hk := hk.trans kH2
 refine wN_mov (v := .slice a us.length c) rfl ?_
 refine wN_end ?_
 exact And.intro trivial (Exists.intro _ (And.intro rfl ⟨a, c, rfl, hk, sl, fun x e => ⟨by have := (nw x e).1; omega, (nw x e).2⟩⟩))
/-- Blend -/
theorem blendb_ok {r : Rc} {sa : Option Addr} {cap : Nat} {us : List Tn} (hs : Sl H sa us.length cap (tnc us)) (hf : ∀ b, sa = some ⟨b, 0, none⟩ → Ft H b (tnc us)) (hn2 : us.length ≤ 1000000) (hlo : lo ≤ H.next) : ∃ a c H', FnX Try.prog kn lo 25 [.slice sa us.length cap, .agg (Rc.f r).toArray] H (.tuple #[.slice a (blN us r) c, iv (blC us r), iv (blE us r)]) H' ∧ Keep H H' [] ∧ Sl H' a (blN us r) c (nf (blB us r) (blN us r)) ∧ ∀ x, a = some ⟨x, 0, none⟩ → H.next ≤ x ∧ Cl H' x (nf (blB us r) (blN us r)) := by
 have key := fnX_low (kn := kn) (lo := lo) (H := H) (args := [.slice sa us.length cap, .agg (Rc.f r).toArray]) (Q := fun w H' => ∃ a c, w = .tuple #[.slice a (blN us r) c, iv (blC us r), iv (blE us r)] ∧ Keep H H' [] ∧ Sl H' a (blN us r) c (nf (blB us r) (blN us r)) ∧ ∀ x, a = some ⟨x, 0, none⟩ → H.next ≤ x ∧ Cl H' x (nf (blB us r) (blN us r))) Try.func25 B25 N25 Z25 L25 (by simp) ?_
 ·obtain ⟨w, H', h, a, c, rfl, q⟩ := key; exact ⟨a, c, H', h, q⟩
 have hk := Keep.refl H []
 have fs := hs.old
 refine wN_seq ?_
 refine wN_box (v := .agg (Rc.f r).toArray) rfl ?_
 intro H1 kH1 nH1 c1
 have c1 : Cl H1 H.next [iv r.un, iv r.s1, iv r.s2, iv r.a1, iv r.a2, iv r.c1, iv r.c2] := c1
 have mH1 := kH1.1
 have hk := hk.trans kH1
 have hs := kH1.sl0 hs
 refine wN_mov (v := .slice none 0 0) rfl ?_
 refine wN_mov (v := iv 0) rfl ?_
 refine wN_mov (v := iv 0) rfl ?_
 refine wN_end ?_
 refine wN_seq ?_
 refine wN_mov (v := .slice sa us.length cap) rfl ?_
 refine wN_len (m := us.length) rfl ?_
 refine wN_c_gtr (a := (us.length : Int)) (b := 5) rfl rfl ?_
 refine wN_end ?_
 refine And.intro (fun q1 => ?_) (fun q1 => ?_)
 ·have q1 : (us.length : Int) > 5 := of_decide_eq_true q1
  refine wN_seq ?_
  refine wN_mov (v := .slice none 0 0) rfl ?_
  refine wN_mov (v := iv 0) rfl ?_
  refine wN_mov (v := iv 3) rfl ?_
  refine wN_end ?_
  have e : blE us r = 3 := by unfold blE; rw [if_pos (by omega)]
  have e2 : blN us r = 0 := by unfold blN; rw [if_neg (by omega)]
  have e3 : blC us r = 0 := by unfold blC; rw [if_neg (by omega)]
  exact And.intro trivial (Exists.intro _ (And.intro rfl ⟨none, 0, by rw [e, e2, e3]; rfl, hk, by rw [e2]; exact .inl ⟨.inl rfl, rfl, rfl, rfl⟩, fun x e => by cases e⟩))
 ·have q1 : ¬ ((us.length : Int) > 5) := of_decide_eq_false q1
  first | refine wN_skip ?_ | skip
  refine wN_seq ?_
  refine wN_mov (v := .slice sa us.length cap) rfl ?_
  obtain ⟨H2, fH2, kH2⟩ := vtanks_ok (kn := kn) (lo := lo) (H := H1) hs rfl (by omega) (by omega)
  rw [decide_eq_true (Nat.zero_le _), decide_eq_true (show us.length ≤ 5 by omega), Bool.true_and, Bool.true_and] at fH2
  have mH2 := kH2.1
  have hk := hk.trans kH2
  have hs := kH2.sl0 hs
  have c1 := kH2.cl c1 (by simp)
  cases hA : us.all Tn.ok
  ·rw [hA] at fH2
   refine wN_callf (vs := [.slice sa us.length cap]) rfl (callX_args fH2) ?_
   refine wN_pur (v := .bool true) rfl rfl ?_
   refine wN_mov (v := .bool true) rfl ?_
   refine wN_gs rfl ?_
   refine wN_gs rfl ?_
   refine wN_gs rfl ?_
   refine wN_pur (v := .bool true) rfl rfl ?_
   refine wN_end ?_
   refine condT ?_
   refine wN_seq ?_
   refine wN_mov (v := .slice none 0 0) rfl ?_
   refine wN_mov (v := iv 0) rfl ?_
   refine wN_mov (v := iv 1) rfl ?_
   refine wN_end ?_
   have e : blE us r = 1 := by unfold blE; rw [if_neg (by omega), if_neg (by simp [hA]; try simp [hR])]
   have e2 : blN us r = 0 := by unfold blN; rw [if_neg (by omega)]
   have e3 : blC us r = 0 := by unfold blC; rw [if_neg (by omega)]
   exact And.intro trivial (Exists.intro _ (And.intro rfl ⟨none, 0, by rw [e, e2, e3]; rfl, hk, by rw [e2]; exact .inl ⟨.inl rfl, rfl, rfl, rfl⟩, fun x e => by cases e⟩))
  ·rw [hA] at fH2
   refine wN_callf (vs := [.slice sa us.length cap]) rfl (callX_args fH2) ?_
   refine wN_pur (v := .bool false) rfl rfl ?_
   refine wN_mov (v := .bool false) rfl ?_
   refine wN_g rfl (wN_lda (b := H.next) (o := 0) rfl c1.rd (show row 7 _ _ = some [iv r.un, iv r.s1, iv r.s2, iv r.a1, iv r.a2, iv r.c1, iv r.c2] from rfl) ?_)
   obtain ⟨H3, fH3, kH3⟩ := vrecipe_ok (kn := kn) (lo := lo) (H := H2) (r := r) (by omega)
   have mH3 := kH3.1
   have hk := hk.trans kH3
   have hs := kH3.sl0 hs
   have c1 := kH3.cl c1 (by simp)
   cases hR : r.ok
   ·rw [hR] at fH3
    refine wN_g rfl (wN_callf (vs := [.agg (Rc.f r).toArray]) rfl (callX_args fH3) ?_)
    refine wN_g rfl (wN_pur (v := .bool true) rfl rfl ?_)
    refine wN_pur (v := .bool true) rfl rfl ?_
    refine wN_end ?_
    refine condT ?_
    refine wN_seq ?_
    refine wN_mov (v := .slice none 0 0) rfl ?_
    refine wN_mov (v := iv 0) rfl ?_
    refine wN_mov (v := iv 1) rfl ?_
    refine wN_end ?_
    have e : blE us r = 1 := by unfold blE; rw [if_neg (by omega), if_neg (by simp [hA]; try simp [hR])]
    have e2 : blN us r = 0 := by unfold blN; rw [if_neg (by omega)]
    have e3 : blC us r = 0 := by unfold blC; rw [if_neg (by omega)]
    exact And.intro trivial (Exists.intro _ (And.intro rfl ⟨none, 0, by rw [e, e2, e3]; rfl, hk, by rw [e2]; exact .inl ⟨.inl rfl, rfl, rfl, rfl⟩, fun x e => by cases e⟩))
   ·rw [hR] at fH3
    refine wN_g rfl (wN_callf (vs := [.agg (Rc.f r).toArray]) rfl (callX_args fH3) ?_)
    refine wN_g rfl (wN_pur (v := .bool false) rfl rfl ?_)
    refine wN_pur (v := .bool false) rfl rfl ?_
    refine wN_end ?_
    refine condF ?_
    first | refine wN_skip ?_ | skip
    refine wN_seq ?_
    refine wN_mov (v := .slice sa us.length cap) rfl ?_
    refine wN_lda (b := H.next) (o := 0) rfl c1.rd (show row 7 _ _ = some [iv r.un, iv r.s1, iv r.s2, iv r.a1, iv r.a2, iv r.c1, iv r.c2] from rfl) ?_
    obtain ⟨H4, fH4, kH4⟩ := cheap_ok (kn := kn) (lo := lo) (H := H3) (r := r) hs (fun b e => hk.ft (hf b e) (by simp)) (by omega) hA hR (by omega)
    have mH4 := kH4.1
    have hk := hk.trans kH4
    have hs := kH4.sl0 hs
    have c1 := kH4.cl c1 (by simp)
    have hbb : ∀ i, 0 ≤ blB us r i ∧ blB us r i ≤ 12 := blB_in hA (Rc.ok_t hR).1.1
    cases hB : (bestB us r).isSome
    ·rw [hB] at fH4
     refine wN_callf (vs := [.slice sa us.length cap, .agg (Rc.f r).toArray]) rfl (callX_args fH4) ?_
     refine wN_mov (v := .tuple #[.agg (bc (blB us r)).toArray, .bool false]) rfl ?_
     refine wN_pur (v := .agg (bc (blB us r)).toArray) rfl (by kernel_rfl) ?_
     refine wN_pur (v := .bool false) rfl (by kernel_rfl) ?_
     refine wN_alc ?_
     intro H5 kH5 nH5 c5
     have c5 : Cl H5 H4.next [iv 0, iv 0, iv 0, iv 0, iv 0] := c5
     have mH5 := kH5.1
     have hk := hk.trans kH5
     have hs := kH5.sl0 hs
     have c1 := kH5.cl c1 (by simp)
     refine wN_sta (b := H4.next) (o := 0) rfl rfl c5 (by omega) rfl rfl (by simp) ?_
     intro H6 kH6 nH6 sH6
     have mH6 := kH6.1
     have hk := hk.new kH6 (fun b hb => by simp at hb ⊢; omega)
     have hs := kH6.sl hs (fun b e => by have := fs b e; first | (simp; done) | (simp; omega))
     have c1 := kH6.cl c1 (by simp <;> omega)
     have c5 : Cl H6 H4.next [iv ((blB us r) 0), iv ((blB us r) 1), iv ((blB us r) 2), iv ((blB us r) 3), iv ((blB us r) 4)] := sH6
     refine wN_mov (v := .bool false) rfl ?_
     refine wN_end ?_
     refine wN_seq ?_
     refine wN_mov (v := .bool false) rfl ?_
     refine wN_pur (v := .bool true) rfl rfl ?_
     refine wN_end ?_
     refine condT ?_
     refine wN_seq ?_
     refine wN_mov (v := .slice none 0 0) rfl ?_
     refine wN_mov (v := iv 0) rfl ?_
     refine wN_mov (v := iv 4) rfl ?_
     refine wN_end ?_
     have e : blE us r = 4 := by unfold blE; rw [if_neg (by omega), if_pos (by simp [hA, hR]), if_neg (by simp [hB])]
     have e2 : blN us r = 0 := by unfold blN; rw [if_neg (by omega)]
     have e3 : blC us r = 0 := by unfold blC; rw [if_neg (by omega)]
     exact And.intro trivial (Exists.intro _ (And.intro rfl ⟨none, 0, by rw [e, e2, e3]; rfl, hk, by rw [e2]; exact .inl ⟨.inl rfl, rfl, rfl, rfl⟩, fun x e => by cases e⟩))
    ·rw [hB] at fH4
     refine wN_callf (vs := [.slice sa us.length cap, .agg (Rc.f r).toArray]) rfl (callX_args fH4) ?_
     refine wN_mov (v := .tuple #[.agg (bc (blB us r)).toArray, .bool true]) rfl ?_
     refine wN_pur (v := .agg (bc (blB us r)).toArray) rfl (by kernel_rfl) ?_
     refine wN_pur (v := .bool true) rfl (by kernel_rfl) ?_
     refine wN_alc ?_
     intro H7 kH7 nH7 c7
     have c7 : Cl H7 H4.next [iv 0, iv 0, iv 0, iv 0, iv 0] := c7
     have mH7 := kH7.1
     have hk := hk.trans kH7
     have hs := kH7.sl0 hs
     have c1 := kH7.cl c1 (by simp)
     refine wN_sta (b := H4.next) (o := 0) rfl rfl c7 (by omega) rfl rfl (by simp) ?_
     intro H8 kH8 nH8 sH8
     have mH8 := kH8.1
     have hk := hk.new kH8 (fun b hb => by simp at hb ⊢; omega)
     have hs := kH8.sl hs (fun b e => by have := fs b e; first | (simp; done) | (simp; omega))
     have c1 := kH8.cl c1 (by simp <;> omega)
     have c7 : Cl H8 H4.next [iv ((blB us r) 0), iv ((blB us r) 1), iv ((blB us r) 2), iv ((blB us r) 3), iv ((blB us r) 4)] := sH8
     refine wN_mov (v := .bool true) rfl ?_
     refine wN_end ?_
     refine wN_seq ?_
     refine wN_mov (v := .bool true) rfl ?_
     refine wN_pur (v := .bool false) rfl rfl ?_
     refine wN_end ?_
     refine condF ?_
     first | refine wN_skip ?_ | skip
     refine wD_seq ?_
     refine wD_lda (b := H4.next) (o := 0) rfl c7.rd (show row 5 _ _ = some [iv ((blB us r) 0), iv ((blB us r) 1), iv ((blB us r) 2), iv ((blB us r) 3), iv ((blB us r) 4)] from rfl) ?_
     refine wD_mov (v := .slice sa us.length cap) rfl ?_
     obtain ⟨a, c, H9, fH9, kH9, sl, nw⟩ := list54b_ok (kn := kn) (lo := H8.next) (H := H8) (b := blB us r) (sa := sa) (cap := cap) (us := us) (by omega) (by omega)
     refine wD_callh (vs := [.agg (bc (blB us r)).toArray, .slice sa us.length cap]) rfl rfl (callX_args fH9) ?_
     have mH9 := kH9.1
     have hk := hk.trans kH9
     have hs := kH9.sl0 hs
     have c1 := kH9.cl c1 (by simp)
     have c7 := kH9.cl c7 (by simp)
     have m54 : H8.next = H8.next := rfl
     refine wD_lda (b := H4.next) (o := 0) rfl c7.rd (show row 5 _ _ = some [iv ((blB us r) 0), iv ((blB us r) 1), iv ((blB us r) 2), iv ((blB us r) 3), iv ((blB us r) 4)] from rfl) ?_
     refine wD_mov (v := .slice sa us.length cap) rfl ?_
     obtain ⟨H10, fH10, kH10⟩ := cost_ok (kn := kn) (lo := lo) (H := H9) (b := blB us r) hs rfl hbb hA (by omega) (by omega)
     refine wD_callf (vs := [.agg (bc (blB us r)).toArray, .slice sa us.length cap]) rfl (callX_args fH10) ?_
     have mH10 := kH10.1
     have hk := hk.trans kH10
     have hs := kH10.sl0 hs
     have c1 := kH10.cl c1 (by simp)
     have c7 := kH10.cl c7 (by simp)
     have sl := kH10.sl0 sl
     have nw := (fun x e => ⟨(nw x e).1, kH10.cl (nw x e).2 (by simp)⟩ : ∀ x, a = some ⟨x, 0, none⟩ → H8.next ≤ x ∧ Cl _ x (nf (blB us r) us.length))
     refine wD_mov (v := .slice a us.length c) rfl ?_
     refine wD_mov (v := iv (cosB us (blB us r))) rfl ?_
     refine wD_mov (v := iv 0) rfl ?_
     refine wD_end (by repeat' first | exact True.intro | exact (fun h => h) | refine And.intro ?_ ?_ | (intro h; have h : (_ : Nat) = _ := h; omega)) ?_
     have e : blE us r = 0 := by unfold blE; rw [if_neg (by omega), if_pos (by simp [hA, hR]), if_pos hB]
     have e2 : blN us r = us.length := by unfold blN; rw [if_pos e]
     have e3 : blC us r = cosB us (blB us r) := by unfold blC; rw [if_pos e]
     exact And.intro trivial (Exists.intro _ (And.intro rfl ⟨a, c, by rw [e, e2, e3]; rfl, hk, by rw [e2]; exact sl, fun x e => by rw [e2]; exact ⟨by have := (nw x e).1; omega, (nw x e).2⟩⟩))
theorem frozen28_any {sa : Option Addr} {n cap : Nat} {us : List Fz} {R : Int} (hs : Sl H sa n cap (fzc us)) (hl : us.length = n) (hn2 : n ≤ 1000000) (hlo : lo ≤ H.next) : ∃ v H', FnX Try.prog kn lo 28 [.slice sa n cap, iv R] H v H' ∧ Keep H H' [] := by
 by_cases h0 : frzE us R = 0
 ·obtain ⟨b, H', h, k, _⟩ := frozen28_ok (kn := kn) hs hl hn2 hlo h0
  exact ⟨_, H', h, k⟩
 ·obtain ⟨H', h, k⟩ := frozen28_no (kn := kn) hs hl hn2 hlo h0
  exact ⟨_, H', h, k⟩
end
end Go.Ax

/-
  Plant: the law PlantMore (written by program).
-/
namespace Go.Ax
open Go Go.RowKit Go.Proofs

theorem tnc_len (us : List Tn) : (tnc us).length = us.length * 5 := by
  induction us with
  | nil => rfl
  | cons a us ih => have e : (tnc (a :: us)).length = a.f.length + (tnc us).length := List.length_append ..; rw [e, ih]; show 5 + us.length * 5 = (us.length + 1) * 5; omega
/-- a block that append made -/
def Bk73 (H : Hp) (b : Nat) (cs : List Value) : Prop := b < H.next ∧ H.t.get b = some (.cells cs 73 true)
theorem Bk73.rd {H : Hp} {b : Nat} {cs : List Value} (h : Bk73 H b cs) : Rd H b cs := ⟨h.1, by unfold cellsOf; rw [h.2]⟩
theorem Bk73.cl {H : Hp} {b : Nat} {cs : List Value} (h : Bk73 H b cs) : Cl H b cs := ⟨h.1, _, _, h.2⟩
theorem se36 : sliceElem Try.prog 36 = some (73, 5) := by kernel_rfl
theorem z73 : zeroOf Try.prog 73 = some (.agg #[iv 0, iv 0, iv 0, iv 0, iv 0]) := by kernel_rfl
section
variable {kn : FuncId → Option Bool} {lo : Nat} {H : Hp}
end
end Go.Ax

/-
  Plant: the law PlantOwns (written by program).
-/
namespace Go.Ax
open Go Go.RowKit Go.Proofs

theorem AccB.sl2 {b0 lo f : Nat} {e : TypeId} {H : Hp} {v : Value} {n : Nat} {cs : List Value} (h : AccB b0 lo f e H v n cs) (hb : f ≤ b0) : ∃ a c, v = .slice a n c ∧ Sl H a n c cs ∧ (∀ x, a = some ⟨x, 0, none⟩ → f ≤ x) := by
  rcases h with ⟨rfl, rfl, rfl, hb', e0, h0⟩ | ⟨b, rfl, h0, hf, hl, hn, hg⟩
  · exact ⟨_, _, rfl, .inr ⟨b0, rfl, ⟨hb', by unfold cellsOf; rw [h0]⟩, Nat.le_refl _⟩, fun x e => by cases e; exact hb⟩
  · exact ⟨_, _, rfl, .inr ⟨b, rfl, ⟨hn, by unfold cellsOf; rw [hg]⟩, Nat.le_refl _⟩, fun x e => by cases e; exact hf⟩
def rN (rs : List Mc) (s : Nat → Int) : Nat := bif rok rs s then 16 else 0
def rE (rs : List Mc) (s : Nat → Int) : Int := bif rok rs s then 0 else 1
section
variable {kn : FuncId → Option Bool} {lo : Nat} {H : Hp}
theorem run_any {s : Nat → Int} {sa : Option Addr} {n cap f : Nat} {rs : List Mc} (hr : Mcs H f sa n cap rs) (hm : ∀ r ∈ rs, r.n ≤ 1000000) (hn2 : n ≤ 1000000) (hf : f ≤ H.next) (hlo : lo ≤ H.next) : ∃ a c H', FnX Try.prog kn lo 17 [.slice sa n cap, .agg (qc s).toArray] H (.tuple #[.slice a (rN rs s) c, iv (rE rs s)]) H' ∧ Keep H H' [] ∧ Sl H' a (rN rs s) c (cc (rnA (mss rs) s) (rN rs s)) ∧ ∀ x, a = some ⟨x, 0, none⟩ → H.next ≤ x ∧ Cl H' x (cc (rnA (mss rs) s) (rN rs s)) := by
  unfold rN rE
  cases hok : rok rs s
  · obtain ⟨H', h, k⟩ := run17_no (kn := kn) (lo := lo) hr hm hn2 hf hlo hok
    exact ⟨none, 0, H', h, k, .inl ⟨.inl rfl, rfl, rfl, rfl⟩, fun x e => by cases e⟩
  · obtain ⟨a, H', h, k, q, z⟩ := run17_ok (kn := kn) (lo := lo) hr hm hn2 hf hlo hok
    exact ⟨some ⟨a, 0, none⟩, 16, H', h, k, z.cl.sl (Nat.le_refl 16), fun x e => by cases e; exact ⟨q, z.cl⟩⟩
set_option maxRecDepth 100000 in
set_option maxHeartbeats 4000000 in
/-- PlantOwns -/
theorem law_owns (hkn : kn 16 = some true) {s : Nat → Int} {r : Rc} {ma : Option Addr} {n mcap f : Nat} {rs : List Mc} (hr : Mcs H f ma n mcap rs) (hfm : f ≤ H.next) {sa : Option Addr} {cap : Nat} {us : List Tn} (hs : Sl H sa us.length cap (tnc us)) (hf : ∀ b, sa = some ⟨b, 0, none⟩ → Ft H b (tnc us)) {za : Option Addr} {zcap : Nat} {zs : List Fz} (hz : Sl H za zs.length zcap (fzc zs)) (hro : RoLow lo H) (hlo : lo ≤ H.next) : ∃ H', FnX Try.prog kn lo 14 [.slice ma n mcap, .agg (qc s).toArray, .slice sa us.length cap, .agg (Rc.f r).toArray, .slice za zs.length zcap] H (.bool true) H' := by
 have key := fnX_low (kn := kn) (lo := lo) (H := H) (args := [.slice ma n mcap, .agg (qc s).toArray, .slice sa us.length cap, .agg (Rc.f r).toArray, .slice za zs.length zcap]) (Q := fun w H' => w = .bool true) Try.func14 B14 N14 Z14 L14 (by simp) ?_
 ·obtain ⟨w, H', h, rfl⟩ := key; exact ⟨H', h⟩
 have hk := Keep.refl H []
 have fs := hs.old
 have fz := hz.old
 refine wN_seq ?_
 refine wN_box (v := .slice ma n mcap) rfl ?_
 intro H1 kH1 nH1 c1
 have c1 : Cl H1 H.next [.slice ma n mcap] := c1
 have mH1 := kH1.1
 have hk := hk.trans kH1
 have hr := hr.keep kH1 (by simp)
 have hs := kH1.sl0 hs
 have hz := kH1.sl0 hz
 refine wN_box (v := .agg (qc s).toArray) rfl ?_
 intro H2 kH2 nH2 c2
 have c2 : Cl H2 H1.next [iv (s 0), iv (s 1), iv (s 2), iv (s 3)] := c2
 have mH2 := kH2.1
 have hk := hk.trans kH2
 have hr := hr.keep kH2 (by simp)
 have hs := kH2.sl0 hs
 have hz := kH2.sl0 hz
 have c1 := kH2.cl c1 (by simp)
 refine wN_box (v := .agg (Rc.f r).toArray) rfl ?_
 intro H3 kH3 nH3 c3
 have c3 : Cl H3 H2.next [iv r.un, iv r.s1, iv r.s2, iv r.a1, iv r.a2, iv r.c1, iv r.c2] := c3
 have mH3 := kH3.1
 have hk := hk.trans kH3
 have hr := hr.keep kH3 (by simp)
 have hs := kH3.sl0 hs
 have hz := kH3.sl0 hz
 have c1 := kH3.cl c1 (by simp)
 have c2 := kH3.cl c2 (by simp)
 refine wN_mov (v := .bool false) rfl ?_
 refine wN_end ?_
 refine wN_seq ?_
 refine wN_ld (b := H.next) (o := 0) (v := .slice ma n mcap) rfl c1.rd rfl ?_
 refine wN_callB rfl (great_ok hr) ?_
 intro tH4 H4 hH4 kH4
 have mH4 := kH4.1
 have hk := hk.trans kH4
 have hr := hr.keep kH4 (by simp)
 have hs := kH4.sl0 hs
 have hz := kH4.sl0 hz
 have c1 := kH4.cl c1 (by simp)
 have c2 := kH4.cl c2 (by simp)
 have c3 := kH4.cl c3 (by simp)
 cases tH4
 ·obtain ⟨hm, hn16, hm8⟩ := grtB_f hr.rl hH4
  have hn2 : n ≤ 1000000 := by omega
  refine wN_mov (v := .bool false) rfl ?_
  refine wN_g rfl (wN_mov (v := .slice sa us.length cap) rfl ?_)
  obtain ⟨tS, H5, fH5, kH5, hS⟩ := slow_ok (kn := kn) (lo := lo) (H := H4) (lim := 3000) hs (by decide) (by decide) (by omega)
  have mH5 := kH5.1
  have hk := hk.trans kH5
  have hr := hr.keep kH5 (by simp)
  have hs := kH5.sl0 hs
  have hz := kH5.sl0 hz
  have c1 := kH5.cl c1 (by simp)
  have c2 := kH5.cl c2 (by simp)
  have c3 := kH5.cl c3 (by simp)
  cases tS
  ·refine wN_g rfl (wN_callf (vs := [.slice sa us.length cap, iv 3000]) rfl (callX_args fH5) ?_)
   have hn8 := hS rfl
   refine wN_pur (v := .bool false) rfl rfl ?_
   refine wN_mov (v := .bool false) rfl ?_
   refine wN_g rfl (wN_mov (v := .slice za zs.length zcap) rfl ?_)
   refine wN_g rfl (wN_len (m := zs.length) rfl ?_)
   refine wN_g rfl (wN_b_gtr (a := (zs.length : Int)) (b := 20) rfl rfl ?_)
   intro t1 g1; cases t1
   ·have g1 : ¬ ((zs.length : Int) > 20) := of_decide_eq_false g1
    refine wN_pur (v := .bool false) rfl rfl ?_
    refine wN_end ?_
    refine condF ?_
    first | refine wN_skip ?_ | skip
    refine wN_seq ?_
    refine wN_pur (v := .func (.func 41) #[] #[pt H.next]) rfl (by kernel_rfl) ?_
    refine wN_mov (v := .func (.func 41) #[] #[pt H.next]) rfl ?_
    refine wN_end ?_
    refine wN_seq ?_
    refine wN_mov (v := .func (.func 41) #[] #[pt H.next]) rfl ?_
    have hfl : (flt rs n).length ≤ 128 := Nat.le_trans (flt_len (rs := rs) (fun r hr2 => by rw [(hr.ri r hr2).2.1]; exact hm8 r hr2) n) (by omega)
    obtain ⟨oa, oc, H6, fH6, kH6, so⟩ := flat41_ok (kn := kn) (lo := lo) (H := H5) hr (by omega) c1.rd hn16 hm8 (by omega)
    refine wN_callf (vs := []) rfl (callX_func rfl (by simpa using fH6)) ?_
    have mH6 := kH6.1
    have hk := hk.trans kH6
    have hr := hr.keep kH6 (by simp)
    have hs := kH6.sl0 hs
    have hz := kH6.sl0 hz
    have c1 := kH6.cl c1 (by simp)
    have c2 := kH6.cl c2 (by simp)
    have c3 := kH6.cl c3 (by simp)
    have fo := so.old
    obtain ⟨H7, hH7⟩ : ∃ H7, H6.new (.cells [] 73 false) = H7 := ⟨_, rfl⟩
    refine wN_memh (H' := H7) (k := .heavy) rfl (by kernel_rfl) ((heap_build0 se36 z73).trans (by rw [hH7])) (fun b e => by cases e) ?_
    obtain ⟨kH7, nH7, cH7⟩ := new_facts hH7
    have gH7 := new_get hH7
    have mH7 := kH7.1
    have hk := hk.trans kH7
    have hr := hr.keep kH7 (by simp)
    have hs := kH7.sl0 hs
    have hz := kH7.sl0 hz
    have c1 := kH7.cl c1 (by simp)
    have c2 := kH7.cl c2 (by simp)
    have c3 := kH7.cl c3 (by simp)
    have so := kH7.sl0 so
    refine wN_mov (v := .slice sa us.length cap) rfl ?_
    obtain ⟨vH8, H8, kdH8, eH8, dH8, acH8, kH8⟩ := heap_append_first (P := Try.prog) (lo := lo) (H := H7) (f := H6.next) (t0 := 36) (t1 := 36) (e := 73) (b0 := H6.next) se36 u36 hs (tnc_len us) (by omega) (by decide) gH7 (by omega) (by omega) (by omega) (by omega)
    obtain ⟨ta, tc, rfl, stt, ft⟩ := acH8.sl2 (Nat.le_refl _)
    refine wN_memh (k := kdH8) rfl (by kernel_rfl) (eH8 _ _ _ _ _ _ _ rfl rfl) (fun b q => by rcases dH8 with z | z <;> rw [z] at q <;> cases q) ?_
    have mH8 := kH8.1
    have hk := hk.trans kH8
    have hr := hr.keep kH8 (by simp)
    have hs := kH8.sl0 hs
    have hz := kH8.sl0 hz
    have c1 := kH8.cl c1 (by simp)
    have c2 := kH8.cl c2 (by simp)
    have c3 := kH8.cl c3 (by simp)
    have so := kH8.sl0 so
    have ft := stt.old
    obtain ⟨H9, hH9⟩ : ∃ H9, H8.new (.cells [] 76 false) = H9 := ⟨_, rfl⟩
    refine wN_memh (H' := H9) (k := .heavy) rfl (by kernel_rfl) ((heap_build0 se47 z76).trans (by rw [hH9])) (fun b e => by cases e) ?_
    obtain ⟨kH9, nH9, cH9⟩ := new_facts hH9
    have gH9 := new_get hH9
    have mH9 := kH9.1
    have hk := hk.trans kH9
    have hr := hr.keep kH9 (by simp)
    have hs := kH9.sl0 hs
    have hz := kH9.sl0 hz
    have c1 := kH9.cl c1 (by simp)
    have c2 := kH9.cl c2 (by simp)
    have c3 := kH9.cl c3 (by simp)
    have so := kH9.sl0 so
    have stt := kH9.sl0 stt
    refine wN_mov (v := .slice za zs.length zcap) rfl ?_
    obtain ⟨vH10, H10, kdH10, eH10, dH10, acH10, kH10⟩ := heap_append_first (P := Try.prog) (lo := lo) (H := H9) (f := H8.next) (t0 := 47) (t1 := 47) (e := 76) (b0 := H8.next) se47 u47 hz (fzc_len zs) (by omega) (by decide) gH9 (by omega) (by omega) (by omega) (by omega)
    obtain ⟨ka, kc, rfl, sff, fk⟩ := acH10.sl2 (Nat.le_refl _)
    refine wN_memh (k := kdH10) rfl (by kernel_rfl) (eH10 _ _ _ _ _ _ _ rfl rfl) (fun b q => by rcases dH10 with z | z <;> rw [z] at q <;> cases q) ?_
    have mH10 := kH10.1
    have hk := hk.trans kH10
    have hr := hr.keep kH10 (by simp)
    have hs := kH10.sl0 hs
    have hz := kH10.sl0 hz
    have c1 := kH10.cl c1 (by simp)
    have c2 := kH10.cl c2 (by simp)
    have c3 := kH10.cl c3 (by simp)
    have so := kH10.sl0 so
    have stt := kH10.sl0 stt
    have fk := sff.old
    refine wN_mov (v := .slice oa ((flt rs n).length) oc) rfl ?_
    refine wN_mov (v := .slice ta us.length tc) rfl ?_
    refine wN_mov (v := .slice ka zs.length kc) rfl ?_
    refine wN_end ?_
    refine wN_seq ?_
    refine wN_ld (b := H.next) (o := 0) (v := .slice ma n mcap) rfl c1.rd rfl ?_
    refine wN_lda (b := H1.next) (o := 0) rfl c2.rd (show row 4 _ _ = some [iv (s 0), iv (s 1), iv (s 2), iv (s 3)] from rfl) ?_
    obtain ⟨aA, rcA, H11, fH11, kH11, sA, nwA⟩ := run_any (kn := kn) (lo := lo) (H := H10) (s := s) hr hm hn2 (by omega) (by omega)
    refine wN_callf (vs := [.slice ma n mcap, .agg (qc s).toArray]) rfl (callX_args fH11) ?_
    have mH11 := kH11.1
    have hk := hk.trans kH11
    have hr := hr.keep kH11 (by simp)
    have hs := kH11.sl0 hs
    have hz := kH11.sl0 hz
    have c1 := kH11.cl c1 (by simp)
    have c2 := kH11.cl c2 (by simp)
    have c3 := kH11.cl c3 (by simp)
    have so := kH11.sl0 so
    have stt := kH11.sl0 stt
    have sff := kH11.sl0 sff
    have hrN : rN rs s ≤ 16 := by unfold rN; cases rok rs s <;> decide
    have hshA : rN rs s = 0 ∨ ∃ x, aA = some ⟨x, 0, none⟩ := by
     rcases sA with ⟨_, z, _⟩ | ⟨x, e, _⟩
     ·exact .inl z
     ·exact .inr ⟨x, e⟩
    have nbA : ∀ x, aA = some ⟨x, 0, none⟩ → H10.next ≤ x ∧ x < H11.next := fun x e => ⟨(nwA x e).1, (nwA x e).2.lt⟩
    have nwV : ∀ x, aA = some ⟨x, 0, none⟩ → ∃ cs, Cl H11 x cs ∧ cs.length = rN rs s * 4 := fun x e => ⟨_, (nwA x e).2, cc_len _ _⟩
    refine wN_mov (v := .tuple #[.slice aA (rN rs s) rcA, iv (rE rs s)]) rfl ?_
    refine wN_pur (v := .slice aA (rN rs s) rcA) rfl (by kernel_rfl) ?_
    refine wN_pur (v := iv (rE rs s)) rfl (by kernel_rfl) ?_
    refine wN_mov (v := .slice aA (rN rs s) rcA) rfl ?_
    refine wN_mov (v := iv (rE rs s)) rfl ?_
    refine wN_end ?_
    refine wN_seq ?_
    refine wN_mov (v := .slice sa us.length cap) rfl ?_
    refine wN_lda (b := H2.next) (o := 0) rfl c3.rd (show row 7 _ _ = some [iv r.un, iv r.s1, iv r.s2, iv r.a1, iv r.a2, iv r.c1, iv r.c2] from rfl) ?_
    obtain ⟨ba1, bc1, H12, fH12, kH12, sl1, nw1⟩ := blendb_ok (kn := kn) (lo := lo) (H := H11) (r := r) hs (fun b e => hk.ft (hf b e) (by simp)) (by omega) (by omega)
    refine wN_callf (vs := [.slice sa us.length cap, .agg (Rc.f r).toArray]) rfl (callX_args fH12) ?_
    have mH12 := kH12.1
    have hk := hk.trans kH12
    have hr := hr.keep kH12 (by simp)
    have hs := kH12.sl0 hs
    have hz := kH12.sl0 hz
    have c1 := kH12.cl c1 (by simp)
    have c2 := kH12.cl c2 (by simp)
    have c3 := kH12.cl c3 (by simp)
    have so := kH12.sl0 so
    have stt := kH12.sl0 stt
    have sff := kH12.sl0 sff
    have sA := kH12.sl0 sA
    have nwV := (fun x e => by obtain ⟨cs, q, l⟩ := nwV x e; have := nbA x e; exact ⟨cs, kH12.cl q (by simp <;> omega), l⟩ : ∀ x, aA = some ⟨x, 0, none⟩ → ∃ cs, Cl _ x cs ∧ cs.length = rN rs s * 4)
    have hbn : blN us r ≤ 8 := by unfold blN; split <;> omega
    have hsh : blN us r = 0 ∨ ∃ x, ba1 = some ⟨x, 0, none⟩ := by
     rcases sl1 with ⟨_, z, _⟩ | ⟨x, e, _⟩
     ·exact .inl z
     ·exact .inr ⟨x, e⟩
    have nb : ∀ x, ba1 = some ⟨x, 0, none⟩ → H11.next ≤ x ∧ x < H12.next := fun x e => ⟨(nw1 x e).1, (nw1 x e).2.lt⟩
    have nwU : ∀ x, ba1 = some ⟨x, 0, none⟩ → ∃ cs, Cl H12 x cs ∧ cs.length = blN us r := fun x e => ⟨_, (nw1 x e).2, nf_len _ _⟩
    refine wN_mov (v := .tuple #[.slice ba1 (blN us r) bc1, iv (blC us r), iv (blE us r)]) rfl ?_
    refine wN_pur (v := .slice ba1 (blN us r) bc1) rfl (by kernel_rfl) ?_
    refine wN_pur (v := iv (blC us r)) rfl (by kernel_rfl) ?_
    refine wN_pur (v := iv (blE us r)) rfl (by kernel_rfl) ?_
    refine wN_mov (v := .slice ba1 (blN us r) bc1) rfl ?_
    refine wN_mov (v := iv (blC us r)) rfl ?_
    refine wN_mov (v := iv (blE us r)) rfl ?_
    refine wN_end ?_
    refine wN_seq ?_
    obtain ⟨H13, hH13⟩ : ∃ H13, H12.new (.cells [] 24 false) = H13 := ⟨_, rfl⟩
    refine wN_memh (H' := H13) (k := .heavy) rfl (by kernel_rfl) ((heap_build0 se27 z24).trans (by rw [hH13])) (fun b e => by cases e) ?_
    obtain ⟨kH13, nH13, cH13⟩ := new_facts hH13
    have gH13 := new_get hH13
    have mH13 := kH13.1
    have hk := hk.trans kH13
    have hr := hr.keep kH13 (by simp)
    have hs := kH13.sl0 hs
    have hz := kH13.sl0 hz
    have c1 := kH13.cl c1 (by simp)
    have c2 := kH13.cl c2 (by simp)
    have c3 := kH13.cl c3 (by simp)
    have so := kH13.sl0 so
    have stt := kH13.sl0 stt
    have sff := kH13.sl0 sff
    have sA := kH13.sl0 sA
    have nwV := (fun x e => by obtain ⟨cs, q, l⟩ := nwV x e; have := nbA x e; exact ⟨cs, kH13.cl q (by simp <;> omega), l⟩ : ∀ x, aA = some ⟨x, 0, none⟩ → ∃ cs, Cl _ x cs ∧ cs.length = rN rs s * 4)
    have sl1 := kH13.sl0 sl1
    have nwU := (fun x e => by obtain ⟨cs, q, l⟩ := nwU x e; have := nb x e; exact ⟨cs, kH13.cl q (by simp <;> omega), l⟩ : ∀ x, ba1 = some ⟨x, 0, none⟩ → ∃ cs, Cl _ x cs ∧ cs.length = blN us r)
    refine wN_mov (v := .slice aA (rN rs s) rcA) rfl ?_
    obtain ⟨vH14, H14, kdH14, eH14, dH14, acH14, kH14⟩ := heap_append_first (P := Try.prog) (lo := lo) (H := H13) (f := H12.next) (t0 := 27) (t1 := 27) (e := 24) (b0 := H12.next) se27 u27 sA (cc_len _ _) (by omega) (by decide) gH13 (by omega) (by omega) (by omega) (by omega)
    obtain ⟨ca, cq, rfl, sC, fC⟩ := acH14.sl2 (Nat.le_refl _)
    refine wN_memh (k := kdH14) rfl (by kernel_rfl) (eH14 _ _ _ _ _ _ _ rfl rfl) (fun b q => by rcases dH14 with z | z <;> rw [z] at q <;> cases q) ?_
    have mH14 := kH14.1
    have hk := hk.trans kH14
    have hr := hr.keep kH14 (by simp)
    have hs := kH14.sl0 hs
    have hz := kH14.sl0 hz
    have c1 := kH14.cl c1 (by simp)
    have c2 := kH14.cl c2 (by simp)
    have c3 := kH14.cl c3 (by simp)
    have so := kH14.sl0 so
    have stt := kH14.sl0 stt
    have sff := kH14.sl0 sff
    have sA := kH14.sl0 sA
    have nwV := (fun x e => by obtain ⟨cs, q, l⟩ := nwV x e; have := nbA x e; exact ⟨cs, kH14.cl q (by simp <;> omega), l⟩ : ∀ x, aA = some ⟨x, 0, none⟩ → ∃ cs, Cl _ x cs ∧ cs.length = rN rs s * 4)
    have sl1 := kH14.sl0 sl1
    have nwU := (fun x e => by obtain ⟨cs, q, l⟩ := nwU x e; have := nb x e; exact ⟨cs, kH14.cl q (by simp <;> omega), l⟩ : ∀ x, ba1 = some ⟨x, 0, none⟩ → ∃ cs, Cl _ x cs ∧ cs.length = blN us r)
    obtain ⟨H15, hH15⟩ : ∃ H15, H14.new (.cells [] 3 false) = H15 := ⟨_, rfl⟩
    refine wN_memh (H' := H15) (k := .heavy) rfl (by kernel_rfl) ((heap_build0 se42 z3).trans (by rw [hH15])) (fun b e => by cases e) ?_
    obtain ⟨kH15, nH15, cH15⟩ := new_facts hH15
    have gH15 := new_get hH15
    have mH15 := kH15.1
    have hk := hk.trans kH15
    have hr := hr.keep kH15 (by simp)
    have hs := kH15.sl0 hs
    have hz := kH15.sl0 hz
    have c1 := kH15.cl c1 (by simp)
    have c2 := kH15.cl c2 (by simp)
    have c3 := kH15.cl c3 (by simp)
    have so := kH15.sl0 so
    have stt := kH15.sl0 stt
    have sff := kH15.sl0 sff
    have sA := kH15.sl0 sA
    have nwV := (fun x e => by obtain ⟨cs, q, l⟩ := nwV x e; have := nbA x e; exact ⟨cs, kH15.cl q (by simp <;> omega), l⟩ : ∀ x, aA = some ⟨x, 0, none⟩ → ∃ cs, Cl _ x cs ∧ cs.length = rN rs s * 4)
    have sl1 := kH15.sl0 sl1
    have nwU := (fun x e => by obtain ⟨cs, q, l⟩ := nwU x e; have := nb x e; exact ⟨cs, kH15.cl q (by simp <;> omega), l⟩ : ∀ x, ba1 = some ⟨x, 0, none⟩ → ∃ cs, Cl _ x cs ∧ cs.length = blN us r)
    have sC := kH15.sl0 sC
    refine wN_mov (v := .slice ba1 (blN us r) bc1) rfl ?_
    obtain ⟨vH16, H16, kdH16, eH16, dH16, acH16, kH16⟩ := heap_append_first (P := Try.prog) (lo := lo) (H := H15) (f := H14.next) (t0 := 42) (t1 := 42) (e := 3) (b0 := H14.next) se42 u42 sl1 (by rw [nf_len, Nat.mul_one]) (by omega) (by decide) gH15 (by omega) (by omega) (by omega) (by omega)
    obtain ⟨ua, uc, rfl, sU, fU⟩ := acH16.sl2 (Nat.le_refl _)
    refine wN_memh (k := kdH16) rfl (by kernel_rfl) (eH16 _ _ _ _ _ _ _ rfl rfl) (fun b q => by rcases dH16 with z | z <;> rw [z] at q <;> cases q) ?_
    have mH16 := kH16.1
    have hk := hk.trans kH16
    have hr := hr.keep kH16 (by simp)
    have hs := kH16.sl0 hs
    have hz := kH16.sl0 hz
    have c1 := kH16.cl c1 (by simp)
    have c2 := kH16.cl c2 (by simp)
    have c3 := kH16.cl c3 (by simp)
    have so := kH16.sl0 so
    have stt := kH16.sl0 stt
    have sff := kH16.sl0 sff
    have sA := kH16.sl0 sA
    have nwV := (fun x e => by obtain ⟨cs, q, l⟩ := nwV x e; have := nbA x e; exact ⟨cs, kH16.cl q (by simp <;> omega), l⟩ : ∀ x, aA = some ⟨x, 0, none⟩ → ∃ cs, Cl _ x cs ∧ cs.length = rN rs s * 4)
    have sl1 := kH16.sl0 sl1
    have nwU := (fun x e => by obtain ⟨cs, q, l⟩ := nwU x e; have := nb x e; exact ⟨cs, kH16.cl q (by simp <;> omega), l⟩ : ∀ x, ba1 = some ⟨x, 0, none⟩ → ∃ cs, Cl _ x cs ∧ cs.length = blN us r)
    have sC := kH16.sl0 sC
    refine wN_mov (v := .slice ca (rN rs s) cq) rfl ?_
    refine wN_mov (v := .slice ua (blN us r) uc) rfl ?_
    refine wN_end ?_
    refine wN_seq ?_
    refine wN_mov (v := .slice aA (rN rs s) rcA) rfl ?_
    refine wN_len (m := (rN rs s)) rfl ?_
    refine wN_mov (v := iv 0) rfl ?_
    refine wN_end ?_
    refine loop_low (fn := Try.f14) E14_1 N14 L14x1 (fun i : Nat => [(2, .slice sa us.length cap), (4, .slice za zs.length zcap), (5, pt H.next), (6, pt H1.next), (8, pt H2.next), (11, .func (.func 41) #[] #[pt H.next]), (12, .slice oa ((flt rs n).length) oc), (13, .slice ta us.length tc), (14, .slice ka zs.length kc), (16, iv (rE rs s)), (17, .slice ba1 (blN us r) bc1), (19, iv (blE us r)), (20, .slice ca (rN rs s) cq), (21, .slice ua (blN us r) uc), (15, .slice aA (rN rs s) rcA), (74, iv ((rN rs s) : Int)), (75, iv (i : Int))])
     (fun k i H' => i + k = (rN rs s) ∧ H16.next ≤ H'.next ∧ Keep H H' [] ∧ Mcs H' f ma n mcap rs ∧ Cl H' H.next [.slice ma n mcap] ∧ Cl H' H1.next (qc s) ∧ Cl H' H2.next (Rc.f r) ∧ Sl H' sa us.length cap (tnc us) ∧ Sl H' za zs.length zcap (fzc zs) ∧ Sl H' oa (flt rs n).length oc (ouc (flt rs n)) ∧ Sl H' ta us.length tc (tnc us) ∧ Sl H' ka zs.length kc (fzc zs) ∧ Sl H' ca (rN rs s) cq (cc (rnA (mss rs) s) (rN rs s)) ∧ Sl H' ua (blN us r) uc (nf (blB us r) (blN us r)) ∧ (∀ x, aA = some ⟨x, 0, none⟩ → ∃ cs, Cl H' x cs ∧ cs.length = rN rs s * 4) ∧ (∀ x, ba1 = some ⟨x, 0, none⟩ → ∃ cs, Cl H' x cs ∧ cs.length = blN us r)) (rN rs s) 0 ⟨by omega, Nat.le_refl _, hk, hr, c1, c2, c3, hs, hz, so, stt, sff, sC, sU, nwV, nwU⟩ ⟨rfl, rfl, rfl, rfl, rfl, rfl, rfl, rfl, rfl, rfl, rfl, rfl, rfl, rfl, rfl, rfl, rfl, trivial⟩ ?_
    rintro k i L1 ⟨hik, hnx, hk, hr, c5, c6, c8, hs, hz, so, stt, sff, sC, sU, nwV, nwU⟩
    have mki := hk.1
    refine wN_seq ?_
    refine wN_c_lss (a := (i : Int)) (b := ((rN rs s) : Int)) rfl rfl ?_
    refine wN_end ?_
    refine And.intro (fun q2 => ?_) (fun q2 => ?_)
    ·have q2 : (i : Int) < ((rN rs s) : Int) := of_decide_eq_true q2
     rcases hshA with z | ⟨va, eva⟩
     ·omega
     obtain ⟨csA, cA, lA⟩ := nwV va eva
     have hua := nbA va eva
     first | refine wN_skip ?_ | skip
     refine wN_seq ?_
     refine wN_mov (v := iv (i : Int)) rfl ?_
     refine wN_mov (v := iv (i : Int)) rfl ?_
     refine wN_end ?_
     first | refine wN_reg ?_ | refine wN_blk ?_ | refine wN_bseq ?_ | (refine wOps_nil ?_; refine wN_reg ?_)
     refine wN_mov (v := .slice aA (rN rs s) rcA) rfl ?_
     refine wN_mov (v := iv (i : Int)) rfl ?_
     refine wN_idx (b := va) (o := 0) (k := i) (j := (i : Int)) (by rw [← eva]; rfl) rfl rfl (by omega) ?_
     refine wN_addo (b := va) (o := 0 + i * 4) rfl ?_
     refine wN_st (b := va) (o := 0 + i * 4) (v := iv (-1)) rfl rfl cA (by omega) rfl rfl (by omega) ?_
     intro H17 kH17 nH17 sH17
     have mH17 := kH17.1
     have hk := hk.new kH17 (fun b hb => by simp at hb ⊢; omega)
     have hr := hr.keep kH17 (fun x hx => by simp at hx; omega)
     have c5 := kH17.cl c5 (by simp <;> omega)
     have c6 := kH17.cl c6 (by simp <;> omega)
     have c8 := kH17.cl c8 (by simp <;> omega)
     have hs := kH17.sl hs (fun b e => by have := fs b e; first | (simp; done) | (simp; omega))
     have hz := kH17.sl hz (fun b e => by have := fz b e; first | (simp; done) | (simp; omega))
     have so := kH17.sl so (fun b e => by have := fo b e; first | (simp; done) | (simp; omega))
     have stt := kH17.sl stt (fun b e => by have := ft b e; first | (simp; done) | (simp; omega))
     have sff := kH17.sl sff (fun b e => by have := fk b e; first | (simp; done) | (simp; omega))
     have sC := kH17.sl sC (fun b e => by have := fC b e; first | (simp; done) | (simp; omega))
     have sU := kH17.sl sU (fun b e => by have := fU b e; first | (simp; done) | (simp; omega))
     have nwU := (fun x e => by obtain ⟨cs, q, l⟩ := nwU x e; have := nb x e; exact ⟨cs, kH17.cl q (by simp <;> omega), l⟩ : ∀ x, ba1 = some ⟨x, 0, none⟩ → ∃ cs, Cl _ x cs ∧ cs.length = blN us r)
     have nwV : ∀ x, aA = some ⟨x, 0, none⟩ → ∃ cs, Cl H17 x cs ∧ cs.length = rN rs s * 4 := fun x e => by rw [eva] at e; cases e; exact ⟨_, sH17, by rw [List.length_set]; exact lA⟩
     refine wN_end ?_
     first | refine wN_reg ?_ | refine wN_blk ?_ | refine wN_bseq ?_ | (refine wOps_nil ?_; refine wN_reg ?_)
     refine wN_add (a := (i : Int)) (b := 1) rfl rfl ⟨by omega, by omega⟩ ?_
     refine wN_mov (v := iv ((i : Int) + 1)) rfl ?_
     refine wN_end ?_
     exact ⟨k - 1, i + 1, by omega, ⟨by omega, by omega, hk, hr, c5, c6, c8, hs, hz, so, stt, sff, sC, sU, nwV, nwU⟩, rfl, rfl, rfl, rfl, rfl, rfl, rfl, rfl, rfl, rfl, rfl, rfl, rfl, rfl, rfl, rfl, rfl, trivial⟩
    ·have q2 : ¬ ((i : Int) < ((rN rs s) : Int)) := of_decide_eq_false q2
     first | (refine wN_exit ?_; show wC _ _ _ _ _ _ _ _ _) | skip
     refine wN_seq ?_
     refine wN_mov (v := .slice ba1 (blN us r) bc1) rfl ?_
     refine wN_len (m := (blN us r)) rfl ?_
     refine wN_mov (v := iv 0) rfl ?_
     refine wN_end ?_
     refine loop_low (fn := Try.f14) E14_2 N14 L14x2 (fun i : Nat => [(2, .slice sa us.length cap), (4, .slice za zs.length zcap), (5, pt H.next), (6, pt H1.next), (8, pt H2.next), (11, .func (.func 41) #[] #[pt H.next]), (12, .slice oa ((flt rs n).length) oc), (13, .slice ta us.length tc), (14, .slice ka zs.length kc), (16, iv (rE rs s)), (17, .slice ba1 (blN us r) bc1), (19, iv (blE us r)), (20, .slice ca (rN rs s) cq), (21, .slice ua (blN us r) uc), (84, iv ((blN us r) : Int)), (85, iv (i : Int))])
      (fun k i H' => i + k = (blN us r) ∧ L1.next ≤ H'.next ∧ Keep H H' [] ∧ Mcs H' f ma n mcap rs ∧ Cl H' H.next [.slice ma n mcap] ∧ Cl H' H1.next (qc s) ∧ Cl H' H2.next (Rc.f r) ∧ Sl H' sa us.length cap (tnc us) ∧ Sl H' za zs.length zcap (fzc zs) ∧ Sl H' oa (flt rs n).length oc (ouc (flt rs n)) ∧ Sl H' ta us.length tc (tnc us) ∧ Sl H' ka zs.length kc (fzc zs) ∧ Sl H' ca (rN rs s) cq (cc (rnA (mss rs) s) (rN rs s)) ∧ Sl H' ua (blN us r) uc (nf (blB us r) (blN us r)) ∧ (∀ x, ba1 = some ⟨x, 0, none⟩ → ∃ cs, Cl H' x cs ∧ cs.length = blN us r)) (blN us r) 0 ⟨by omega, Nat.le_refl _, hk, hr, c5, c6, c8, hs, hz, so, stt, sff, sC, sU, nwU⟩ ⟨rfl, rfl, rfl, rfl, rfl, rfl, rfl, rfl, rfl, rfl, rfl, rfl, rfl, rfl, rfl, rfl, trivial⟩ ?_
     rintro k i L1 ⟨hik, hnx, hk, hr, c5, c6, c8, hs, hz, so, stt, sff, sC, sU, nwU⟩
     have mki := hk.1
     refine wN_seq ?_
     refine wN_c_lss (a := (i : Int)) (b := ((blN us r) : Int)) rfl rfl ?_
     refine wN_end ?_
     refine And.intro (fun q3 => ?_) (fun q3 => ?_)
     ·have q3 : (i : Int) < ((blN us r) : Int) := of_decide_eq_true q3
      rcases hsh with z | ⟨ub, eub⟩
      ·omega
      obtain ⟨csB, cB, lB⟩ := nwU ub eub
      have hub := nb ub eub
      first | refine wN_skip ?_ | skip
      refine wN_seq ?_
      refine wN_mov (v := iv (i : Int)) rfl ?_
      refine wN_mov (v := iv (i : Int)) rfl ?_
      refine wN_end ?_
      first | refine wN_reg ?_ | refine wN_blk ?_ | refine wN_bseq ?_ | (refine wOps_nil ?_; refine wN_reg ?_)
      refine wN_mov (v := .slice ba1 (blN us r) bc1) rfl ?_
      refine wN_mov (v := iv (i : Int)) rfl ?_
      refine wN_idx (b := ub) (o := 0) (k := i) (j := (i : Int)) (by rw [← eub]; rfl) rfl rfl (by omega) ?_
      refine wN_st (b := ub) (o := 0 + i * 1) (v := iv (-1)) rfl rfl cB (by omega) rfl rfl (by omega) ?_
      intro H18 kH18 nH18 sH18
      have mH18 := kH18.1
      have hk := hk.new kH18 (fun b hb => by simp at hb ⊢; omega)
      have hr := hr.keep kH18 (fun x hx => by simp at hx; omega)
      have c5 := kH18.cl c5 (by simp <;> omega)
      have c6 := kH18.cl c6 (by simp <;> omega)
      have c8 := kH18.cl c8 (by simp <;> omega)
      have hs := kH18.sl hs (fun b e => by have := fs b e; first | (simp; done) | (simp; omega))
      have hz := kH18.sl hz (fun b e => by have := fz b e; first | (simp; done) | (simp; omega))
      have so := kH18.sl so (fun b e => by have := fo b e; first | (simp; done) | (simp; omega))
      have stt := kH18.sl stt (fun b e => by have := ft b e; first | (simp; done) | (simp; omega))
      have sff := kH18.sl sff (fun b e => by have := fk b e; first | (simp; done) | (simp; omega))
      have sC := kH18.sl sC (fun b e => by have := fC b e; first | (simp; done) | (simp; omega))
      have sU := kH18.sl sU (fun b e => by have := fU b e; first | (simp; done) | (simp; omega))
      have nwU : ∀ x, ba1 = some ⟨x, 0, none⟩ → ∃ cs, Cl H18 x cs ∧ cs.length = blN us r := fun x e => by rw [eub] at e; cases e; exact ⟨_, sH18, by rw [List.length_set]; exact lB⟩
      refine wN_end ?_
      first | refine wN_reg ?_ | refine wN_blk ?_ | refine wN_bseq ?_ | (refine wOps_nil ?_; refine wN_reg ?_)
      refine wN_add (a := (i : Int)) (b := 1) rfl rfl ⟨by omega, by omega⟩ ?_
      refine wN_mov (v := iv ((i : Int) + 1)) rfl ?_
      refine wN_end ?_
      exact ⟨k - 1, i + 1, by omega, ⟨by omega, by omega, hk, hr, c5, c6, c8, hs, hz, so, stt, sff, sC, sU, nwU⟩, rfl, rfl, rfl, rfl, rfl, rfl, rfl, rfl, rfl, rfl, rfl, rfl, rfl, rfl, rfl, rfl, trivial⟩
     ·have q3 : ¬ ((i : Int) < ((blN us r) : Int)) := of_decide_eq_false q3
      first | (refine wN_exit ?_; show wC _ _ _ _ _ _ _ _ _) | skip
      refine wN_seq ?_
      refine wN_mov (v := .slice za zs.length zcap) rfl ?_
      obtain ⟨vz, H19, fH19, kH19⟩ := frozen28_any (kn := kn) (lo := lo) (H := L1) (R := 100) hz rfl (by omega) (by omega)
      refine wN_callf (vs := [.slice za zs.length zcap, iv 100]) rfl (callX_args fH19) ?_
      have mH19 := kH19.1
      have hk := hk.trans kH19
      have hr := hr.keep kH19 (by simp)
      have c5 := kH19.cl c5 (by simp)
      have c6 := kH19.cl c6 (by simp)
      have c8 := kH19.cl c8 (by simp)
      have hs := kH19.sl0 hs
      have hz := kH19.sl0 hz
      have so := kH19.sl0 so
      have stt := kH19.sl0 stt
      have sff := kH19.sl0 sff
      have sC := kH19.sl0 sC
      have sU := kH19.sl0 sU
      have nwU := (fun x e => by obtain ⟨cs, q, l⟩ := nwU x e; have := nb x e; exact ⟨cs, kH19.cl q (by simp <;> omega), l⟩ : ∀ x, ba1 = some ⟨x, 0, none⟩ → ∃ cs, Cl _ x cs ∧ cs.length = blN us r)
      refine wN_end ?_
      refine wN_seq ?_
      refine wN_ld (b := H.next) (o := 0) (v := .slice ma n mcap) rfl c5.rd rfl ?_
      refine wN_lda (b := H1.next) (o := 0) rfl c6.rd (show row 4 (qc s) 0 = some (qc s) from rfl) ?_
      obtain ⟨aB, rcB, H20, fH20, kH20, sB, nwB⟩ := run_any (kn := kn) (lo := lo) (H := H19) (s := s) hr hm hn2 (by omega) (by omega)
      refine wN_callf (vs := [.slice ma n mcap, .agg (qc s).toArray]) rfl (callX_args fH20) ?_
      have mH20 := kH20.1
      have hk := hk.trans kH20
      have hr := hr.keep kH20 (by simp)
      have c5 := kH20.cl c5 (by simp)
      have c6 := kH20.cl c6 (by simp)
      have c8 := kH20.cl c8 (by simp)
      have hs := kH20.sl0 hs
      have hz := kH20.sl0 hz
      have so := kH20.sl0 so
      have stt := kH20.sl0 stt
      have sff := kH20.sl0 sff
      have sC := kH20.sl0 sC
      have sU := kH20.sl0 sU
      have nwU := (fun x e => by obtain ⟨cs, q, l⟩ := nwU x e; have := nb x e; exact ⟨cs, kH20.cl q (by simp <;> omega), l⟩ : ∀ x, ba1 = some ⟨x, 0, none⟩ → ∃ cs, Cl _ x cs ∧ cs.length = blN us r)
      refine wN_mov (v := .tuple #[.slice aB (rN rs s) rcB, iv (rE rs s)]) rfl ?_
      refine wN_pur (v := .slice aB (rN rs s) rcB) rfl (by kernel_rfl) ?_
      refine wN_pur (v := iv (rE rs s)) rfl (by kernel_rfl) ?_
      refine wN_mov (v := .slice aB (rN rs s) rcB) rfl ?_
      refine wN_mov (v := iv (rE rs s)) rfl ?_
      refine wN_end ?_
      refine wN_seq ?_
      refine wN_mov (v := .slice sa us.length cap) rfl ?_
      refine wN_lda (b := H2.next) (o := 0) rfl c8.rd (show row 7 (Rc.f r) 0 = some (Rc.f r) from rfl) ?_
      obtain ⟨ba2, bc2, H21, fH21, kH21, sl2, nw2⟩ := blendb_ok (kn := kn) (lo := lo) (H := H20) (r := r) hs (fun b e => hk.ft (hf b e) (by simp)) (by omega) (by omega)
      refine wN_callf (vs := [.slice sa us.length cap, .agg (Rc.f r).toArray]) rfl (callX_args fH21) ?_
      have mH21 := kH21.1
      have hk := hk.trans kH21
      have hr := hr.keep kH21 (by simp)
      have c5 := kH21.cl c5 (by simp)
      have c6 := kH21.cl c6 (by simp)
      have c8 := kH21.cl c8 (by simp)
      have hs := kH21.sl0 hs
      have hz := kH21.sl0 hz
      have so := kH21.sl0 so
      have stt := kH21.sl0 stt
      have sff := kH21.sl0 sff
      have sC := kH21.sl0 sC
      have sU := kH21.sl0 sU
      have nwU := (fun x e => by obtain ⟨cs, q, l⟩ := nwU x e; have := nb x e; exact ⟨cs, kH21.cl q (by simp <;> omega), l⟩ : ∀ x, ba1 = some ⟨x, 0, none⟩ → ∃ cs, Cl _ x cs ∧ cs.length = blN us r)
      have sB := kH21.sl0 sB
      refine wN_mov (v := .tuple #[.slice ba2 (blN us r) bc2, iv (blC us r), iv (blE us r)]) rfl ?_
      refine wN_pur (v := .slice ba2 (blN us r) bc2) rfl (by kernel_rfl) ?_
      refine wN_pur (v := iv (blC us r)) rfl (by kernel_rfl) ?_
      refine wN_pur (v := iv (blE us r)) rfl (by kernel_rfl) ?_
      refine wN_mov (v := .slice ba2 (blN us r) bc2) rfl ?_
      refine wN_mov (v := iv (blC us r)) rfl ?_
      refine wN_mov (v := iv (blE us r)) rfl ?_
      refine wN_end ?_
      refine wN_seq ?_
      refine wN_mov (v := .func (.func 41) #[] #[pt H.next]) rfl ?_
      obtain ⟨oa2, oc2, H22, fH22, kH22, so2⟩ := flat41_ok (kn := kn) (lo := lo) (H := H21) hr (by omega) c5.rd hn16 hm8 (by omega)
      refine wN_callf (vs := []) rfl (callX_func rfl (by simpa using fH22)) ?_
      have mH22 := kH22.1
      have hk := hk.trans kH22
      have hr := hr.keep kH22 (by simp)
      have c5 := kH22.cl c5 (by simp)
      have c6 := kH22.cl c6 (by simp)
      have c8 := kH22.cl c8 (by simp)
      have hs := kH22.sl0 hs
      have hz := kH22.sl0 hz
      have so := kH22.sl0 so
      have stt := kH22.sl0 stt
      have sff := kH22.sl0 sff
      have sC := kH22.sl0 sC
      have sU := kH22.sl0 sU
      have nwU := (fun x e => by obtain ⟨cs, q, l⟩ := nwU x e; have := nb x e; exact ⟨cs, kH22.cl q (by simp <;> omega), l⟩ : ∀ x, ba1 = some ⟨x, 0, none⟩ → ∃ cs, Cl _ x cs ∧ cs.length = blN us r)
      have sB := kH22.sl0 sB
      have sl2 := kH22.sl0 sl2
      have fo2 := so2.old
      refine wN_len (m := (flt rs n).length) rfl ?_
      refine wN_mov (v := iv 0) rfl ?_
      refine wN_end ?_
      have fB2 := sB.old
      have fb2 := sl2.old
      have fC2 := sC.old
      have fU2 := sU.old
      refine loop_low (fn := Try.f14) E14_3 N14 L14x3 (fun i : Nat => [(2, .slice sa us.length cap), (4, .slice za zs.length zcap), (12, .slice oa ((flt rs n).length) oc), (13, .slice ta us.length tc), (14, .slice ka zs.length kc), (16, iv (rE rs s)), (19, iv (blE us r)), (20, .slice ca (rN rs s) cq), (21, .slice ua (blN us r) uc), (24, .slice aB (rN rs s) rcB), (25, iv (rE rs s)), (26, .slice ba2 (blN us r) bc2), (28, iv (blE us r)), (5, pt H.next), (6, pt H1.next), (8, pt H2.next), (108, .slice oa2 ((flt rs n).length) oc2), (109, iv ((flt rs n).length : Int)), (110, iv (i : Int))])
       (fun k i H' => i + k = (flt rs n).length ∧ H22.next ≤ H'.next ∧ Keep H H' [] ∧ Mcs H' f ma n mcap rs ∧ Cl H' H.next [.slice ma n mcap] ∧ Cl H' H1.next (qc s) ∧ Cl H' H2.next (Rc.f r) ∧ Sl H' sa us.length cap (tnc us) ∧ Sl H' za zs.length zcap (fzc zs) ∧ Sl H' oa (flt rs n).length oc (ouc (flt rs n)) ∧ Sl H' ta us.length tc (tnc us) ∧ Sl H' ka zs.length kc (fzc zs) ∧ Sl H' ca (rN rs s) cq (cc (rnA (mss rs) s) (rN rs s)) ∧ Sl H' ua (blN us r) uc (nf (blB us r) (blN us r)) ∧ Sl H' aB (rN rs s) rcB (cc (rnA (mss rs) s) (rN rs s)) ∧ Sl H' ba2 (blN us r) bc2 (nf (blB us r) (blN us r)) ∧ Sl H' oa2 (flt rs n).length oc2 (ouc (flt rs n))) (flt rs n).length 0 ⟨by omega, Nat.le_refl _, hk, hr, c5, c6, c8, hs, hz, so, stt, sff, sC, sU, sB, sl2, so2⟩ ⟨rfl, rfl, rfl, rfl, rfl, rfl, rfl, rfl, rfl, rfl, rfl, rfl, rfl, rfl, rfl, rfl, rfl, rfl, rfl, trivial⟩ ?_
      rintro k i L1 ⟨hik, hnx, hk, hr, c5, c6, c8, hs, hz, so, stt, sff, sC, sU, sB, sl2, so2⟩
      have mki := hk.1
      refine wN_seq ?_
      refine wN_c_lss (a := (i : Int)) (b := ((flt rs n).length : Int)) rfl rfl ?_
      refine wN_end ?_
      refine And.intro (fun q4 => ?_) (fun q4 => ?_)
      ·have q4 : (i : Int) < ((flt rs n).length : Int) := of_decide_eq_true q4
       obtain ⟨y, hy⟩ := get_some (l := flt rs n) (i := i) (by omega)
       rcases id so with ⟨_, h0, _⟩ | ⟨pb, ep, rp, _⟩
       ·omega
       rcases id so2 with ⟨_, h0, _⟩ | ⟨qb, eq_, rq, _⟩
       ·omega
       have lpb := rp.lt
       have lqb := rq.lt
       first | refine wN_skip ?_ | skip
       refine wN_seq ?_
       refine wN_mov (v := iv (i : Int)) rfl ?_
       refine wN_idx (b := qb) (o := 0) (k := i) (j := (i : Int)) (by rw [← eq_]; rfl) rfl rfl (by omega) ?_
       refine wN_lda (b := qb) (o := 0 + i * 5) rfl rq (ouc_row hy) ?_
       refine wN_alc ?_
       intro H23 kH23 nH23 c23
       have c23 : Cl H23 L1.next [iv 0, iv 0, iv 0, iv 0, iv 0] := c23
       have mH23 := kH23.1
       have hk := hk.trans kH23
       have hr := hr.keep kH23 (by simp)
       have c5 := kH23.cl c5 (by simp)
       have c6 := kH23.cl c6 (by simp)
       have c8 := kH23.cl c8 (by simp)
       have hs := kH23.sl0 hs
       have hz := kH23.sl0 hz
       have so := kH23.sl0 so
       have stt := kH23.sl0 stt
       have sff := kH23.sl0 sff
       have sC := kH23.sl0 sC
       have sU := kH23.sl0 sU
       have sB := kH23.sl0 sB
       have sl2 := kH23.sl0 sl2
       have so2 := kH23.sl0 so2
       have rp := kH23.rd rp (by simp)
       have rq := kH23.rd rq (by simp)
       refine wN_mov (v := iv (i : Int)) rfl ?_
       refine wN_sta (b := L1.next) (o := 0) rfl rfl c23 (by omega) rfl rfl (by simp) ?_
       intro H24 kH24 nH24 sH24
       have mH24 := kH24.1
       have hk := hk.new kH24 (fun b hb => by simp at hb ⊢; omega)
       have hr := hr.keep kH24 (fun x hx => by simp at hx; omega)
       have c5 := kH24.cl c5 (by simp <;> omega)
       have c6 := kH24.cl c6 (by simp <;> omega)
       have c8 := kH24.cl c8 (by simp <;> omega)
       have hs := kH24.sl hs (fun b e => by have := fs b e; first | (simp; done) | (simp; omega))
       have hz := kH24.sl hz (fun b e => by have := fz b e; first | (simp; done) | (simp; omega))
       have so := kH24.sl so (fun b e => by have := fo b e; first | (simp; done) | (simp; omega))
       have stt := kH24.sl stt (fun b e => by have := ft b e; first | (simp; done) | (simp; omega))
       have sff := kH24.sl sff (fun b e => by have := fk b e; first | (simp; done) | (simp; omega))
       have sC := kH24.sl sC (fun b e => by have := fC2 b e; first | (simp; done) | (simp; omega))
       have sU := kH24.sl sU (fun b e => by have := fU2 b e; first | (simp; done) | (simp; omega))
       have sB := kH24.sl sB (fun b e => by have := fB2 b e; first | (simp; done) | (simp; omega))
       have sl2 := kH24.sl sl2 (fun b e => by have := fb2 b e; first | (simp; done) | (simp; omega))
       have so2 := kH24.sl so2 (fun b e => by have := fo2 b e; first | (simp; done) | (simp; omega))
       have rp := kH24.rd rp (by simp <;> omega)
       have rq := kH24.rd rq (by simp <;> omega)
       have c23 : Cl H24 L1.next [iv y.to, iv y.m, iv y.s, iv y.a, iv y.c] := sH24
       refine wN_end ?_
       refine wD_seq ?_
       refine wD_mov (v := .slice oa ((flt rs n).length) oc) rfl ?_
       refine wD_mov (v := iv (i : Int)) rfl ?_
       refine wD_idx (b := pb) (o := 0) (k := i) (j := (i : Int)) (by rw [← ep]; rfl) rfl rfl (by omega) ?_
       refine wD_lda (b := pb) (o := 0 + i * 5) rfl rp (ouc_row hy) ?_
       refine wD_lda (b := L1.next) (o := 0) rfl c23.rd (show row 5 _ _ = some [iv y.to, iv y.m, iv y.s, iv y.a, iv y.c] from rfl) ?_
       refine wD_pur (v := .bool false) rfl (neq59 rfl rfl) ?_
       refine wD_end (by repeat' first | exact True.intro | exact (fun h => h) | refine And.intro ?_ ?_ | (intro h; have h : (_ : Nat) = _ := h; omega)) ?_
       refine condF ?_
       first | refine wN_skip ?_ | skip
       first | refine wN_reg ?_ | refine wN_blk ?_ | refine wN_bseq ?_ | (refine wOps_nil ?_; refine wN_reg ?_)
       refine wN_add (a := (i : Int)) (b := 1) rfl rfl ⟨by omega, by omega⟩ ?_
       refine wN_mov (v := iv ((i : Int) + 1)) rfl ?_
       refine wN_end ?_
       exact ⟨k - 1, i + 1, by omega, ⟨by omega, by omega, hk, hr, c5, c6, c8, hs, hz, so, stt, sff, sC, sU, sB, sl2, so2⟩, rfl, rfl, rfl, rfl, rfl, rfl, rfl, rfl, rfl, rfl, rfl, rfl, rfl, rfl, rfl, rfl, rfl, rfl, rfl, trivial⟩
      ·have q4 : ¬ ((i : Int) < ((flt rs n).length : Int)) := of_decide_eq_false q4
       first | (refine wN_exit ?_; show wC _ _ _ _ _ _ _ _ _) | skip
       refine wN_seq ?_
       refine wN_mov (v := .slice ta us.length tc) rfl ?_
       refine wN_len (m := us.length) rfl ?_
       refine wN_mov (v := iv 0) rfl ?_
       refine wN_end ?_
       refine loop_low (fn := Try.f14) E14_4 N14 L14x4 (fun i : Nat => [(2, .slice sa us.length cap), (4, .slice za zs.length zcap), (12, .slice oa ((flt rs n).length) oc), (13, .slice ta us.length tc), (14, .slice ka zs.length kc), (16, iv (rE rs s)), (19, iv (blE us r)), (20, .slice ca (rN rs s) cq), (21, .slice ua (blN us r) uc), (24, .slice aB (rN rs s) rcB), (25, iv (rE rs s)), (26, .slice ba2 (blN us r) bc2), (28, iv (blE us r)), (5, pt H.next), (6, pt H1.next), (8, pt H2.next), (123, iv (us.length : Int)), (124, iv (i : Int))])
        (fun k i H' => i + k = us.length ∧ L1.next ≤ H'.next ∧ Keep H H' [] ∧ Mcs H' f ma n mcap rs ∧ Cl H' H.next [.slice ma n mcap] ∧ Cl H' H1.next (qc s) ∧ Cl H' H2.next (Rc.f r) ∧ Sl H' sa us.length cap (tnc us) ∧ Sl H' za zs.length zcap (fzc zs) ∧ Sl H' oa (flt rs n).length oc (ouc (flt rs n)) ∧ Sl H' ta us.length tc (tnc us) ∧ Sl H' ka zs.length kc (fzc zs) ∧ Sl H' ca (rN rs s) cq (cc (rnA (mss rs) s) (rN rs s)) ∧ Sl H' ua (blN us r) uc (nf (blB us r) (blN us r)) ∧ Sl H' aB (rN rs s) rcB (cc (rnA (mss rs) s) (rN rs s)) ∧ Sl H' ba2 (blN us r) bc2 (nf (blB us r) (blN us r)) ∧ Sl H' oa2 (flt rs n).length oc2 (ouc (flt rs n))) us.length 0 ⟨by omega, Nat.le_refl _, hk, hr, c5, c6, c8, hs, hz, so, stt, sff, sC, sU, sB, sl2, so2⟩ ⟨rfl, rfl, rfl, rfl, rfl, rfl, rfl, rfl, rfl, rfl, rfl, rfl, rfl, rfl, rfl, rfl, rfl, rfl, trivial⟩ ?_
       rintro k i L1 ⟨hik, hnx, hk, hr, c5, c6, c8, hs, hz, so, stt, sff, sC, sU, sB, sl2, so2⟩
       have mki := hk.1
       refine wN_seq ?_
       refine wN_c_lss (a := (i : Int)) (b := (us.length : Int)) rfl rfl ?_
       refine wN_end ?_
       refine And.intro (fun q5 => ?_) (fun q5 => ?_)
       ·have q5 : (i : Int) < (us.length : Int) := of_decide_eq_true q5
        obtain ⟨y, hy⟩ := get_some (l := us) (i := i) (by omega)
        rcases id stt with ⟨_, h0, _⟩ | ⟨pb, ep, rp, _⟩
        ·omega
        rcases id hs with ⟨_, h0, _⟩ | ⟨qb, eq_, rq, _⟩
        ·omega
        have lpb := rp.lt
        have lqb := rq.lt
        first | refine wN_skip ?_ | skip
        refine wN_seq ?_
        refine wN_mov (v := iv (i : Int)) rfl ?_
        refine wN_mov (v := iv (i : Int)) rfl ?_
        refine wN_end ?_
        refine wD_seq ?_
        refine wD_mov (v := .slice ta us.length tc) rfl ?_
        refine wD_mov (v := iv (i : Int)) rfl ?_
        refine wD_idx (b := pb) (o := 0) (k := i) (j := (i : Int)) (by rw [← ep]; rfl) rfl rfl (by omega) ?_
        refine wD_lda (b := pb) (o := 0 + i * 5) rfl rp (tnc_row hy) ?_
        refine wD_mov (v := .slice sa us.length cap) rfl ?_
        refine wD_mov (v := iv (i : Int)) rfl ?_
        refine wD_idx (b := qb) (o := 0) (k := i) (j := (i : Int)) (by rw [← eq_]; rfl) rfl rfl (by omega) ?_
        refine wD_lda (b := qb) (o := 0 + i * 5) rfl rq (tnc_row hy) ?_
        refine wD_pur (v := .bool false) rfl (neq73 rfl rfl) ?_
        refine wD_end (by repeat' first | exact True.intro | exact (fun h => h) | refine And.intro ?_ ?_ | (intro h; have h : (_ : Nat) = _ := h; omega)) ?_
        refine condF ?_
        first | refine wN_skip ?_ | skip
        first | refine wN_reg ?_ | refine wN_blk ?_ | refine wN_bseq ?_ | (refine wOps_nil ?_; refine wN_reg ?_)
        refine wN_add (a := (i : Int)) (b := 1) rfl rfl ⟨by omega, by omega⟩ ?_
        refine wN_mov (v := iv ((i : Int) + 1)) rfl ?_
        refine wN_end ?_
        exact ⟨k - 1, i + 1, by omega, ⟨by omega, by omega, hk, hr, c5, c6, c8, hs, hz, so, stt, sff, sC, sU, sB, sl2, so2⟩, rfl, rfl, rfl, rfl, rfl, rfl, rfl, rfl, rfl, rfl, rfl, rfl, rfl, rfl, rfl, rfl, rfl, rfl, trivial⟩
       ·have q5 : ¬ ((i : Int) < (us.length : Int)) := of_decide_eq_false q5
        first | (refine wN_exit ?_; show wC _ _ _ _ _ _ _ _ _) | skip
        refine wN_seq ?_
        refine wN_mov (v := .slice ka zs.length kc) rfl ?_
        refine wN_len (m := zs.length) rfl ?_
        refine wN_mov (v := iv 0) rfl ?_
        refine wN_end ?_
        refine loop_low (fn := Try.f14) E14_5 N14 L14x5 (fun i : Nat => [(2, .slice sa us.length cap), (4, .slice za zs.length zcap), (12, .slice oa ((flt rs n).length) oc), (13, .slice ta us.length tc), (14, .slice ka zs.length kc), (16, iv (rE rs s)), (19, iv (blE us r)), (20, .slice ca (rN rs s) cq), (21, .slice ua (blN us r) uc), (24, .slice aB (rN rs s) rcB), (25, iv (rE rs s)), (26, .slice ba2 (blN us r) bc2), (28, iv (blE us r)), (5, pt H.next), (6, pt H1.next), (8, pt H2.next), (138, iv (zs.length : Int)), (139, iv (i : Int))])
         (fun k i H' => i + k = zs.length ∧ L1.next ≤ H'.next ∧ Keep H H' [] ∧ Mcs H' f ma n mcap rs ∧ Cl H' H.next [.slice ma n mcap] ∧ Cl H' H1.next (qc s) ∧ Cl H' H2.next (Rc.f r) ∧ Sl H' sa us.length cap (tnc us) ∧ Sl H' za zs.length zcap (fzc zs) ∧ Sl H' oa (flt rs n).length oc (ouc (flt rs n)) ∧ Sl H' ta us.length tc (tnc us) ∧ Sl H' ka zs.length kc (fzc zs) ∧ Sl H' ca (rN rs s) cq (cc (rnA (mss rs) s) (rN rs s)) ∧ Sl H' ua (blN us r) uc (nf (blB us r) (blN us r)) ∧ Sl H' aB (rN rs s) rcB (cc (rnA (mss rs) s) (rN rs s)) ∧ Sl H' ba2 (blN us r) bc2 (nf (blB us r) (blN us r)) ∧ Sl H' oa2 (flt rs n).length oc2 (ouc (flt rs n))) zs.length 0 ⟨by omega, Nat.le_refl _, hk, hr, c5, c6, c8, hs, hz, so, stt, sff, sC, sU, sB, sl2, so2⟩ ⟨rfl, rfl, rfl, rfl, rfl, rfl, rfl, rfl, rfl, rfl, rfl, rfl, rfl, rfl, rfl, rfl, rfl, rfl, trivial⟩ ?_
        rintro k i L1 ⟨hik, hnx, hk, hr, c5, c6, c8, hs, hz, so, stt, sff, sC, sU, sB, sl2, so2⟩
        have mki := hk.1
        refine wN_seq ?_
        refine wN_c_lss (a := (i : Int)) (b := (zs.length : Int)) rfl rfl ?_
        refine wN_end ?_
        refine And.intro (fun q6 => ?_) (fun q6 => ?_)
        ·have q6 : (i : Int) < (zs.length : Int) := of_decide_eq_true q6
         obtain ⟨y, hy⟩ := get_some (l := zs) (i := i) (by omega)
         rcases id sff with ⟨_, h0, _⟩ | ⟨pb, ep, rp, _⟩
         ·omega
         rcases id hz with ⟨_, h0, _⟩ | ⟨qb, eq_, rq, _⟩
         ·omega
         have lpb := rp.lt
         have lqb := rq.lt
         first | refine wN_skip ?_ | skip
         refine wN_seq ?_
         refine wN_mov (v := iv (i : Int)) rfl ?_
         refine wN_mov (v := iv (i : Int)) rfl ?_
         refine wN_end ?_
         refine wD_seq ?_
         refine wD_mov (v := .slice ka zs.length kc) rfl ?_
         refine wD_mov (v := iv (i : Int)) rfl ?_
         refine wD_idx (b := pb) (o := 0) (k := i) (j := (i : Int)) (by rw [← ep]; rfl) rfl rfl (by omega) ?_
         refine wD_lda (b := pb) (o := 0 + i * 3) rfl rp (fzc_row hy) ?_
         refine wD_mov (v := .slice za zs.length zcap) rfl ?_
         refine wD_mov (v := iv (i : Int)) rfl ?_
         refine wD_idx (b := qb) (o := 0) (k := i) (j := (i : Int)) (by rw [← eq_]; rfl) rfl rfl (by omega) ?_
         refine wD_lda (b := qb) (o := 0 + i * 3) rfl rq (fzc_row hy) ?_
         refine wD_pur (v := .bool false) rfl (neq76 rfl rfl) ?_
         refine wD_end (by repeat' first | exact True.intro | exact (fun h => h) | refine And.intro ?_ ?_ | (intro h; have h : (_ : Nat) = _ := h; omega)) ?_
         refine condF ?_
         first | refine wN_skip ?_ | skip
         first | refine wN_reg ?_ | refine wN_blk ?_ | refine wN_bseq ?_ | (refine wOps_nil ?_; refine wN_reg ?_)
         refine wN_add (a := (i : Int)) (b := 1) rfl rfl ⟨by omega, by omega⟩ ?_
         refine wN_mov (v := iv ((i : Int) + 1)) rfl ?_
         refine wN_end ?_
         exact ⟨k - 1, i + 1, by omega, ⟨by omega, by omega, hk, hr, c5, c6, c8, hs, hz, so, stt, sff, sC, sU, sB, sl2, so2⟩, rfl, rfl, rfl, rfl, rfl, rfl, rfl, rfl, rfl, rfl, rfl, rfl, rfl, rfl, rfl, rfl, rfl, rfl, trivial⟩
        ·have q6 : ¬ ((i : Int) < (zs.length : Int)) := of_decide_eq_false q6
         first | (refine wN_exit ?_; show wC _ _ _ _ _ _ _ _ _) | skip
         refine wN_seq ?_
         refine wN_mov (v := .slice aB (rN rs s) rcB) rfl ?_
         refine wN_mov (v := .slice ca (rN rs s) cq) rfl ?_
         obtain ⟨H25, fH25, kH25⟩ := same23_ok (kn := kn) (lo := lo) (H := L1) (C := rnA (mss rs) s) (m := rN rs s) sB sC (Nat.le_refl _) (by omega)
         refine wN_callf (vs := [.slice aB (rN rs s) rcB, .slice ca (rN rs s) cq]) rfl (callX_args fH25) ?_
         have mH25 := kH25.1
         have hk := hk.trans kH25
         have hr := hr.keep kH25 (by simp)
         have c5 := kH25.cl c5 (by simp)
         have c6 := kH25.cl c6 (by simp)
         have c8 := kH25.cl c8 (by simp)
         have hs := kH25.sl0 hs
         have hz := kH25.sl0 hz
         have so := kH25.sl0 so
         have stt := kH25.sl0 stt
         have sff := kH25.sl0 sff
         have sC := kH25.sl0 sC
         have sU := kH25.sl0 sU
         have sB := kH25.sl0 sB
         have sl2 := kH25.sl0 sl2
         have so2 := kH25.sl0 so2
         refine wN_mov (v := .bool true) rfl ?_
         refine wN_g rfl (wN_mov (v := iv (rE rs s)) rfl ?_)
         refine wN_g rfl (wN_mov (v := iv (rE rs s)) rfl ?_)
         refine wN_g rfl (wN_b_eql (a := (rE rs s)) (b := (rE rs s)) rfl rfl ?_)
         intro t7 g7; obtain rfl : t7 = true := by rw [← g7]; simp
         refine wN_pur (v := .bool true) rfl rfl ?_
         refine wN_mov (v := .bool true) rfl ?_
         refine wN_g rfl (wN_mov (v := .slice ba2 (blN us r) bc2) rfl ?_)
         refine wN_g rfl (wN_mov (v := .slice ua (blN us r) uc) rfl ?_)
         obtain ⟨H26, fH26, kH26⟩ := ints27_ok (kn := kn) (lo := lo) (H := H25) sl2 sU (Nat.le_refl _) (by omega)
         refine wN_g rfl (wN_callf (vs := [.slice ba2 (blN us r) bc2, .slice ua (blN us r) uc]) rfl (callX_args fH26) ?_)
         have mH26 := kH26.1
         have hk := hk.trans kH26
         have hr := hr.keep kH26 (by simp)
         have c5 := kH26.cl c5 (by simp)
         have c6 := kH26.cl c6 (by simp)
         have c8 := kH26.cl c8 (by simp)
         have hs := kH26.sl0 hs
         have hz := kH26.sl0 hz
         have so := kH26.sl0 so
         have stt := kH26.sl0 stt
         have sff := kH26.sl0 sff
         have sC := kH26.sl0 sC
         have sU := kH26.sl0 sU
         have sB := kH26.sl0 sB
         have sl2 := kH26.sl0 sl2
         have so2 := kH26.sl0 so2
         refine wN_pur (v := .bool true) rfl rfl ?_
         refine wN_mov (v := .bool true) rfl ?_
         refine wN_g rfl (wN_mov (v := iv (blE us r)) rfl ?_)
         refine wN_g rfl (wN_mov (v := iv (blE us r)) rfl ?_)
         refine wN_g rfl (wN_b_eql (a := (blE us r)) (b := (blE us r)) rfl rfl ?_)
         intro t8 g8; obtain rfl : t8 = true := by rw [← g8]; simp
         refine wN_pur (v := .bool true) rfl rfl ?_
         refine wN_mov (v := .bool true) rfl ?_
         refine wN_g rfl (wN_callf (vs := []) rfl (callX_known hkn) ?_)
         refine wN_pur (v := .bool true) rfl rfl ?_
         refine wN_mov (v := .bool true) rfl ?_
         refine wN_end ?_
         exact And.intro trivial (Exists.intro _ (And.intro rfl rfl))
   ·have g1 : (zs.length : Int) > 20 := of_decide_eq_true g1
    refine wN_pur (v := .bool true) rfl rfl ?_
    refine wN_end ?_
    refine condT ?_
    refine wN_seq ?_
    refine wN_callf (vs := []) rfl (callX_known hkn) ?_
    refine wN_mov (v := .bool true) rfl ?_
    refine wN_end ?_
    exact And.intro trivial (Exists.intro _ (And.intro rfl rfl))
  ·refine wN_g rfl (wN_callf (vs := [.slice sa us.length cap, iv 3000]) rfl (callX_args fH5) ?_)
   refine wN_pur (v := .bool true) rfl rfl ?_
   refine wN_mov (v := .bool true) rfl ?_
   refine wN_gs rfl ?_
   refine wN_gs rfl ?_
   refine wN_gs rfl ?_
   refine wN_pur (v := .bool true) rfl rfl ?_
   refine wN_end ?_
   refine condT ?_
   refine wN_seq ?_
   refine wN_callf (vs := []) rfl (callX_known hkn) ?_
   refine wN_mov (v := .bool true) rfl ?_
   refine wN_end ?_
   exact And.intro trivial (Exists.intro _ (And.intro rfl rfl))
 ·refine wN_mov (v := .bool true) rfl ?_
  refine wN_gs rfl ?_
  refine wN_gs rfl ?_
  refine wN_pur (v := .bool true) rfl rfl ?_
  refine wN_mov (v := .bool true) rfl ?_
  refine wN_gs rfl ?_
  refine wN_gs rfl ?_
  refine wN_gs rfl ?_
  refine wN_pur (v := .bool true) rfl rfl ?_
  refine wN_end ?_
  refine condT ?_
  refine wN_seq ?_
  refine wN_callf (vs := []) rfl (callX_known hkn) ?_
  refine wN_mov (v := .bool true) rfl ?_
  refine wN_end ?_
  exact And.intro trivial (Exists.intro _ (And.intro rfl rfl))
end
end Go.Ax

namespace Go.Ax
open Go Go.RowKit Go.Proofs Go.ChangeShapes Go.WideShapes Go.Deep

/-- A type whose cells are whole numbers. -/
def IntT (P : Program) (t : TypeId) : Prop := ∀ (H : Type) (enc : TypeId × Value → H) (w : World) (base : Nat) (spare : Nat → Bool) (held : Bool) (fuel : Nat) (cs : List Value) (x : DataW H × List MemPlace),
  DataW.trod enc P w base spare held fuel t cs = some x → cs.length = P.cellsOf t ∧ ∀ j, j < cs.length → ∃ n, cs[j]? = some (.int .i64 n)
theorem IntT.int {P : Program} {t : TypeId} (ht : P.underlying t = some (.int .i64)) (hc : P.cellsOf t = 1) : IntT P t := by
  intro H enc w base spare held fuel cs x h
  obtain ⟨n, rfl, _⟩ := DataW.trod_int ht h
  refine ⟨by rw [hc]; rfl, fun j hj => ⟨n, ?_⟩⟩
  have : j = 0 := by simp at hj; omega
  subst this; rfl
theorem IntT.struct {P : Program} {t : TypeId} {fs : Array Field} (ht : P.underlying t = some (.struct fs)) (hf : ∀ f ∈ fs.toList, IntT P f.type)
    (hcov : ((List.range (P.cellsOf t)).all fun j => fs.toList.any fun f => decide (f.offset ≤ j) && decide (j < f.offset + P.cellsOf f.type)) = true) : IntT P t := by
  intro H enc w base spare held fuel cs x h
  obtain ⟨xs, n, _, _, hlen, hxl, hg⟩ := DataW.trod_struct ht h
  refine ⟨hlen, fun j hj => ?_⟩
  have h1 := List.all_eq_true.1 hcov j (List.mem_range.2 (by omega))
  obtain ⟨f, hfm, h2⟩ := List.any_eq_true.1 h1
  simp only [Bool.and_eq_true, decide_eq_true_eq] at h2
  obtain ⟨i, hi, hfi⟩ := List.getElem_of_mem hfm
  have hfs : fs[i]? = some f := by
    rw [← Array.getElem?_toList, List.getElem?_eq_getElem hi, hfi]
  have hi2 : i < xs.length := by simpa [hxl] using hi
  have h3 := hg i f hfs
  rw [List.getElem?_eq_getElem hi2] at h3
  obtain ⟨h4, h5⟩ := hf f hfm _ _ _ _ _ _ _ _ _ h3
  obtain ⟨m, hm⟩ := h5 (j - f.offset) (by omega)
  refine ⟨m, ?_⟩
  rw [List.getElem?_take] at hm
  split at hm
  · rw [List.getElem?_drop, show f.offset + (j - f.offset) = j by omega] at hm; exact hm
  · cases hm

/-- A slice of rows of whole numbers, as it is given. -/
structure Given {α : Type} (w : World) (v : Value) (f : α → List Value) (l : List α) (x : Imp) : Prop where
  ok : ∀ (i : Nat) u, x.cs[i]? = some u → w.cell? ⟨x.blk, x.off + i, none⟩ = some u ∧ flat1 u = true
  cs : x.cs = l.flatMap f
  v : (v = .slice none 0 0 ∧ l = []) ∨ ∃ cap, v = .slice (some ⟨x.blk, x.off, none⟩) l.length cap ∧ l.length ≤ cap
theorem flat_get {α : Type} {f : α → List Value} {k : Nat} (hk : 0 < k) : ∀ {l : List α} (_ : ∀ x ∈ l, (f x).length = k) (i : Nat) (u : Value), (l.flatMap f)[i]? = some u → ∃ x, l[i / k]? = some x ∧ (f x)[i % k]? = some u
  | [], _, i, u, h => by simp at h
  | y :: r, hl, i, u, h => by
    have hy := hl y (List.mem_cons_self ..)
    rw [List.flatMap_cons, List.getElem?_append] at h
    split at h
    · rename_i q
      rw [hy] at q
      refine ⟨y, ?_, ?_⟩
      · rw [Nat.div_eq_of_lt q]; rfl
      · rw [Nat.mod_eq_of_lt q]; exact h
    · rename_i q
      rw [hy] at q h
      obtain ⟨x, h1, h2⟩ := flat_get hk (fun x hx => hl x (List.mem_cons_of_mem _ hx)) _ u h
      refine ⟨x, ?_, ?_⟩
      · rw [Nat.div_eq_sub_div hk (by omega)]; exact h1
      · rw [Nat.mod_eq_sub_mod (by omega)]; exact h2
theorem slice_given {H : Type} {enc : TypeId × Value → H} {P : Program} {w : World} {base b0 : Nat} {r : Reach} {held : Bool} {α : Type} (f : α → List Value) (mk : (Nat → Int) → α) (k : Nat) {t e : TypeId} {fuel : Nat} {v : Value} {x : DataW H × List MemPlace}
    (ht : P.underlying t = some (.slice e)) (hI : IntT P e) (hc : P.cellsOf e = k) (hk : 0 < k) (hmk : ∀ N : Nat → Int, f (mk N) = (List.range k).map fun j => Value.int .i64 (N j))
    (hok : Cell.okWide P w r b0 t v) (h : DataW.trod enc P w base (fun _ => true) held fuel t [v] = some x) : ∃ (l : List α) (y : Imp), Given w v f l y := by
  rcases open_slice ht h with ⟨h0, _⟩ | ⟨a, len, cap, m, n, D, Pl, hcs, hb, hl, hm, hmm, hx, hi⟩
  · cases h0
    exact ⟨[], ⟨0, 0, []⟩, fun i u e => by simp at e, rfl, .inl ⟨rfl, rfl⟩⟩
  · cases hcs
    obtain ⟨blk, off, spot⟩ := a
    have hs : spot = none := by
      unfold Cell.okWide at hok
      rw [ht] at hok
      unfold Cell.ok at hok
      simp only [ht] at hok
      exact hok.2.2.2.1
    subst hs
    simp only [if_true] at hmm
    subst hmm
    have hcell : ∀ i, i < len → ∀ j, j < k → ∃ n, w.cell? ⟨blk, off + (i * k + j), none⟩ = some (.int .i64 n) := by
      intro i hil j hj
      obtain ⟨cs', h1, h2⟩ := hi i (by omega)
      obtain ⟨h3, h4⟩ := hI _ _ _ _ _ _ _ _ _ h2
      obtain ⟨_, h5, h6⟩ := World.cells?_some h1
      obtain ⟨n, hn⟩ := h4 j (by omega)
      refine ⟨n, ?_⟩
      have h7 := h6 j (by omega)
      rw [hn, hc, add_add] at h7
      have e : (⟨blk, off, none⟩ : Addr).add (i * k + j) = ⟨blk, off + (i * k + j), none⟩ := by
        unfold Addr.add
        by_cases q : i * k + j = 0
        · simp [q]
        · simp
      rw [e] at h7
      exact h7
    refine ⟨(List.range len).map fun i => mk fun j => match w.cell? ⟨blk, off + (i * k + j), none⟩ with | some (.int _ n) => n | _ => 0, ⟨blk, off, _⟩, ?_, rfl, .inr ⟨m, by simp, by simpa using hl⟩⟩
    intro i u hu
    obtain ⟨y, h1, h2⟩ := flat_get hk (fun y hy => by
      obtain ⟨i, _, rfl⟩ := List.mem_map.1 hy
      rw [hmk]; simp) i u hu
    have hlt : i / k < len := by
      have := get_lt h1
      simpa using this
    rw [List.getElem?_map, List.getElem?_range hlt] at h1
    simp only [Option.map_some, Option.some.injEq] at h1
    subst h1
    have hj : i % k < k := Nat.mod_lt _ hk
    rw [hmk, List.getElem?_map, List.getElem?_range hj] at h2
    simp only [Option.map_some, Option.some.injEq] at h2
    obtain ⟨n, hn⟩ := hcell _ hlt _ hj
    rw [hn] at h2
    subst h2
    rw [Nat.div_add_mod' ] at hn
    exact ⟨hn, rfl⟩
theorem Given.rel {α : Type} {w : World} {v : Value} {f : α → List Value} {l : List α} {x : Imp} (g : Given w v f l x) {r : Ren} {H : Hp} {b : Nat} (hr : r b = some ⟨x.blk, x.off, none⟩) (hb : b < H.next) (hc : cellsOf H b = some x.cs) (hro : H.t.get b = some (.ro x.cs)) :
    ∃ a cap, VR r (.slice a l.length cap) v ∧ Sl H a l.length cap (l.flatMap f) ∧ ∀ b, a = some ⟨b, 0, none⟩ → H.t.get b = some (.ro (l.flatMap f)) := by
  rcases g.v with ⟨rfl, rfl⟩ | ⟨cap, rfl, hl⟩
  · exact ⟨none, 0, .nilSlice, .inl ⟨.inl rfl, rfl, rfl, rfl⟩, fun b e => by cases e⟩
  · refine ⟨some ⟨b, 0, none⟩, cap, ?_, .inr ⟨b, rfl, ⟨hb, by rw [hc, g.cs]⟩, hl⟩, fun b' e => by cases e; rw [hro, g.cs]⟩
    have := VR.slice (o := 0) (n := l.length) (c := cap) hr rfl hl
    simpa using this
end Go.Ax


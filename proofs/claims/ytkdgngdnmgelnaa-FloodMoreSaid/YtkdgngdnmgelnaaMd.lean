import Derived.Test.YtkdgngdnmgelnaaMc
import Derived.Test.YtkdgngdnmgelnaaChecked
import Derived.Test.YtkdgngdnmgelnaaAxO
import Derived.Deep.Slices
import Derived.Deep.Fields
import Derived.ChangeSame
set_option linter.all false
/-
  Flood: the best one (45) (written by program).
-/
namespace Go.Ax
open Go Go.RowKit Go.Proofs

noncomputable abbrev asg45 : Code := at_ Try.f45 [1, 1, 1, 0, 1, 0, 0]
noncomputable abbrev body45 : Code := at_ Try.f45 [1, 1, 1, 0, 1, 0, 1]
abbrev S45 (h : Nat) : Rg := [(4, pt h), (5, pt (h + 1)), (6, pt (h + 2)), (8, pt (h + 3)), (9, pt (h + 4))]
/-- the better one of what was found and the next one -/
def pick (p : List Nat → Bool) (cf : List Nat → List Nat → Int) (a : Option (List Nat)) (o : List Nat) : Option (List Nat) :=
  match a with
  | none => bif p o then some o else none
  | some b => bif p o && decide (cf o b < 0) then some o else some b
def Fh.bst (g : Fh) (p : List Nat → Bool) (cf : List Nat → List Nat → Int) (a : Option (List Nat)) (s : List (List Nat)) : Option (List Nat) := (s.filter fun o => g.can o (g.bn - 1)).foldl (pick p cf) a
abbrev Fh.sl (g : Fh) (o : List Nat) : Fs := g.st o (g.bn - 1)
def Fnd (g : Fh) (h m : Nat) (H : Hp) : Option (List Nat) → Prop
  | none => Cl H (h + 3) zc78
  | some o => ∃ sb bb, m ≤ sb ∧ m ≤ bb ∧ Cl H (h + 3) (cvc sb g.bn bb g.bn (g.sl o)) ∧ Cq H sb bb g.bn (g.sl o) (zi o) ∧ o.length = g.bn ∧ (∀ x ∈ o, x < g.bn) ∧ o.Nodup ∧ g.can o (g.bn - 1) = true
structure J45 (g : Fh) (fv cv : Value) (p : List Nat → Bool) (cf : List Nat → List Nat → Int) (H0 : Hp) (s : List (List Nat)) (H' : Hp) : Prop where
  acc : ∃ a, g.bst p cf a s = g.bst p cf none (perms g.bn) ∧ Fnd g H0.next (H0.next + 12) H' a ∧ Cl H' (H0.next + 4) [.bool a.isSome]
  c4 : Rd H' H0.next [fv]
  c5 : Rd H' (H0.next + 1) [cv]
  c6 : Cl H' (H0.next + 2) zc78
  lp : Lp Try.prog H' (H0.next + 6) .ready none 30 (S45 H0.next) [12] asg45 body45 (H0.next + 5)
  dfr : H'.t.get (H0.next + 5) = some (.dfr (some []))
  ll : H0.next + 7 ≤ H'.next
  kp : Keep H0 H' []
theorem Fnd.keep {g : Fh} {h m : Nat} {H H1 : Hp} {a : Option (List Nat)} {W : List Nat} (q : Fnd g h m H a) (k : Keep H H1 W) (h1 : h + 3 ∉ W) (h2 : ∀ b ∈ W, b < m) : Fnd g h m H1 a := by
  cases a with
  | none => exact k.cl q h1
  | some o =>
    obtain ⟨sb, bb, e1, e2, c, cq, r⟩ := q
    exact ⟨sb, bb, e1, e2, k.cl c h1, cq.keep k (fun x => by have := h2 _ x; omega) (fun x => by have := h2 _ x; omega), r⟩
theorem J45.keep {g : Fh} {fv cv : Value} {p : List Nat → Bool} {cf : List Nat → List Nat → Int} {H0 : Hp} {s : List (List Nat)} {H1 H2 : Hp} (j : J45 g fv cv p cf H0 s H1) {W : List Nat} (k : Keep H1 H2 W) (hW : ∀ b ∈ W, H0.next + 7 ≤ b ∧ b < H0.next + 12) : J45 g fv cv p cf H0 s H2 := by
  have nw : ∀ x, x < H0.next + 7 → x ∉ W := fun x hx q => by have := hW x q; omega
  have ll := j.ll
  obtain ⟨a, e, fd, fo⟩ := j.acc
  exact ⟨⟨a, e, fd.keep k (nw _ (by omega)) (fun b q => (hW b q).2), k.cl fo (nw _ (by omega))⟩, k.rd j.c4 (nw _ (by omega)), k.rd j.c5 (nw _ (by omega)), k.cl j.c6 (nw _ (by omega)), j.lp.keep k (by omega) (nw _ (by omega)), by rw [k.2 _ (by omega) (nw _ (by omega))]; exact j.dfr, Nat.le_trans j.ll k.1, j.kp.new k (fun b q => .inr (by have := hW b q; omega))⟩
theorem bst_skip {g : Fh} {p : List Nat → Bool} {cf : List Nat → List Nat → Int} {a : Option (List Nat)} {o : List Nat} {s : List (List Nat)} (h : g.can o (g.bn - 1) = false) : g.bst p cf a (o :: s) = g.bst p cf a s := by
  unfold Fh.bst; rw [List.filter_cons_of_neg (by simp [h])]
theorem bst_step {g : Fh} {p : List Nat → Bool} {cf : List Nat → List Nat → Int} {a : Option (List Nat)} {o : List Nat} {s : List (List Nat)} (h : g.can o (g.bn - 1) = true) : g.bst p cf a (o :: s) = g.bst p cf (pick p cf a o) s := by
  unfold Fh.bst; rw [List.filter_cons_of_pos (by simp [h])]; rfl
/-- what is asked of the two functions -/
structure Fits (kn : FuncId → Option Bool) (lo : Nat) (g : Fh) (f1 : Fn) (a1 : Array Value) (p : List Nat → Bool) : Prop where
  h : ∀ H o sb bb, lo ≤ H.next → o.length = g.bn → Cq H sb bb g.bn (g.sl o) (zi o) → ∃ H', CallsX Try.prog kn lo (.fn f1 #[]) (a1.toList ++ [cvv sb g.bn bb g.bn (g.sl o)]) H (.bool (p o)) H' ∧ Keep H H' []
structure Cmps (kn : FuncId → Option Bool) (lo : Nat) (g : Fh) (f2 : Fn) (a2 : Array Value) (cf : List Nat → List Nat → Int) : Prop where
  h : ∀ H o o2 sb bb sb2 bb2, lo ≤ H.next → Cq H sb bb g.bn (g.sl o) (zi o) → Cq H sb2 bb2 g.bn (g.sl o2) (zi o2) → ∃ H', CallsX Try.prog kn lo (.fn f2 #[]) (a2.toList ++ [cvv sb g.bn bb g.bn (g.sl o), cvv sb2 g.bn bb2 g.bn (g.sl o2)]) H (iv (cf o o2)) H' ∧ Keep H H' []
section
variable {kn : FuncId → Option Bool} {lo : Nat} {H : Hp}

set_option maxRecDepth 100000 in
theorem round45 {g : Fh} {f1 f2 : Fn} {a1 a2 : Array Value} {p : List Nat → Bool} {cf : List Nat → List Nat → Int} {H0 : Hp} (hf : Fits kn lo g f1 a1 p) (hc : Cmps kn lo g f2 a2 cf) (hlo : lo ≤ H0.next) {o : List Nat} {s : List (List Nat)} {sb bb : Nat} (ho1 : o.length = g.bn) (ho2 : ∀ x ∈ o, x < g.bn) (ho3 : o.Nodup) (hcan : g.can o (g.bn - 1) = true)
    (j : J45 g (.func f1 a1 #[]) (.func f2 a2 #[]) p cf H0 (o :: s) H) (hsb : H0.next + 12 ≤ sb) (hbb : H0.next + 12 ≤ bb) (hnx : H0.next + 12 ≤ H.next) (cq : Cq H sb bb g.bn (g.sl o) (zi o)) :
    ∃ H', CallsX Try.prog kn lo (.fn (.yield (H0.next + 6)) #[]) [cvv sb g.bn bb g.bn (g.sl o)] H (.bool true) H' ∧ Keep H H' [H0.next + 3, H0.next + 4, H0.next + 6] ∧ J45 g (.func f1 a1 #[]) (.func f2 a2 #[]) p cf H0 s H' := by
  have L1 : low Try.prog 30 asg45 = some R45x1 := N45 ▸ L45x1
  have L2 : low Try.prog 30 body45 = some R45x2 := N45 ▸ L45x2
  have key := yield_ok (kn := kn) (P := Try.prog) (lo := lo) (S1 := (12, cvv sb g.bn bb g.bn (g.sl o)) :: S45 H0.next) (args := [cvv sb g.bn bb g.bn (g.sl o)]) (Q := fun t H' => t = true ∧ Keep H H' [H0.next + 3, H0.next + 4, H0.next + 6] ∧ J45 g (.func f1 a1 #[]) (.func f2 a2 #[]) p cf H0 s H') j.lp (by omega) (by rfl) rfl (wC_sound true _ L1 ?_)
  · obtain ⟨t, H', h, rfl, q⟩ := key; exact ⟨H', h, q⟩
  have ll := j.ll
  refine wN_reg ?_
  refine wN_alc ?_
  intro H1 k1 n1 c1
  refine wN_sta (b := H.next) (o := 0) (v := cvv sb g.bn bb g.bn (g.sl o)) rfl rfl c1 (by omega) rfl rfl (by simp) ?_
  intro H2 k2 n2 c2
  have c2 : Cl H2 H.next (cvc sb g.bn bb g.bn (g.sl o)) := c2
  refine wN_end ?_
  have k02 : Keep H H2 [] := k1.new k2 (fun b hb => by simp at hb; omega)
  have m2 := k02.1
  refine And.intro trivial (And.intro (j.lp.keep k02 (by omega) (by simp)) ?_)
  intro H3 s3
  have k3 := s3.keep
  have hn3 : H3.next = H2.next := s3.1
  have lp3 := s3.lp (j.lp.keep k02 (by omega) (by simp))
  have nl : ∀ x, x ≠ H0.next + 6 → x ∉ [H0.next + 6] := fun x hx => by simpa using hx
  obtain ⟨a, ea, fd, fo⟩ := j.acc
  have k03 : Keep H H3 [H0.next + 6] := (k02.mono (by simp)).trans k3
  have fd := fd.keep k03 (nl _ (by omega)) (fun b q => by simp at q; omega)
  have fo := k03.cl fo (nl _ (by omega))
  have c4 := k03.rd j.c4 (nl _ (by omega))
  have c5 := k03.rd j.c5 (nl _ (by omega))
  have c6 := k03.cl j.c6 (nl _ (by omega))
  have df := (show H3.t.get (H0.next + 5) = some (.dfr (some [])) by rw [k03.2 _ (by omega) (nl _ (by omega))]; exact j.dfr)
  have c10 := k3.cl c2 (nl _ (by omega))
  have cq := cq.keep k03 (nl _ (by omega)) (nl _ (by omega))
  have kp := j.kp.new k03 (fun b q => .inr (by simp at q; omega))
  rw [bst_step hcan] at ea
  refine wC_sound true _ L2 ?_
  refine wN_seq ?_
  refine wN_ld (b := H0.next) (o := 0) (v := .func f1 a1 #[]) rfl c4 rfl ?_
  refine wN_lda (b := H.next) (o := 0) rfl c10.rd (show row 10 _ 0 = some (cvc sb g.bn bb g.bn (g.sl o)) from rfl) ?_
  obtain ⟨H4, f4, k4⟩ := hf.h H3 o sb bb (by omega) ho1 cq
  refine wN_callf (vs := a1.toList ++ [cvv sb g.bn bb g.bn (g.sl o)]) rfl f4 ?_
  have m4 := k4.1
  have k04 := k03.trans (k4.mono (by simp))
  have fd := fd.keep k4 (by simp) (by simp)
  have fo := k4.cl fo (by simp)
  have c4 := k4.rd c4 (by simp)
  have c5 := k4.rd c5 (by simp)
  have c6 := k4.cl c6 (by simp)
  have df := (show H4.t.get (H0.next + 5) = some (.dfr (some [])) by rw [k4.2 _ (by omega) (by simp)]; exact df)
  have c10 := k4.cl c10 (by simp)
  have cq := cq.keep k4 (by simp) (by simp)
  have lp3 := lp3.keep k4 (by omega) (by simp)
  have kp := kp.trans k4
  -- nothing is written
  have no : ∀ H5, Keep H4 H5 [] → pick p cf a o = a → ∀ H6, SetLp H5 (H0.next + 6) .ready none H6 → (true = true ∧ Keep H H6 [H0.next + 3, H0.next + 4, H0.next + 6] ∧ J45 g (.func f1 a1 #[]) (.func f2 a2 #[]) p cf H0 s H6) := by
    intro H5 k5 ep H6 s6
    have k6 := s6.keep
    have hn6 : H6.next = H5.next := s6.1
    have m5 := k5.1
    have k46 : Keep H4 H6 [H0.next + 6] := (k5.mono (by simp)).trans k6
    rw [ep] at ea
    exact ⟨rfl, (k04.trans k46).mono (by simp), ⟨a, ea, fd.keep k46 (nl _ (by omega)) (fun b q => by simp at q; omega), k46.cl fo (nl _ (by omega))⟩, k46.rd c4 (nl _ (by omega)), k46.rd c5 (nl _ (by omega)), k46.cl c6 (nl _ (by omega)), s6.lp (lp3.keep k5 (by omega) (by simp)), by rw [k46.2 _ (by omega) (nl _ (by omega))]; exact df, by omega, kp.new k46 (fun b q => .inr (by simp at q; omega))⟩
  -- it is the best one by now
  have yes : ∀ H5, Keep H4 H5 [] → pick p cf a o = some o → ∀ H6, Keep H5 H6 [H0.next + 3] → Cl H6 (H0.next + 3) (cvc sb g.bn bb g.bn (g.sl o)) → ∀ H7, Keep H6 H7 [H0.next + 4] → Cl H7 (H0.next + 4) [.bool true] → Lp Try.prog H7 (H0.next + 6) .busy none 30 (S45 H0.next) [12] asg45 body45 (H0.next + 5) ∧ ∀ H8, SetLp H7 (H0.next + 6) .ready none H8 → (true = true ∧ Keep H H8 [H0.next + 3, H0.next + 4, H0.next + 6] ∧ J45 g (.func f1 a1 #[]) (.func f2 a2 #[]) p cf H0 s H8) := by
    intro H5 k5 ep H6 k6 d6 H7 k7 d7
    have m5 := k5.1
    have m6 := k6.1
    have m7 := k7.1
    have n3' : ∀ x, x ≠ H0.next + 3 → x ∉ [H0.next + 3] := fun x hx => by simpa using hx
    have n4' : ∀ x, x ≠ H0.next + 4 → x ∉ [H0.next + 4] := fun x hx => by simpa using hx
    have lp7 := ((lp3.keep k5 (by omega) (by simp)).keep k6 (by omega) (n3' _ (by omega))).keep k7 (by omega) (n4' _ (by omega))
    refine ⟨lp7, fun H8 s8 => ?_⟩
    have k8 := s8.keep
    have hn8 : H8.next = H7.next := s8.1
    have k48 : Keep H4 H8 [H0.next + 3, H0.next + 4, H0.next + 6] := ((k5.mono (by simp)).trans (k6.mono (by simp))).trans ((k7.mono (by simp)).trans (k8.mono (by simp)))
    have nn : ∀ x, x ≠ H0.next + 3 → x ≠ H0.next + 4 → x ≠ H0.next + 6 → x ∉ [H0.next + 3, H0.next + 4, H0.next + 6] := fun x h1 h2 h3 => by simp; omega
    rw [ep] at ea
    exact ⟨rfl, (k04.mono (by simp)).trans k48, ⟨some o, ea, ⟨sb, bb, hsb, hbb, k8.cl (k7.cl d6 (n4' _ (by omega))) (nl _ (by omega)), cq.keep k48 (nn _ (by omega) (by omega) (by omega)) (nn _ (by omega) (by omega) (by omega)), ho1, ho2, ho3, hcan⟩, k8.cl d7 (nl _ (by omega))⟩,
      k48.rd c4 (nn _ (by omega) (by omega) (by omega)), k48.rd c5 (nn _ (by omega) (by omega) (by omega)), k48.cl c6 (nn _ (by omega) (by omega) (by omega)), s8.lp lp7, by rw [k48.2 _ (by omega) (nn _ (by omega) (by omega) (by omega))]; exact df, by omega, kp.new k48 (fun b q => .inr (by simp at q; omega))⟩
  cases hp : p o
  · refine wN_mov (v := .bool false) rfl ?_
    refine wN_gs rfl ?_
    refine wN_gs rfl ?_
    refine wN_gs rfl ?_
    refine wN_gu rfl ?_
    refine wN_gu rfl ?_
    refine wN_gu rfl ?_
    refine wN_gu rfl ?_
    refine wN_gu rfl ?_
    refine wN_gs rfl ?_
    refine wN_pur (v := .bool false) rfl rfl ?_
    refine wN_end ?_
    refine condF ?_
    refine And.intro lp3 (no H4 (Keep.refl _ _) ?_)
    unfold pick; rw [hp]; cases a <;> rfl
  · refine wN_mov (v := .bool true) rfl ?_
    cases a with
    | none =>
      refine wN_g rfl (wN_ld (b := H0.next + 4) (o := 0) (v := .bool false) rfl fo.rd rfl ?_)
      refine wN_g rfl (wN_pur (v := .bool true) rfl rfl ?_)
      refine wN_g rfl (wN_mov (v := .bool true) rfl ?_)
      refine wN_gs rfl ?_
      refine wN_gs rfl ?_
      refine wN_gs rfl ?_
      refine wN_gs rfl ?_
      refine wN_gs rfl ?_
      refine wN_g rfl (wN_pur (v := .bool true) rfl rfl ?_)
      refine wN_pur (v := .bool true) rfl rfl ?_
      refine wN_end ?_
      refine condT ?_
      first | refine wN_reg ?_ | skip
      refine wN_lda (b := H.next) (o := 0) rfl c10.rd (show row 10 _ 0 = some (cvc sb g.bn bb g.bn (g.sl o)) from rfl) ?_
      have fd : Cl H4 (H0.next + 3) zc78 := fd
      refine wN_sta (b := H0.next + 3) (o := 0) (v := cvv sb g.bn bb g.bn (g.sl o)) rfl rfl fd (by omega) rfl rfl (by simp) ?_
      intro H6 k6 n6 d6
      have d6 : Cl H6 (H0.next + 3) (cvc sb g.bn bb g.bn (g.sl o)) := d6
      refine wN_st (b := H0.next + 4) (o := 0) (v := .bool true) rfl rfl (k6.cl fo (by simp)) (by omega) rfl rfl (by simp) ?_
      intro H7 k7 n7 d7
      have d7 : Cl H7 (H0.next + 4) [.bool true] := d7
      refine wN_end ?_
      exact yes H4 (Keep.refl _ _) (by unfold pick; rw [hp]; rfl) H6 k6 d6 H7 k7 d7
    | some o2 =>
      obtain ⟨sb2, bb2, e1, e2, fc, cq2, r2⟩ := id fd
      refine wN_g rfl (wN_ld (b := H0.next + 4) (o := 0) (v := .bool true) rfl fo.rd rfl ?_)
      refine wN_g rfl (wN_pur (v := .bool false) rfl rfl ?_)
      refine wN_g rfl (wN_mov (v := .bool false) rfl ?_)
      refine wN_g rfl (wN_ld (b := H0.next + 1) (o := 0) (v := .func f2 a2 #[]) rfl c5 rfl ?_)
      refine wN_g rfl (wN_lda (b := H.next) (o := 0) rfl c10.rd (show row 10 _ 0 = some (cvc sb g.bn bb g.bn (g.sl o)) from rfl) ?_)
      refine wN_g rfl (wN_lda (b := H0.next + 3) (o := 0) rfl fc.rd (show row 10 _ 0 = some (cvc sb2 g.bn bb2 g.bn (g.sl o2)) from rfl) ?_)
      obtain ⟨H5, f5, k5⟩ := hc.h H4 o o2 sb bb sb2 bb2 (by omega) cq cq2
      refine wN_g rfl (wN_callf (vs := a2.toList ++ [cvv sb g.bn bb g.bn (g.sl o), cvv sb2 g.bn bb2 g.bn (g.sl o2)]) rfl f5 ?_)
      have m5 := k5.1
      refine wN_g rfl (wN_b_lss (a := cf o o2) (b := 0) rfl rfl ?_)
      intro t ht; cases t
      · refine wN_g rfl (wN_pur (v := .bool false) rfl rfl ?_)
        refine wN_pur (v := .bool false) rfl rfl ?_
        refine wN_end ?_
        refine condF ?_
        exact And.intro (lp3.keep k5 (by omega) (by simp)) (no H5 k5 (by unfold pick; rw [hp]; simp only [ht, Bool.and_false, cond_false]))
      · refine wN_g rfl (wN_pur (v := .bool true) rfl rfl ?_)
        refine wN_pur (v := .bool true) rfl rfl ?_
        refine wN_end ?_
        refine condT ?_
        first | refine wN_reg ?_ | skip
        refine wN_lda (b := H.next) (o := 0) rfl (k5.cl c10 (by simp)).rd (show row 10 _ 0 = some (cvc sb g.bn bb g.bn (g.sl o)) from rfl) ?_
        refine wN_sta (b := H0.next + 3) (o := 0) (v := cvv sb g.bn bb g.bn (g.sl o)) rfl rfl (k5.cl fc (by simp)) (by omega) rfl rfl (by simp) ?_
        intro H6 k6 n6 d6
        have d6 : Cl H6 (H0.next + 3) (cvc sb g.bn bb g.bn (g.sl o)) := d6
        refine wN_st (b := H0.next + 4) (o := 0) (v := .bool true) rfl rfl (k6.cl (k5.cl fo (by simp)) (by simp)) (by omega) rfl rfl (by simp) ?_
        intro H7 k7 n7 d7
        have d7 : Cl H7 (H0.next + 4) [.bool true] := d7
        refine wN_end ?_
        exact yes H5 k5 (by unfold pick; rw [hp]; simp only [ht, Bool.and_self, cond_true]) H6 k6 d6 H7 k7 d7
end
end Go.Ax

/-
  Flood: the best one (45), the least one (43) (written by program).
-/
namespace Go.Ax
open Go Go.RowKit Go.Proofs

theorem res_ctb {P : Program} {S : Rg} {H : Hp} {a b x n : Nat} {t : TypeId} {cs : List Value} {v : Value} (ha : lk S a = some (.pointer (some ⟨x, 0, none⟩))) (hb : lk S b = some v) (h1 : isAggB P t = some true) (hi : ∃ i, P.info? t = some i ∧ i.size = n) (hl : cs.length = n) (h : Cl H x cs) :
    resS P S H [.cell a t, .tmp b] = some [.agg cs.toArray, v] := by
  simp only [resS, ha, hb, load_agg h1 hi h.rd hl]
/-- what best returns -/
def Bq (g : Fh) (f : Nat) (w : Value) (H : Hp) : Option (List Nat) → Prop
  | none => w = .tuple #[.agg zc78.toArray, .bool false]
  | some o => ∃ sb bb, w = .tuple #[cvv sb g.bn bb g.bn (g.sl o), .bool true] ∧ f ≤ sb ∧ f ≤ bb ∧ Cq H sb bb g.bn (g.sl o) (zi o) ∧ o.length = g.bn ∧ (∀ x ∈ o, x < g.bn) ∧ o.Nodup ∧ g.can o (g.bn - 1) = true
section
variable {kn : FuncId → Option Bool} {lo : Nat} {H : Hp}

set_option maxRecDepth 100000 in
theorem best_ok {g : Fh} {f bh : Nat} {ka : Option Addr} {kc : Nat} {f1 f2 : Fn} {a1 a2 : Array Value} {p : List Nat → Bool} {cf : List Nat → List Nat → Int} (v : g.Vd) (hat : g.At f H) (hks : Sl H ka g.bn kc (spc g.ws)) (hbh : Rd H bh (g.vw ka kc)) (hlo : lo ≤ H.next) (hf : Fits kn lo g f1 a1 p) (hc : Cmps kn lo g f2 a2 cf) :
    ∃ w H', FnX Try.prog kn lo 45 [.func (.func 60) #[] #[pt bh], .func f1 a1 #[], .func f2 a2 #[]] H w H' ∧ Keep H H' [] ∧ Bq g H.next w H' (g.bst p cf none (perms g.bn)) := by
  refine fnX_lowR (kn := kn) (lo := lo) (H := H) (args := [.func (.func 60) #[] #[pt bh], .func f1 a1 #[], .func f2 a2 #[]]) (Q := fun w H' => Keep H H' [] ∧ Bq g H.next w H' (g.bst p cf none (perms g.bn))) Try.func45 B45 N45 Z45 L45 (by simp) ?_
  have vn := v.n
  have hbl := hbh.lt
  have fk : ∀ x, ka = some ⟨x, 0, none⟩ → x < H.next := hks.old
  intro y hy
  refine TriR.lowR hy ?_
  refine wN_reg ?_
  refine wN_box (v := .func f1 a1 #[]) rfl ?_
  intro H1 k1 n1 c1
  have c1 : Cl H1 H.next [.func f1 a1 #[]] := c1
  refine wN_box (v := .func f2 a2 #[]) rfl ?_
  intro H2 k2 n2 c2
  have c2 : Cl H2 H1.next [.func f2 a2 #[]] := c2
  refine wN_alc ?_
  intro H3 k3 n3 c3
  have c3 : Cl H3 H2.next zc78 := c3
  refine wN_mov (v := .bool false) rfl ?_
  refine wN_end ?_
  intro y hy
  refine TriR.lowR hy ?_
  refine wN_reg ?_
  refine wN_alc ?_
  intro H4 k4 n4 c4
  have c4 : Cl H4 H3.next zc78 := c4
  refine wN_end ?_
  intro y hy
  refine TriR.lowR hy ?_
  refine wN_reg ?_
  refine wN_alc ?_
  intro H5 k5 n5 c5
  refine wN_st (b := H4.next) (o := 0) (v := .bool false) rfl rfl c5 (by omega) rfl rfl (by simp) ?_
  intro H6 k6 n6 c6
  have c6 : Cl H6 H4.next [.bool false] := c6
  refine wN_end ?_
  intro y hy
  refine TriR.lowL hy ?_
  intro z hz
  refine TriR.lowR hz ?_
  refine wN_reg ?_
  refine wN_mov (v := .func (.func 60) #[] #[pt bh]) rfl ?_
  refine wN_end ?_
  intro y hy
  refine TriR.lowB hy ?_
  rw [E45_1]
  refine TriR.range rfl ?_
  intro H7 k7 n7 hdf hlp
  have e6 : H6.next = H.next + 5 := by omega
  have hlp : Lp Try.prog H7 (H6.next + 1) .ready none 30 [(4, pt H.next), (5, pt H1.next), (6, pt H2.next), (8, pt H3.next), (9, pt H4.next)] [12] asg45 body45 H6.next := hlp.weak ⟨rfl, rfl, rfl, rfl, rfl, trivial⟩
  rw [show H1.next = H.next + 1 by omega, show H2.next = H.next + 2 by omega, show H3.next = H.next + 3 by omega, show H4.next = H.next + 4 by omega, e6] at hlp
  rw [e6] at hdf n7
  have k57 : Keep H5 H7 [H4.next] := k6.trans (k7.mono (by simp))
  have k47 : Keep H4 H7 [] := k5.new k57 (fun b hb => by simp at hb; omega)
  have k37 : Keep H3 H7 [] := k4.trans k47
  have k27 : Keep H2 H7 [] := k3.trans k37
  have k17 : Keep H1 H7 [] := k2.trans k27
  have k07 : Keep H H7 [] := k1.trans k17
  have d1 := k17.cl c1 (by simp)
  have d2 := k27.cl c2 (by simp)
  have d3 := k37.cl c3 (by simp)
  have d4 := k47.cl c4 (by simp)
  have d6 := k7.cl c6 (by simp)
  rw [show H1.next = H.next + 1 by omega] at d2
  rw [show H2.next = H.next + 2 by omega] at d3
  rw [show H3.next = H.next + 3 by omega] at d4
  rw [show H4.next = H.next + 4 by omega] at d6
  have j0 : J45 g (.func f1 a1 #[]) (.func f2 a2 #[]) p cf H (perms g.bn) H7 := ⟨⟨none, rfl, d4, d6⟩, d1.rd, d2.rd, d3, hlp, hdf, by omega, k07⟩
  have u : U60 g f H.next bh H7.next ka (J45 g (.func f1 a1 #[]) (.func f2 a2 #[]) p cf H) [H.next + 3, H.next + 4, H.next + 6] := ⟨hat.le, by omega, hbl, fk, fun b hb => by simp at hb; omega, fun s H1' H2' W j kk hW => j.keep kk (fun b q => by have := hW b q; omega), fun o s H1' j hcan => by
    obtain ⟨a, e, r⟩ := j.acc
    rw [bst_skip hcan] at e
    exact { j with acc := ⟨a, e, r⟩ }⟩
  obtain ⟨H8, f8, j8⟩ := iter60_ok (kn := kn) (lo := lo) (H := H7) (l := H.next + 6) (kc := kc) u v (hat.keep k07 (by simp)) (k07.sl0 hks) (k07.rd hbh (by simp)) (by omega) j0
    (fun o s H1' sb bb ho1 ho2 ho3 hcan j q1 q2 q3 cq => round45 hf hc hlo ho1 ho2 ho3 hcan j (by omega) (by omega) (by omega) cq)
  refine Exists.intro _ (Exists.intro H8 (And.intro (callX_func rfl (by rw [e6]; simpa using f8)) ?_))
  have lp8 : Lp Try.prog H8 (H6.next + 1) .ready none 30 (S45 H.next) [12] asg45 body45 H6.next := by rw [e6]; exact j8.lp
  refine ⟨.ready, none, _, lp8, by simp, ?_⟩
  intro H9 s9
  have k9 := s9.keep
  have hn9 : H9.next = H8.next := s9.1
  rw [e6] at k9
  have ll := j8.ll
  have nl : ∀ x, x ≠ H.next + 6 → x ∉ [H.next + 5 + 1] := fun x hx => by simp; omega
  have d9 : H9.t.get H6.next = some (.dfr (some [])) := by rw [e6, k9.2 _ (by omega) (nl _ (by omega))]; exact j8.dfr
  obtain ⟨a, ea, fd, fo⟩ := j8.acc
  have ea : a = g.bst p cf none (perms g.bn) := ea
  have fd := fd.keep k9 (nl _ (by omega)) (fun b q => by simp at q; omega)
  have fo := k9.cl fo (nl _ (by omega))
  have r6 := k9.cl j8.c6 (nl _ (by omega))
  have kp9 : Keep H H9 [] := j8.kp.new k9 (fun b q => .inr (by simp at q; omega))
  rw [← ea]
  have e2 : H2.next = H.next + 2 := by omega
  have e3 : H3.next = H.next + 3 := by omega
  have e4 : H4.next = H.next + 4 := by omega
  rw [← e4] at fo
  rw [← e2] at r6
  refine wD_seq ?_
  cases a with
  | none =>
    have fd : Cl H9 (H.next + 3) zc78 := fd
    rw [← e3] at fd
    refine wD_lda (b := H3.next) (o := 0) (q := zc78) rfl fd.rd rfl ?_
    refine wD_ld (b := H4.next) (o := 0) (v := .bool false) rfl fo.rd rfl ?_
    refine wD_sta (b := H2.next) (o := 0) (v := .agg zc78.toArray) rfl rfl r6 (by omega) rfl rfl (by simp) ?_
    intro H10 k10 n10 c10
    have c10 : Cl H10 H2.next zc78 := c10
    refine wD_mov (v := .bool false) rfl ?_
    refine wD_end (by repeat' first | exact True.intro | exact (fun h => h) | refine And.intro ?_ ?_ | (intro h; have h : (_ : Nat) = _ := h; omega)) ?_
    have kpA : Keep H H10 [] := kp9.new k10 (fun b q => .inr (by simp at q; omega))
    refine And.intro trivial (Or.inr ⟨H6.next, rfl, by omega, by rw [k10.2 _ (by omega) (by simp; omega)]; exact d9, fun H11 hn11 hs11 => ?_⟩)
    have k11 : Keep H10 H11 [H6.next] := ⟨by omega, fun b _ hb => hs11 b (by simpa using hb)⟩
    exact ⟨_, res_ctb (x := H2.next) rfl rfl a78 i78s rfl (k11.cl c10 (by simp; omega)), kpA.new k11 (fun b q => .inr (by simp at q; omega)), rfl⟩
  | some o =>
    obtain ⟨sb, bb, q1, q2, fc, cq, rest⟩ := fd
    rw [← e3] at fc
    refine wD_lda (b := H3.next) (o := 0) (q := cvc sb g.bn bb g.bn (g.sl o)) rfl fc.rd rfl ?_
    refine wD_ld (b := H4.next) (o := 0) (v := .bool true) rfl fo.rd rfl ?_
    refine wD_sta (b := H2.next) (o := 0) (v := cvv sb g.bn bb g.bn (g.sl o)) rfl rfl r6 (by omega) rfl rfl (by simp) ?_
    intro H10 k10 n10 c10
    have c10 : Cl H10 H2.next (cvc sb g.bn bb g.bn (g.sl o)) := c10
    refine wD_mov (v := .bool true) rfl ?_
    refine wD_end (by repeat' first | exact True.intro | exact (fun h => h) | refine And.intro ?_ ?_ | (intro h; have h : (_ : Nat) = _ := h; omega)) ?_
    have kpA : Keep H H10 [] := kp9.new k10 (fun b q => .inr (by simp at q; omega))
    refine And.intro trivial (Or.inr ⟨H6.next, rfl, by omega, by rw [k10.2 _ (by omega) (by simp; omega)]; exact d9, fun H11 hn11 hs11 => ?_⟩)
    have k11 : Keep H10 H11 [H6.next] := ⟨by omega, fun b _ hb => hs11 b (by simpa using hb)⟩
    exact ⟨_, res_ctb (x := H2.next) rfl rfl a78 i78s rfl (k11.cl c10 (by simp; omega)), kpA.new k11 (fun b q => .inr (by simp at q; omega)), sb, bb, rfl, by omega, by omega, (cq.keep k10 (by simp; omega) (by simp; omega)).keep k11 (by simp; omega) (by simp; omega), rest⟩
end
end Go.Ax

/-
  Flood: the least one (43), Best (21), Least (23) (written by program).
-/
namespace Go.Ax
open Go Go.RowKit Go.Proofs

def Fh.cp (g : Fh) (o o2 : List Nat) : Int := cpB (g.sl o) (g.sl o2) (zi o) (zi o2)
def Fh.cw (g : Fh) (o o2 : List Nat) : Int := cwB (g.sl o) (g.sl o2) (zi o) (zi o2)
def Fh.ens (g : Fh) (o : List Nat) : Bool := decide ((g.sl o).t2 ≤ g.reserve)
/-- the order that takes the least water; the fastest one of those that have enough -/
def Fh.lst (g : Fh) : Option (List Nat) := g.bst (fun _ => true) g.cw none (perms g.bn)
def Fh.fst (g : Fh) : Option (List Nat) := g.bst g.ens g.cp none (perms g.bn)
def Fh.be (g : Fh) : Int := bif g.ok then (match g.lst with | none => 4 | some o => bif g.ens o then 0 else 10) else 1
def Fh.le (g : Fh) : Int := bif g.ok then (match g.lst with | none => 4 | some _ => 0) else 1
theorem fold_some {p : List Nat → Bool} {cf : List Nat → List Nat → Int} : ∀ (s : List (List Nat)) (b : List Nat), ∃ c, s.foldl (pick p cf) (some b) = some c
  | [], b => ⟨b, rfl⟩
  | o :: s, b => by
    simp only [List.foldl_cons]
    have e : pick p cf (some b) o = some b ∨ pick p cf (some b) o = some o := by
      cases h : (p o && decide (cf o b < 0))
      · exact .inl (by show (bif (p o && decide (cf o b < 0)) then some o else some b) = some b; rw [h]; rfl)
      · exact .inr (by show (bif (p o && decide (cf o b < 0)) then some o else some b) = some o; rw [h]; rfl)
    rcases e with e | e
    · rw [e]; exact fold_some s b
    · rw [e]; exact fold_some s o
theorem fold_none {p : List Nat → Bool} {cf : List Nat → List Nat → Int} : ∀ (s : List (List Nat)), s.foldl (pick p cf) none = none → ∀ o ∈ s, p o = false
  | [], _, o, ho => by cases ho
  | o :: s, h, x, hx => by
    simp only [List.foldl_cons] at h
    cases hp : p o
    · rw [show pick p cf none o = none by unfold pick; rw [hp]; rfl] at h
      rcases List.mem_cons.mp hx with rfl | hx
      · exact hp
      · exact fold_none s h x hx
    · rw [show pick p cf none o = some o by unfold pick; rw [hp]; rfl] at h
      obtain ⟨c, e⟩ := fold_some (p := p) (cf := cf) s o
      rw [e] at h; cases h
theorem fold_in {p : List Nat → Bool} {cf : List Nat → List Nat → Int} : ∀ (s : List (List Nat)) (a : Option (List Nat)) (c : List Nat), s.foldl (pick p cf) a = some c → (c ∈ s ∧ p c = true) ∨ a = some c
  | [], a, c, h => .inr h
  | o :: s, a, c, h => by
    simp only [List.foldl_cons] at h
    rcases fold_in s _ c h with ⟨h1, h2⟩ | h1
    · exact .inl ⟨List.mem_cons_of_mem _ h1, h2⟩
    · unfold pick at h1
      cases a with
      | none =>
        cases hp : p o
        · simp [hp] at h1
        · simp [hp] at h1; subst h1; exact .inl ⟨by simp, hp⟩
      | some b =>
        simp only at h1
        cases hq : (p o && decide (cf o b < 0))
        · rw [hq] at h1; exact .inr h1
        · rw [hq] at h1
          have e : o = c := by simpa using h1
          subst e
          have : p o = true := by cases hp : p o <;> simp [hp] at hq ⊢
          exact .inl ⟨by simp, this⟩
theorem Fh.bst_none {g : Fh} {p : List Nat → Bool} {cf : List Nat → List Nat → Int} {s : List (List Nat)} (h : g.bst p cf none s = none) {o : List Nat} (ho : o ∈ s) (hc : g.can o (g.bn - 1) = true) : p o = false :=
  fold_none _ h o (List.mem_filter.mpr ⟨ho, by simpa using hc⟩)
theorem Fh.bst_in {g : Fh} {p : List Nat → Bool} {cf : List Nat → List Nat → Int} {s : List (List Nat)} {c : List Nat} (h : g.bst p cf none s = some c) : c ∈ s ∧ g.can c (g.bn - 1) = true ∧ p c = true := by
  rcases fold_in _ _ _ h with ⟨h1, h2⟩ | h1
  · obtain ⟨h3, h4⟩ := List.mem_filter.mp h1
    exact ⟨h3, by simpa using h4, h2⟩
  · cases h1
theorem Fh.fst_some {g : Fh} {o : List Nat} (h : g.lst = some o) (he : g.ens o = true) : ∃ c, g.fst = some c := by
  cases e : g.fst with
  | some c => exact ⟨c, rfl⟩
  | none =>
    obtain ⟨h1, h2, _⟩ := Fh.bst_in h
    rw [Fh.bst_none e h1 h2] at he; cases he
section
variable {kn : FuncId → Option Bool} {lo : Nat} {H : Hp}

theorem fits58 {g : Fh} : Fits kn lo g (.func 58) #[] (fun _ => true) := ⟨fun H o sb bb _ _ _ => by
  obtain ⟨H', f, k⟩ := yes58_ok (kn := kn) (lo := lo) (H := H) (v := cvv sb g.bn bb g.bn (g.sl o)) rfl
  exact ⟨H', callX_args f, k⟩⟩
theorem fits44 {g : Fh} {ka : Option Addr} {kc : Nat} : Fits kn lo g (.func 44) #[.agg (g.vw ka kc).toArray] g.ens := ⟨fun H o sb bb _ _ _ => by
  obtain ⟨H', f, k⟩ := enough_ok (kn := kn) (lo := lo) (H := H) (g := g) (kv := .slice ka g.bn kc) (v1 := slv sb g.bn g.bn) (v2 := slv bb g.bn g.bn) (t1 := (g.sl o).t1) (t2 := (g.sl o).t2) (l1 := (g.sl o).l1) (l2 := (g.sl o).l2) (s1 := (g.sl o).s1) (s2 := (g.sl o).s2) (r1 := (g.sl o).r1) (r2 := (g.sl o).r2)
  exact ⟨H', callX_args f, k⟩⟩
theorem cmps59 {g : Fh} (v : g.Vd) : Cmps kn lo g (.func 59) #[] g.cw := ⟨fun H o o2 sb bb sb2 bb2 hlo c1 c2 => by
  have := v.n
  obtain ⟨H', f, k⟩ := compareW_ok (kn := kn) (lo := lo) (H := H) (cap := g.bn) (cap2 := g.bn) (by omega) (by omega) hlo c1 c2
  exact ⟨H', callX_args f, k⟩⟩
theorem cmps47 {g : Fh} (v : g.Vd) : Cmps kn lo g (.func 47) #[] g.cp := ⟨fun H o o2 sb bb sb2 bb2 hlo c1 c2 => by
  have := v.n
  obtain ⟨H', f, k⟩ := compare_ok (kn := kn) (lo := lo) (H := H) (cap := g.bn) (cap2 := g.bn) (by omega) (by omega) hlo c1 c2
  exact ⟨H', callX_args f, k⟩⟩
set_option maxRecDepth 100000 in
theorem least_ok {g : Fh} {f : Nat} {ka : Option Addr} {kc : Nat} (v : g.Vd) (hat : g.At f H) (hks : Sl H ka g.bn kc (spc g.ws)) (hlo : lo ≤ H.next) :
    ∃ w H', FnX Try.prog kn lo 43 [.agg (g.vw ka kc).toArray] H w H' ∧ Keep H H' [] ∧ Bq g H.next w H' g.lst := by
  refine fnX_low (kn := kn) (lo := lo) (H := H) (args := [.agg (g.vw ka kc).toArray]) (Q := fun w H' => Keep H H' [] ∧ Bq g H.next w H' g.lst) Try.func43 B43 N43 Z43 L43 (by simp) ?_
  refine wN_seq ?_
  refine wN_box (v := .agg (g.vw ka kc).toArray) rfl ?_
  intro H1 k1 n1 c1
  have c1 : Cl H1 H.next (g.vw ka kc) := c1
  refine wN_alc ?_
  intro H2 k2 n2 c2
  have c2 : Cl H2 H1.next zc78 := c2
  refine wN_mov (v := .bool false) rfl ?_
  refine wN_end ?_
  refine wN_seq ?_
  refine wN_lda (b := H.next) (o := 0) rfl (k2.cl c1 (by simp)).rd (show row 6 _ 0 = some (g.vw ka kc) from rfl) ?_
  obtain ⟨H3, f3, k3, n3, r3⟩ := courses_ok (kn := kn) (lo := lo) (H := H2) (g := g) (ka := ka) (kc := kc)
  refine wN_callf (vs := [.agg (g.vw ka kc).toArray]) rfl (callX_args f3) ?_
  have k03 : Keep H H3 [] := k1.trans (k2.trans k3)
  obtain ⟨w4, H4, f4, k4, hb⟩ := best_ok (kn := kn) (lo := lo) (H := H3) (p := fun _ => true) (cf := g.cw) v (hat.keep k03 (by simp)) (k03.sl0 hks) r3 (by omega) fits58 (cmps59 v)
  refine wN_callf (vs := [.func (.func 60) #[] #[pt H2.next], .func (.func 58) #[] #[], .func (.func 59) #[] #[]]) rfl (callX_args f4) ?_
  have m3 := k03.1
  have m4 := k4.1
  have k04 := k03.trans k4
  have c4 := k4.cl (k3.cl c2 (by simp)) (by simp)
  have hb : Bq g H3.next w4 H4 g.lst := hb
  cases e : g.lst with
  | none =>
    rw [e] at hb
    have hb : w4 = .tuple #[.agg zc78.toArray, .bool false] := hb
    subst hb
    refine wN_pur (v := .agg zc78.toArray) rfl (by kernel_rfl) ?_
    refine wN_pur (v := .bool false) rfl (by kernel_rfl) ?_
    refine wN_sta (b := H1.next) (o := 0) (v := .agg zc78.toArray) rfl rfl c4 (by omega) rfl rfl (by simp) ?_
    intro H5 k5 n5 c5
    have c5 : Cl H5 H1.next zc78 := c5
    refine wN_mov (v := .bool false) rfl ?_
    refine wN_end ?_
    exact And.intro trivial (Exists.intro _ (And.intro (res_ctb (x := H1.next) rfl rfl a78 i78s rfl c5) ⟨k04.new k5 (fun b q => .inr (by simp at q; omega)), rfl⟩))
  | some o =>
    rw [e] at hb
    obtain ⟨sb, bb, rfl, q1, q2, cq, rest⟩ := hb
    refine wN_pur (v := cvv sb g.bn bb g.bn (g.sl o)) rfl (by kernel_rfl) ?_
    refine wN_pur (v := .bool true) rfl (by kernel_rfl) ?_
    refine wN_sta (b := H1.next) (o := 0) (v := cvv sb g.bn bb g.bn (g.sl o)) rfl rfl c4 (by omega) rfl rfl (by simp) ?_
    intro H5 k5 n5 c5
    have c5 : Cl H5 H1.next (cvc sb g.bn bb g.bn (g.sl o)) := c5
    refine wN_mov (v := .bool true) rfl ?_
    refine wN_end ?_
    exact And.intro trivial (Exists.intro _ (And.intro (res_ctb (x := H1.next) rfl rfl a78 i78s rfl c5) ⟨k04.new k5 (fun b q => .inr (by simp at q; omega)), sb, bb, rfl, by omega, by omega, cq.keep k5 (by simp; omega) (by simp; omega), rest⟩))
end
end Go.Ax

/-
  Flood: Best (21), Least (23) (written by program).
-/
namespace Go.Ax
open Go Go.RowKit Go.Proofs

def Ord (g : Fh) (f : Nat) (sb : Nat) (o : List Nat) (H : Hp) : Prop := f ≤ sb ∧ Sc H sb (ints (zi o)) ∧ o.length = g.bn ∧ (∀ x ∈ o, x < g.bn) ∧ o.Nodup ∧ g.can o (g.bn - 1) = true
def RB (g : Fh) (f : Nat) (w : Value) (H : Hp) : Prop := (g.be ≠ 0 ∧ w = .tuple #[.slice none 0 0, iv g.be]) ∨ (g.be = 0 ∧ g.ok = true ∧ ∃ sb o, w = .tuple #[slv sb g.bn g.bn, iv 0] ∧ g.fst = some o ∧ Ord g f sb o H)
theorem Fh.be1 {g : Fh} (h : g.ok = false) : g.be = 1 := by unfold Fh.be; rw [h]; rfl
theorem Fh.be4 {g : Fh} (h : g.ok = true) (e : g.lst = none) : g.be = 4 := by unfold Fh.be; rw [h, e]; rfl
theorem Fh.be10 {g : Fh} {o : List Nat} (h : g.ok = true) (e : g.lst = some o) (q : g.ens o = false) : g.be = 10 := by unfold Fh.be; rw [h, e]; simp only [q]; rfl
theorem Fh.be0 {g : Fh} {o : List Nat} (h : g.ok = true) (e : g.lst = some o) (q : g.ens o = true) : g.be = 0 := by unfold Fh.be; rw [h, e]; simp only [q]; rfl
section
variable {kn : FuncId → Option Bool} {lo : Nat} {H : Hp}
set_option maxRecDepth 100000 in
theorem Best_ok {g : Fh} {f : Nat} (hat : g.At f H) (hlo : lo ≤ H.next) : ∃ w H', FnX Try.prog kn lo 21 [.agg g.v.toArray] H w H' ∧ Keep H H' [] ∧ RB g H.next w H' := by
  refine fnX_low (kn := kn) (lo := lo) (H := H) (args := [.agg g.v.toArray]) (Q := fun w H' => Keep H H' [] ∧ RB g H.next w H') Try.func21 B21 N21 Z21 L21 (by simp) ?_
  have hfl := hat.le
  refine wN_seq ?_
  refine wN_box (v := .agg g.v.toArray) rfl ?_
  intro H1 k1 n1 c1
  have c1 : Cl H1 H.next g.v := c1
  refine wN_mov (v := .slice none 0 0) rfl ?_
  refine wN_mov (v := iv 0) rfl ?_
  refine wN_end ?_
  refine wN_seq ?_
  refine wN_lda (b := H.next) (o := 0) rfl c1.rd (show row 5 _ 0 = some g.v from rfl) ?_
  obtain ⟨w2, H2, f2, k2, hc⟩ := new_ok (kn := kn) (lo := lo) (H := H1) (hat.keep k1 (by simp)) (by omega)
  refine wN_callf (vs := [.agg g.v.toArray]) rfl (callX_args f2) ?_
  have m2 := k2.1
  have k02 : Keep H H2 [] := k1.trans k2
  rcases hc with ⟨hok, rfl⟩ | ⟨hok, ka, kc, rfl, hks, hkf⟩
  · refine wN_mov (v := .tuple #[.agg #[.slice none 0 0, .slice none 0 0, iv 0, iv 0, iv 0, .slice none 0 0], iv 1]) rfl ?_
    refine wN_pur (v := .agg #[.slice none 0 0, .slice none 0 0, iv 0, iv 0, iv 0, .slice none 0 0]) rfl (by kernel_rfl) ?_
    refine wN_pur (v := iv 1) rfl (by kernel_rfl) ?_
    refine wN_alc ?_
    intro H3 k3 n3 c3
    refine wN_sta (b := H2.next) (o := 0) (v := .agg #[.slice none 0 0, .slice none 0 0, iv 0, iv 0, iv 0, .slice none 0 0]) rfl rfl c3 (by omega) rfl rfl (by simp) ?_
    intro H4 k4 n4 c4
    have c4 : Cl H4 H2.next ([.slice none 0 0, .slice none 0 0, iv 0, iv 0, iv 0, .slice none 0 0]) := c4
    refine wN_mov (v := iv 1) rfl ?_
    refine wN_end ?_
    have k24 : Keep H2 H4 [] := k3.new k4 (fun b q => by simp at q; omega)
    have k04 : Keep H H4 [] := k02.trans k24
    have m4 := k24.1
    refine wN_seq ?_
    refine wN_mov (v := iv 1) rfl ?_
    refine wN_c_neq (a := 1) (b := 0) rfl rfl ?_
    refine wN_end ?_
    refine And.intro (fun q1 => ?_) (fun q1 => ?_)
    · refine wN_seq ?_
      refine wN_mov (v := iv 1) rfl ?_
      refine wN_mov (v := .slice none 0 0) rfl ?_
      refine wN_mov (v := iv 1) rfl ?_
      refine wN_end ?_
      exact And.intro trivial (Exists.intro _ (And.intro rfl ⟨k04, Or.inl ⟨by rw [Fh.be1 hok]; decide, by rw [Fh.be1 hok]; rfl⟩⟩))
    · exact absurd q1 (by decide)
  · have v := Fh.vd hok hat
    refine wN_mov (v := .tuple #[.agg (g.vw ka kc).toArray, iv 0]) rfl ?_
    refine wN_pur (v := .agg (g.vw ka kc).toArray) rfl (by kernel_rfl) ?_
    refine wN_pur (v := iv 0) rfl (by kernel_rfl) ?_
    refine wN_alc ?_
    intro H3 k3 n3 c3
    refine wN_sta (b := H2.next) (o := 0) (v := .agg (g.vw ka kc).toArray) rfl rfl c3 (by omega) rfl rfl (by simp) ?_
    intro H4 k4 n4 c4
    have c4 : Cl H4 H2.next (g.vw ka kc) := c4
    refine wN_mov (v := iv 0) rfl ?_
    refine wN_end ?_
    have k24 : Keep H2 H4 [] := k3.new k4 (fun b q => by simp at q; omega)
    have k04 : Keep H H4 [] := k02.trans k24
    have m4 := k24.1
    refine wN_seq ?_
    refine wN_mov (v := iv 0) rfl ?_
    refine wN_c_neq (a := 0) (b := 0) rfl rfl ?_
    refine wN_end ?_
    refine And.intro (fun q1 => ?_) (fun q1 => ?_)
    · exact absurd q1 (by decide)
    · first | refine wN_skip ?_ | skip
      refine wN_seq ?_
      refine wN_lda (b := H2.next) (o := 0) rfl c4.rd (show row 6 _ 0 = some (g.vw ka kc) from rfl) ?_
      obtain ⟨w5, H5, f5, k5, hb⟩ := least_ok (kn := kn) (lo := lo) (H := H4) v (hat.keep k04 (by simp)) (k24.sl0 hks) (by omega)
      refine wN_callf (vs := [.agg (g.vw ka kc).toArray]) rfl (callX_args f5) ?_
      have m5 := k5.1
      have k05 : Keep H H5 [] := k04.trans k5
      have c4 := k5.cl c4 (by simp)
      cases e : g.lst with
      | none =>
        rw [e] at hb
        have hb : w5 = .tuple #[.agg zc78.toArray, .bool false] := hb
        subst hb
        refine wN_mov (v := .tuple #[.agg zc78.toArray, .bool false]) rfl ?_
        refine wN_pur (v := .agg zc78.toArray) rfl (by kernel_rfl) ?_
        refine wN_pur (v := .bool false) rfl (by kernel_rfl) ?_
        refine wN_alc ?_
        intro H6 k6 n6 c6
        refine wN_sta (b := H5.next) (o := 0) (v := .agg zc78.toArray) rfl rfl c6 (by omega) rfl rfl (by simp) ?_
        intro H7 k7 n7 c7
        have c7 : Cl H7 H5.next (zc78) := c7
        refine wN_mov (v := .bool false) rfl ?_
        refine wN_end ?_
        have k57 : Keep H5 H7 [] := k6.new k7 (fun b q => by simp at q; omega)
        have k07 : Keep H H7 [] := k05.trans k57
        have m7 := k57.1
        refine wN_seq ?_
        refine wN_mov (v := .bool false) rfl ?_
        refine wN_pur (v := .bool true) rfl rfl ?_
        refine wN_end ?_
        refine condT ?_
        refine wN_seq ?_
        refine wN_mov (v := .slice none 0 0) rfl ?_
        refine wN_mov (v := iv 4) rfl ?_
        refine wN_end ?_
        exact And.intro trivial (Exists.intro _ (And.intro rfl ⟨k07, Or.inl ⟨by rw [Fh.be4 hok e]; decide, by rw [Fh.be4 hok e]; rfl⟩⟩))
      | some o =>
        rw [e] at hb
        obtain ⟨sb, bb, rfl, q1, q2, cq, rest⟩ := hb
        refine wN_mov (v := .tuple #[cvv sb g.bn bb g.bn (g.sl o), .bool true]) rfl ?_
        refine wN_pur (v := cvv sb g.bn bb g.bn (g.sl o)) rfl (by kernel_rfl) ?_
        refine wN_pur (v := .bool true) rfl (by kernel_rfl) ?_
        refine wN_alc ?_
        intro H6 k6 n6 c6
        refine wN_sta (b := H5.next) (o := 0) (v := cvv sb g.bn bb g.bn (g.sl o)) rfl rfl c6 (by omega) rfl rfl (by simp) ?_
        intro H7 k7 n7 c7
        have c7 : Cl H7 H5.next (cvc sb g.bn bb g.bn (g.sl o)) := c7
        refine wN_mov (v := .bool true) rfl ?_
        refine wN_end ?_
        have k57 : Keep H5 H7 [] := k6.new k7 (fun b q => by simp at q; omega)
        have k07 : Keep H H7 [] := k05.trans k57
        have m7 := k57.1
        refine wN_seq ?_
        refine wN_mov (v := .bool true) rfl ?_
        refine wN_pur (v := .bool false) rfl rfl ?_
        refine wN_end ?_
        refine condF ?_
        first | refine wN_skip ?_ | skip
        have c4 := k57.cl c4 (by simp)
        refine wN_seq ?_
        refine wN_lda (b := H2.next) (o := 0) rfl c4.rd (show row 6 _ 0 = some (g.vw ka kc) from rfl) ?_
        refine wN_lda (b := H5.next) (o := 0) rfl c7.rd (show row 10 _ 0 = some (cvc sb g.bn bb g.bn (g.sl o)) from rfl) ?_
        obtain ⟨H8, f8, k8⟩ := enough_ok (kn := kn) (lo := lo) (H := H7) (g := g) (kv := .slice ka g.bn kc) (v1 := slv sb g.bn g.bn) (v2 := slv bb g.bn g.bn) (t1 := (g.sl o).t1) (t2 := (g.sl o).t2) (l1 := (g.sl o).l1) (l2 := (g.sl o).l2) (s1 := (g.sl o).s1) (s2 := (g.sl o).s2) (r1 := (g.sl o).r1) (r2 := (g.sl o).r2)
        refine wN_callf (vs := [.agg (g.vw ka kc).toArray, cvv sb g.bn bb g.bn (g.sl o)]) rfl (callX_args f8) ?_
        have m8 := k8.1
        have k08 : Keep H H8 [] := k07.trans k8
        have c4 := k8.cl c4 (by simp)
        cases hq : decide ((g.sl o).t2 ≤ g.reserve)
        · have he : g.ens o = false := hq
          refine wN_pur (v := .bool true) rfl rfl ?_
          refine wN_end ?_
          refine condT ?_
          refine wN_seq ?_
          refine wN_mov (v := .slice none 0 0) rfl ?_
          refine wN_mov (v := iv 10) rfl ?_
          refine wN_end ?_
          exact And.intro trivial (Exists.intro _ (And.intro rfl ⟨k08, Or.inl ⟨by rw [Fh.be10 hok e he]; decide, by rw [Fh.be10 hok e he]; rfl⟩⟩))
        · have he : g.ens o = true := hq
          obtain ⟨o2, e2⟩ := Fh.fst_some e he
          refine wN_pur (v := .bool false) rfl rfl ?_
          refine wN_end ?_
          refine condF ?_
          first | refine wN_skip ?_ | skip
          refine wD_seq ?_
          refine wD_lda (b := H2.next) (o := 0) (q := g.vw ka kc) rfl c4.rd rfl ?_
          obtain ⟨H9, f9, k9, n9, r9⟩ := courses_ok (kn := kn) (lo := H8.next) (H := H8) (g := g) (ka := ka) (kc := kc)
          refine wD_callh (vs := [.agg (g.vw ka kc).toArray]) rfl (by kernel_rfl) (callX_args f9) ?_
          have k09 : Keep H H9 [] := k08.trans k9
          have m9 := k9.1
          have c4 := k9.cl c4 (by simp)
          refine wD_lda (b := H2.next) (o := 0) (q := g.vw ka kc) rfl c4.rd rfl ?_
          refine wD_pur (v := .func (.func 44) #[.agg (g.vw ka kc).toArray] #[]) rfl (by kernel_rfl) ?_
          obtain ⟨w10, H10, f10, k10, hb⟩ := best_ok (kn := kn) (lo := H9.next) (H := H9) (p := g.ens) (cf := g.cp) v (hat.keep k09 (by simp)) ((k24.trans ((k5.trans k57).trans (k8.trans k9))).sl0 hks) r9 (Nat.le_refl _) fits44 (cmps47 v)
          refine wD_callh (vs := [.func (.func 60) #[] #[pt H8.next], .func (.func 44) #[.agg (g.vw ka kc).toArray] #[], .func (.func 47) #[] #[]]) rfl (by kernel_rfl) (callX_args f10) ?_
          have m10 := k10.1
          have k010 : Keep H H10 [] := k09.trans k10
          have hb : Bq g H9.next w10 H10 g.fst := hb
          rw [e2] at hb
          obtain ⟨sb2, bb2, rfl, q3, q4, cq2, rest2⟩ := hb
          refine wD_mov (v := .tuple #[cvv sb2 g.bn bb2 g.bn (g.sl o2), .bool true]) rfl ?_
          refine wD_pur (v := cvv sb2 g.bn bb2 g.bn (g.sl o2)) rfl (by kernel_rfl) ?_
          refine wD_pur (v := .bool true) rfl (by kernel_rfl) ?_
          refine wD_alc ?_
          intro H11 k11 n11 c11
          refine wD_sta (b := H10.next) (o := 0) (v := cvv sb2 g.bn bb2 g.bn (g.sl o2)) rfl rfl c11 (by omega) rfl rfl (by simp) ?_
          intro H12 k12 n12 c12
          have c12 : Cl H12 H10.next (cvc sb2 g.bn bb2 g.bn (g.sl o2)) := c12
          refine wD_mov (v := .bool true) rfl ?_
          refine wD_end (by repeat' first | exact True.intro | exact (fun h => h) | refine And.intro ?_ ?_ | (intro h; have h : (_ : Nat) = _ := h; omega)) ?_
          have k1012 : Keep H10 H12 [] := k11.new k12 (fun b q => by simp at q; omega)
          refine wN_seq ?_
          refine wN_addo (b := H10.next) (o := 0) rfl ?_
          refine wN_ld (b := H10.next) (o := 0 + 0) (v := slv sb2 g.bn g.bn) rfl c12.rd rfl ?_
          refine wN_mov (v := slv sb2 g.bn g.bn) rfl ?_
          refine wN_mov (v := iv 0) rfl ?_
          refine wN_end ?_
          exact And.intro trivial (Exists.intro _ (And.intro rfl ⟨k010.trans k1012, Or.inr ⟨Fh.be0 hok e he, hok, sb2, o2, rfl, e2, by omega, k1012.sc cq2.ro (by simp), rest2⟩⟩))
end
end Go.Ax

/-
  Flood: the best one is the best: maths; Ints (25) (written by program).
-/
namespace Go.Ax
open Go Go.RowKit Go.Proofs

theorem sg_neg (a b : Int) : sg b a = - sg a b := by
  unfold sg; split <;> split <;> (try split) <;> (try split) <;> omega
theorem sg_zero {a b : Int} (h : sg a b = 0) : a = b := by
  unfold sg at h; split at h
  · omega
  · split at h <;> omega
theorem sg_lt {a b : Int} (h : sg a b < 0) : a < b := by
  unfold sg at h; split at h
  · assumption
  · split at h <;> omega
theorem sg_of {a b : Int} (h : a < b) : sg a b = -1 := by unfold sg; rw [if_pos h]
theorem lexC_neg : ∀ (a b : List Int), lexC b a = - lexC a b
  | [], [] => rfl
  | [], _ :: _ => rfl
  | _ :: _, [] => rfl
  | a :: r, b :: s => by
    have ih := lexC_neg r s
    have e := sg_neg a b
    simp only [lexC]
    by_cases h : sg a b = 0
    · rw [if_neg (by omega), if_neg (by omega)]; exact ih
    · rw [if_pos (by omega), if_pos (by omega)]; exact e
theorem lexC_zero : ∀ {a b : List Int}, lexC a b = 0 → a = b
  | [], [], _ => rfl
  | [], _ :: _, h => by simp [lexC] at h
  | _ :: _, [], h => by simp [lexC] at h
  | a :: r, b :: s, h => by
    simp only [lexC] at h
    by_cases q : sg a b = 0
    · rw [if_neg (by omega)] at h
      rw [sg_zero q, lexC_zero h]
    · rw [if_pos (by omega)] at h; omega
theorem lexC_trans : ∀ {a b c : List Int}, lexC a b < 0 → lexC b c < 0 → lexC a c < 0
  | [], [], _, h, _ => by simp [lexC] at h
  | [], _ :: _, [], _, h => by simp [lexC] at h
  | [], _ :: _, _ :: _, _, _ => by simp [lexC]
  | _ :: _, [], _, h, _ => by simp [lexC] at h
  | _ :: _, _ :: _, [], _, h => by simp [lexC] at h
  | a :: r, b :: s, c :: t, h1, h2 => by
    simp only [lexC] at h1 h2 ⊢
    by_cases q1 : sg a b = 0
    · rw [if_neg (by omega)] at h1
      have e1 := sg_zero q1
      subst e1
      by_cases q2 : sg a c = 0
      · rw [if_neg (by omega)] at h2 ⊢
        exact lexC_trans h1 h2
      · rw [if_pos (by omega)] at h2 ⊢
        exact h2
    · rw [if_pos (by omega)] at h1
      by_cases q2 : sg b c = 0
      · have e2 := sg_zero q2
        subst e2
        rw [if_pos (by omega)]; exact h1
      · rw [if_pos (by omega)] at h2
        have a1 := sg_lt h1
        have a2 := sg_lt h2
        have e := sg_of (show a < c by omega)
        rw [if_pos (by omega)]; omega
/-- what an order is measured by -/
def Fh.kp (g : Fh) (o : List Nat) : List Int := (g.sl o).d2 :: (g.sl o).t2 :: zi o
def Fh.kw (g : Fh) (o : List Nat) : List Int := (g.sl o).t2 :: g.kp o
theorem cp_key (g : Fh) (o o2 : List Nat) : g.cp o o2 = lexC (g.kp o) (g.kp o2) := by
  unfold Fh.cp cpB Fh.kp
  simp only [fnz, lexC]
  split
  · rfl
  · split
    · rfl
    · split <;> omega
theorem cw_key (g : Fh) (o o2 : List Nat) : g.cw o o2 = lexC (g.kw o) (g.kw o2) := by
  have e := cp_key g o o2
  unfold Fh.cp at e
  unfold Fh.cw cwB Fh.kw
  rw [e]
  simp only [fnz, lexC]
  split
  · rfl
  · split <;> omega
theorem zi_inj {a b : List Nat} (h : zi a = zi b) : a = b := by rw [← no_zi a, ← no_zi b, h]
theorem kp_inj {g : Fh} {a b : List Nat} (h : g.kp a = g.kp b) : a = b := by
  unfold Fh.kp at h
  injection h with _ h; injection h with _ h
  exact zi_inj h
theorem kw_inj {g : Fh} {a b : List Nat} (h : g.kw a = g.kw b) : a = b := by
  unfold Fh.kw at h
  injection h with _ h
  exact kp_inj h
theorem fold_minL {p : List Nat → Bool} {cf : List Nat → List Nat → Int} {K : List Nat → List Int} (hK : ∀ a b, cf a b = lexC (K a) (K b)) (hi : ∀ a b, K a = K b → a = b) :
    ∀ (s : List (List Nat)) (b R : List Nat), s.foldl (pick p cf) (some b) = some R → (b = R ∨ cf R b < 0) ∧ ∀ o ∈ s, p o = true → o = R ∨ cf R o < 0
  | [], b, R, h => ⟨.inl (by simpa using h), fun o ho => by cases ho⟩
  | x :: s, b, R, h => by
    simp only [List.foldl_cons] at h
    have tr : ∀ a b c, cf a b < 0 → cf b c < 0 → cf a c < 0 := fun a b c h1 h2 => by rw [hK] at h1 h2 ⊢; exact lexC_trans h1 h2
    have tot : ∀ a b, ¬ cf a b < 0 → b = a ∨ cf b a < 0 := fun a b h1 => by
      rw [hK] at h1
      have e := lexC_neg (K a) (K b)
      rcases Int.lt_or_eq_of_le (show 0 ≤ lexC (K a) (K b) by omega) with q | q
      · right; rw [hK]; omega
      · left; exact (hi _ _ (lexC_zero q.symm)).symm
    have leT : ∀ a b, (b = R ∨ cf R b < 0) → cf b a < 0 → a = R ∨ cf R a < 0 := fun a b h1 h2 => by
      rcases h1 with rfl | h1
      · exact .inr h2
      · exact .inr (tr _ _ _ h1 h2)
    cases q : (p x && decide (cf x b < 0))
    · rw [show pick p cf (some b) x = some b by show (bif (p x && decide (cf x b < 0)) then some x else some b) = some b; rw [q]; rfl] at h
      obtain ⟨h1, h2⟩ := fold_minL hK hi s b R h
      refine ⟨h1, fun o ho hp => ?_⟩
      rcases List.mem_cons.mp ho with rfl | ho
      · rw [hp] at q
        have q : ¬ cf o b < 0 := by simpa using q
        rcases tot o b q with e | e
        · rw [← e]; exact h1
        · exact leT o b h1 e
      · exact h2 o ho hp
    · rw [show pick p cf (some b) x = some x by show (bif (p x && decide (cf x b < 0)) then some x else some b) = some x; rw [q]; rfl] at h
      obtain ⟨h1, h2⟩ := fold_minL hK hi s x R h
      have hx : cf x b < 0 := by
        simp only [Bool.and_eq_true, decide_eq_true_eq] at q; exact q.2
      refine ⟨leT b x h1 hx, fun o ho hp => ?_⟩
      rcases List.mem_cons.mp ho with rfl | ho
      · exact h1
      · exact h2 o ho hp
theorem fold_minN {p : List Nat → Bool} {cf : List Nat → List Nat → Int} {K : List Nat → List Int} (hK : ∀ a b, cf a b = lexC (K a) (K b)) (hi : ∀ a b, K a = K b → a = b) :
    ∀ (s : List (List Nat)) (R : List Nat), s.foldl (pick p cf) none = some R → ∀ o ∈ s, p o = true → o = R ∨ cf R o < 0
  | [], R, h, o, ho => by cases ho
  | x :: s, R, h, o, ho => by
    simp only [List.foldl_cons] at h
    cases q : p x
    · rw [show pick p cf none x = none by show (bif p x then some x else none) = none; rw [q]; rfl] at h
      intro hp
      rcases List.mem_cons.mp ho with rfl | ho
      · rw [hp] at q; cases q
      · exact fold_minN hK hi s R h o ho hp
    · rw [show pick p cf none x = some x by show (bif p x then some x else none) = some x; rw [q]; rfl] at h
      obtain ⟨h1, h2⟩ := fold_minL hK hi s x R h
      intro hp
      rcases List.mem_cons.mp ho with rfl | ho
      · exact h1
      · exact h2 o ho hp
theorem Fh.lst_min {g : Fh} {R : List Nat} (h : g.lst = some R) {o : List Nat} (ho : o ∈ perms g.bn) (hc : g.can o (g.bn - 1) = true) : o = R ∨ g.cw R o < 0 :=
  fold_minN (cw_key g) (fun _ _ => kw_inj) _ R h o (List.mem_filter.mpr ⟨ho, by simpa using hc⟩) rfl
theorem Fh.fst_min {g : Fh} {R : List Nat} (h : g.fst = some R) {o : List Nat} (ho : o ∈ perms g.bn) (hc : g.can o (g.bn - 1) = true) (he : g.ens o = true) : o = R ∨ g.cp R o < 0 :=
  fold_minN (cp_key g) (fun _ _ => kp_inj) _ R h o (List.mem_filter.mpr ⟨ho, by simpa using hc⟩) he
/-- the same harvest with another reserve -/
def Fh.wr (g : Fh) (n : Int) : Fh := { g with reserve := n }
theorem Fh.At.wr {g : Fh} {f : Nat} {H : Hp} (h : g.At f H) (n : Int) : (g.wr n).At f H := ⟨h.le, h.b, h.r, h.bl, h.rl, h.bf, h.rf, h.bi, h.ri⟩
theorem Fh.ok_wr {g : Fh} {n : Int} (h : g.ok = true) (h1 : 0 ≤ n) (h2 : n ≤ 1099511627776) : (g.wr n).ok = true := by
  unfold Fh.ok at h ⊢
  simp only [Bool.and_eq_true] at h ⊢
  refine ⟨h.1, ?_⟩
  show inB n 0 1099511627776 = true
  unfold inB
  simp [h1, h2]
section
variable {kn : FuncId → Option Bool} {lo : Nat} {H : Hp}
end
end Go.Ax

/-
  Flood: the law FloodLeast, whatever the input (written by program).
-/
namespace Go.Ax
open Go Go.RowKit Go.Proofs

section
variable {kn : FuncId → Option Bool} {lo : Nat} {H : Hp}
end
end Go.Ax

/-
  Flood: great, in full (12); append of several elements; what FloodOwns keeps (34) (written by program).
-/
namespace Go.Ax
open Go Go.RowKit Go.Proofs

theorem KeepB.to {H H1 H2 : Hp} (h : Keep H H1 []) (k : KeepB H.next H1 H2) : Keep H H2 [] :=
  ⟨Nat.le_trans h.1 k.1, fun b hb _ => by rw [k.2 b hb]; exact h.2 b hb (by simp)⟩
section
variable {kn : FuncId → Option Bool} {lo : Nat} {H : Hp}
end
end Go.Ax

/-
  Flood: what FloodOwns keeps (34) (written by program).
-/
namespace Go.Ax
open Go Go.RowKit Go.Proofs

section
variable {kn : FuncId → Option Bool} {lo : Nat} {H : Hp}
end
end Go.Ax

/-
  Flood: the law FloodOwns, whatever the input (written by program).
-/
namespace Go.Ax
open Go Go.RowKit Go.Proofs

theorem AccB.sl {b0 lo f : Nat} {e : TypeId} {H : Hp} {v : Value} {n : Nat} {cs : List Value} (h : AccB b0 lo f e H v n cs) (hf : f ≤ b0) : ∃ a c, v = .slice a n c ∧ Sl H a n c cs ∧ ∀ b, a = some ⟨b, 0, none⟩ → f ≤ b := by
  rcases h with ⟨rfl, rfl, rfl, hb, e0, hg⟩ | ⟨b, rfl, h0, hf, hl, hn, hg⟩
  · exact ⟨_, _, rfl, .inr ⟨b0, rfl, ⟨hb, by unfold cellsOf; rw [hg]⟩, Nat.le_refl _⟩, fun b e => by cases e; exact hf⟩
  · exact ⟨_, _, rfl, .inr ⟨b, rfl, ⟨hn, by unfold cellsOf; rw [hg]⟩, Nat.le_refl _⟩, fun b e => by cases e; exact hf⟩
section
variable {kn : FuncId → Option Bool} {lo : Nat} {H : Hp}
end
end Go.Ax

/-
  Flood: is a list before another one (33) (written by program).
-/
namespace Go.Ax
open Go Go.RowKit Go.Proofs

section
variable {kn : FuncId → Option Bool} {lo : Nat} {H : Hp}
end
theorem zi_no {us : List Int} {n : Nat} (h : IsOrd us n) : zi (no us) = us := by
  unfold zi no
  rw [List.map_map]
  have : ∀ x ∈ us, ((fun n : Nat => (n : Int)) ∘ Int.toNat) x = id x := fun x hx => by
    have := (h.rng x hx).1
    show ((x.toNat : Nat) : Int) = x
    omega
  rw [List.map_congr_left this, List.map_id]
theorem ord_mem {us : List Int} {n : Nat} (h : IsOrd us n) : no us ∈ perms n := by
  rw [perms_mem]
  have hl := h.len
  refine ⟨by simp [no, hl], fun x hx => ?_, ?_⟩
  · unfold no at hx
    obtain ⟨y, hy, rfl⟩ := List.mem_map.mp hx
    have := h.rng y hy
    omega
  · have h1 := h.nd
    unfold no
    rw [List.Nodup, List.pairwise_map]
    exact List.Pairwise.imp_of_mem (fun ha hb hne e => hne (by have := h.rng _ ha; have := h.rng _ hb; omega)) h1
/-- no other order is better than the best one -/
theorem Fh.once {g : Fh} {R : List Nat} {us : List Int} (h : g.fst = some R) (ho : IsOrd us g.bn) (hc : g.can (no us) (g.bn - 1) = true) (he : (g.la us).t2 ≤ g.reserve) :
    (g.sl R).d2 < (g.la us).d2 ∨ ((g.sl R).d2 = (g.la us).d2 ∧ ((g.sl R).t2 < (g.la us).t2 ∨ ((g.sl R).t2 = (g.la us).t2 ∧ ¬ lexC us (zi R) < 0))) := by
  have he : g.ens (no us) = true := by unfold Fh.ens; exact decide_eq_true he
  rcases Fh.fst_min h (ord_mem ho) hc he with e | e
  · right
    have e2 : zi R = us := by rw [← e]; exact zi_no ho
    refine ⟨by rw [← e]; rfl, .inr ⟨by rw [← e]; rfl, ?_⟩⟩
    rw [e2]
    have := lexC_neg us us
    omega
  · rw [cp_key] at e
    unfold Fh.kp at e
    rw [zi_no ho] at e
    simp only [lexC] at e
    have n := lexC_neg us (zi R)
    by_cases q1 : sg (g.sl R).d2 (g.sl (no us)).d2 = 0
    · rw [if_neg (by omega)] at e
      right
      refine ⟨sg_zero q1, ?_⟩
      by_cases q2 : sg (g.sl R).t2 (g.sl (no us)).t2 = 0
      · rw [if_neg (by omega)] at e
        exact .inr ⟨sg_zero q2, by omega⟩
      · rw [if_pos (by omega)] at e
        exact .inl (sg_lt e)
    · rw [if_pos (by omega)] at e
      exact .inl (sg_lt e)
theorem Fh.er_none {g : Fh} {us : List Int} (hok : g.ok = true) (h : g.lst = none) (ho : IsOrd us g.bn) : g.er us = 4 := by
  cases hc : g.can (no us) (g.bn - 1)
  · exact Fh.er4 hok (ordB_is ho) hc
  · exact absurd (Fh.bst_none h (ord_mem ho) hc) (by simp)
theorem Fh.er_short {g : Fh} {us : List Int} {o : List Nat} (hok : g.ok = true) (h : g.lst = some o) (he : g.ens o = false) (ho : IsOrd us g.bn) : g.er us = 4 ∨ g.er us = 10 := by
  cases hc : g.can (no us) (g.bn - 1)
  · exact .inl (Fh.er4 hok (ordB_is ho) hc)
  · have h1 : ¬ (g.sl o).t2 ≤ g.reserve := of_decide_eq_false he
    refine .inr (Fh.er10 hok (ordB_is ho) hc ?_)
    show g.reserve < (g.sl (no us)).t2
    rcases Fh.lst_min h (ord_mem ho) hc with e | e
    · rw [e]; omega
    · rw [cw_key] at e
      unfold Fh.kw at e
      simp only [lexC] at e
      by_cases q : sg (g.sl o).t2 (g.sl (no us)).t2 = 0
      · have := sg_zero q; omega
      · rw [if_pos (by omega)] at e
        have := sg_lt e; omega
end Go.Ax

/-
  Flood: append of a part of a list (written by program).
-/
namespace Go.Ax
open Go Go.RowKit Go.Proofs

end Go.Ax

/-
  Flood: l[k + 1:] of a list that append made; an order out of remainders: its maths (written by program).
-/
namespace Go.Ax
open Go Go.RowKit Go.Proofs

end Go.Ax

/-
  Flood: an order out of remainders (32) (written by program).
-/
namespace Go.Ax
open Go Go.RowKit Go.Proofs

section
variable {kn : FuncId → Option Bool} {lo : Nat} {H : Hp}
end
end Go.Ax

/-
  Flood: the law FloodOnce, whatever the input (written by program).
-/
namespace Go.Ax
open Go Go.RowKit Go.Proofs

theorem Fh.tv {g : Fh} {us : List Int} (h : g.er us = 0) : g.tl us = g.fs (no us) g.bn ∧ g.tu us = g.la us := by
  unfold Fh.tl Fh.tu; rw [h]; exact ⟨rfl, rfl⟩
theorem Fh.tn {g : Fh} {us : List Int} (h : ¬ g.er us = 0) : g.tl us = [] ∧ g.tu us = Fs.z := by
  unfold Fh.tl Fh.tu; rw [decide_eq_false h]; exact ⟨rfl, rfl⟩
theorem flc_at' {l : List Fs} {i j : Nat} {x : Fs} {v : Value} (h : l[i]? = some x) (hj : x.c[j]? = some v) : (flc l)[0 + i * 5 + j]? = some v := row_get (row_flat (f := Fs.c) (size := 5) (fun _ _ => rfl) h) hj
theorem once_be {g : Fh} {us : List Int} (hok : g.ok = true) (h0 : g.be ≠ 0) (ho : IsOrd us g.bn) : (g.be = 4 ∧ g.er us = 4) ∨ (g.be = 10 ∧ (g.er us = 4 ∨ g.er us = 10)) := by
  cases e : g.lst with
  | none => exact .inl ⟨Fh.be4 hok e, Fh.er_none hok e ho⟩
  | some o =>
    cases q : g.ens o
    · exact .inr ⟨Fh.be10 hok e q, Fh.er_short hok e q ho⟩
    · exact absurd (Fh.be0 hok e q) h0
section
variable {kn : FuncId → Option Bool} {lo : Nat} {H : Hp}
end
end Go.Ax

/-
  Flood: harvests with more water, fewer winds, faster flumes, tighter beds (written by program).
-/
namespace Go.Ax
open Go Go.RowKit Go.Proofs

theorem upq_anti {a b b' : Int} (ha : 1 ≤ a) (hb : 1 ≤ b) (h : b ≤ b') : upq a b' ≤ upq a b := by
  unfold upq
  obtain ⟨q, hq⟩ : ∃ q, (a + b - 1) / b = q := ⟨_, rfl⟩
  have h1 := Int.lt_ediv_add_one_mul_self (a + b - 1) (show 0 < b by omega)
  rw [hq, Int.add_mul, Int.one_mul] at h1
  have hq0 : 0 ≤ q := by rw [← hq]; exact Int.ediv_nonneg (by omega) (by omega)
  have h2 : q * b ≤ q * b' := Int.mul_le_mul_of_nonneg_left h hq0
  rw [hq]
  have h3 : (a + b' - 1) / b' < q + 1 := (Int.ediv_lt_iff_lt_mul (by omega)).2 (by rw [Int.add_mul, Int.one_mul]; omega)
  omega
/-- a harvest that is through no later -/
structure Fh.Le (g' g : Fh) : Prop where
  n : g'.bn = g.bn
  need : ∀ i, i < g.bn → g'.need i = g.need i
  w2 : ∀ i, i < g.bn → (g'.W i).2 ≤ (g.W i).2
  l2 : ∀ i, i < g.bn → (g'.B i).l2 ≤ (g.B i).l2
  rt : ∀ i j, i < g.bn → j < g.bn → 0 ≤ g.rate i j ∧ g.rate i j ≤ g'.rate i j
  inl : 1 ≤ g.inlet ∧ g.inlet ≤ g'.inlet
theorem Fh.Le.k2 {g' g : Fh} (h : g'.Le g) {i : Nat} (hi : i < g.bn) (b' : g'.Bd i) (b : g.Bd i) : g'.k2 i ≤ g.k2 i := by
  have e := Int.mul_le_mul (h.w2 i hi) (h.l2 i hi) b'.q2.1 b.w2.1
  have := h.need i hi
  unfold Fh.k2; omega
theorem Fh.Le.can {g' g : Fh} (h : g'.Le g) {o : List Nat} (ho : ∀ k, k < g.bn → o.getD k 0 < g.bn) {k : Nat} (hk : k < g.bn) (hc : g.can o k = true) : g'.can o k = true := by
  unfold Fh.can at hc ⊢
  rw [List.all_eq_true] at hc ⊢
  intro j hj
  have hj2 := List.mem_range.1 hj
  have q := of_decide_eq_true (hc j hj)
  have r := h.rt _ _ (ho j (by omega)) (ho (j + 1) (by omega))
  exact decide_eq_true (by omega)
theorem Fh.Le.st {g' g : Fh} (h : g'.Le g) (hb' : ∀ i, i < g.bn → g'.Bd i) (hb : ∀ i, i < g.bn → g.Bd i) {o : List Nat} (ho : ∀ k, k < g.bn → o.getD k 0 < g.bn) : ∀ k, k < g.bn → g.can o k = true → (g'.st o k).d2 ≤ (g.st o k).d2 ∧ (g'.st o k).t2 ≤ (g.st o k).t2 ∧ (g.st o k).r1 ≤ (g'.st o k).r1
  | 0, hk, _ => by
    have hi := ho 0 hk
    have e := h.need _ hi
    have w := h.w2 _ hi
    have k2 := h.k2 hi (hb' _ hi) (hb _ hi)
    have u := upq_anti (hb _ hi).need.1 h.inl.1 h.inl.2
    refine ⟨?_, ?_, ?_⟩
    · show 0 + upq (g'.need _) g'.inlet + (g'.W _).2 ≤ 0 + upq (g.need _) g.inlet + (g.W _).2
      rw [e]; omega
    · show g'.need _ ≤ g.need _
      omega
    · show g.need _ - g.k2 _ ≤ g'.need _ - g'.k2 _
      omega
  | k + 1, hk, hc => by
    rw [Fh.can_step, Bool.and_eq_true, decide_eq_true_eq] at hc
    obtain ⟨d, t, r⟩ := Fh.Le.st h hb' hb ho k (by omega) hc.1
    have hi := ho (k + 1) hk
    have hi0 := ho k (by omega)
    have e := h.need _ hi
    have w := h.w2 _ hi
    have k2 := h.k2 hi (hb' _ hi) (hb _ hi)
    have rt := h.rt _ _ hi0 hi
    have u := upq_anti (hb _ hi).need.1 (show 1 ≤ g.rate (o.getD k 0) (o.getD (k + 1) 0) by omega) rt.2
    refine ⟨?_, ?_, ?_⟩
    · show (g'.st o k).d2 + upq (g'.need _) (g'.rate (g'.st o k).bed _) + (g'.W _).2 ≤ (g.st o k).d2 + upq (g.need _) (g.rate (g.st o k).bed _) + (g.W _).2
      rw [e, Fh.st_bed, Fh.st_bed]; omega
    · show (g'.st o k).t2 + max 0 (g'.need _ - (g'.st o k).r1) ≤ (g.st o k).t2 + max 0 (g.need _ - (g.st o k).r1)
      rw [e]; omega
    · show g.need _ - g.k2 _ ≤ g'.need _ - g'.k2 _
      omega
/-- its best order is no later -/
theorem Fh.Le.best {g' g : Fh} (h : g'.Le g) (hok : g'.ok = true) (hb' : ∀ i, i < g.bn → g'.Bd i) (hb : ∀ i, i < g.bn → g.Bd i) (hn : 1 ≤ g.bn) (hres : g.reserve ≤ g'.reserve) {o : List Nat} (hf : g.fst = some o) (h1 : o.length = g.bn) (h2 : ∀ x ∈ o, x < g.bn) (h3 : o.Nodup) :
    g'.be = 0 ∧ ∀ o', g'.fst = some o' → (g'.sl o').d2 ≤ (g.sl o).d2 := by
  have ho : ∀ k, k < g.bn → o.getD k 0 < g.bn := fun k hk => by
    rw [List.getD_eq_getElem?_getD, List.getElem?_eq_getElem (by omega)]
    exact h2 _ (List.getElem_mem _)
  obtain ⟨_, hc, he⟩ := Fh.bst_in (c := o) hf
  have he : (g.st o (g.bn - 1)).t2 ≤ g.reserve := by unfold Fh.ens at he; simpa using he
  have hc' := h.can ho (show g.bn - 1 < g.bn by omega) hc
  obtain ⟨d, t, _⟩ := h.st hb' hb ho (g.bn - 1) (by omega) hc
  have n := h.n
  have io : IsOrd (zi o) g'.bn := by rw [n]; exact zi_ord h1 h2 h3
  have la : g'.la (zi o) = g'.st o (g.bn - 1) := by unfold Fh.la; rw [no_zi, n]
  have good : g'.Good (zi o) := ⟨hok, io, by rw [no_zi, n]; exact hc', by rw [la]; omega⟩
  have be : g'.be = 0 := by
    rcases Int.lt_trichotomy g'.be 0 with q | q | q
    · have z := once_be hok (by omega) io; have e := Fh.er0 good; omega
    · exact q
    · have z := once_be hok (by omega) io; have e := Fh.er0 good; omega
  refine ⟨be, fun o' hf' => ?_⟩
  have z := Fh.once hf' io good.can good.en
  rw [la] at z
  show (g'.sl o').d2 ≤ (g.st o (g.bn - 1)).d2
  omega
def Fh.wi (g : Fh) (n : Int) : Fh := { g with inlet := n }
def Fh.wd (g : Fh) (n : Int) : Fh := { g with winds := n }
def Fh.wrt (g : Fh) (ra : Option Addr) (rcap : Nat) (rs : List Rw) : Fh := { g with ra := ra, rcap := rcap, rs := rs }
def Fh.wbs (g : Fh) (ba : Option Addr) (bcap : Nat) (bs : List Bg) : Fh := { g with ba := ba, bcap := bcap, bs := bs }
theorem Fh.le_refl {g : Fh} (v : g.Vd) (hr : ∀ i j, i < g.bn → j < g.bn → 0 ≤ g.rate i j) : ∀ n, (g.wr n).Le g := fun n =>
  ⟨rfl, fun _ _ => rfl, fun _ _ => Int.le_refl _, fun _ _ => Int.le_refl _, fun i j hi hj => ⟨hr i j hi hj, Int.le_refl _⟩, ⟨v.inl.1, Int.le_refl _⟩⟩
theorem Fh.le_wi {g : Fh} (v : g.Vd) (hr : ∀ i j, i < g.bn → j < g.bn → 0 ≤ g.rate i j) {n : Int} (h : g.inlet ≤ n) : (g.wi n).Le g :=
  ⟨rfl, fun _ _ => rfl, fun _ _ => Int.le_refl _, fun _ _ => Int.le_refl _, fun i j hi hj => ⟨hr i j hi hj, Int.le_refl _⟩, ⟨v.inl.1, h⟩⟩
theorem Fh.wk_sub {g g' : Fh} (h : ∀ k, g'.wm.testBit k = true → g.wm.testBit k = true) (b : Bg) : ∀ q, (g'.wk b q).2 ≤ (g.wk b q).2
  | 0 => Int.le_refl _
  | q + 1 => by
    have ih := Fh.wk_sub h b q
    have hq := h q
    unfold Fh.wk
    cases e1 : g'.wm.testBit q <;> cases e2 : g.wm.testBit q <;> simp only [cond_true, cond_false]
    · exact ih
    · omega
    · rw [hq e1] at e2; cases e2
    · omega
theorem Fh.le_wd {g : Fh} (v : g.Vd) (hr : ∀ i j, i < g.bn → j < g.bn → 0 ≤ g.rate i j) {n : Int} (h : ∀ k, n.toNat.testBit k = true → g.wm.testBit k = true) : (g.wd n).Le g :=
  ⟨rfl, fun _ _ => rfl, fun i _ => Fh.wk_sub (g := g) (g' := g.wd n) h (g.B i) 4, fun _ _ => Int.le_refl _, fun i j hi hj => ⟨hr i j hi hj, Int.le_refl _⟩, ⟨v.inl.1, Int.le_refl _⟩⟩
end Go.Ax

/-
  Flood: harvests made anew: rates, leaks (written by program).
-/
namespace Go.Ax
open Go Go.RowKit Go.Proofs

def mnp (m n : Int) : Int := min 1073741824 (n + m)
def tg (m : Int) (b : Bg) : Bg := ⟨b.need, max 0 (b.l1 - m), max 0 (b.l2 - m), b.wa, b.wn, b.wcap, b.ws⟩
theorem getD_map {f : Int → Int} {l : List Int} {j : Nat} (h : j < l.length) : (l.map f).getD j 0 = f (l.getD j 0) := by
  rw [List.getD_eq_getElem?_getD, List.getElem?_map, List.getD_eq_getElem?_getD, List.getElem?_eq_getElem h]; rfl
theorem Fh.rate_in {g : Fh} {f : Nat} {H : Hp} (hok : g.ok = true) (a : g.At f H) : ∀ i j, i < g.bn → j < g.bn → 0 ≤ g.rate i j ∧ g.rate i j ≤ 1073741824 := fun i j hi hj => by
  have v := Fh.vd hok a
  have hr := v.r i hi
  have hl := (a.row (show i < g.rn by rw [v.rn]; exact hi)).2.1
  exact hr.2 _ (List.mem_of_getElem? (getI (l := (g.R i).l) (i := j) (by rw [hl, hr.1]; exact hj)))
theorem Fh.row_len {g : Fh} {f : Nat} {H : Hp} (hok : g.ok = true) (a : g.At f H) {i : Nat} (hi : i < g.bn) : (g.R i).l.length = g.bn := by
  have v := Fh.vd hok a
  rw [(a.row (show i < g.rn by rw [v.rn]; exact hi)).2.1, (v.r i hi).1]
/-- rates made anew -/
structure NewR (g : Fh) (m : Int) (rs : List Rw) : Prop where
  len : rs.length = g.bn
  l : ∀ i r, rs[i]? = some r → r.l = (g.R i).l.map (mnp m) ∧ r.n = r.l.length
theorem Fh.le_wrt {g : Fh} {f : Nat} {H : Hp} (hok : g.ok = true) (a : g.At f H) {m : Int} (h0 : 0 ≤ m) {ra : Option Addr} {rcap : Nat} {rs : List Rw} (h : NewR g m rs) : (g.wrt ra rcap rs).Le g ∧ (g.wrt ra rcap rs).ok = true := by
  have v := Fh.vd hok a
  have hin := Fh.rate_in hok a
  have hg : ∀ i, i < g.bn → rs[i]? = some (rs.getD i Rw.z) := fun i hi => by
    rw [List.getD_eq_getElem?_getD, List.getElem?_eq_getElem (by rw [h.len]; exact hi)]; rfl
  refine ⟨⟨rfl, fun _ _ => rfl, fun _ _ => Int.le_refl _, fun _ _ => Int.le_refl _, fun i j hi hj => ⟨(hin i j hi hj).1, ?_⟩, ⟨v.inl.1, Int.le_refl _⟩⟩, ?_⟩
  · have e := (h.l i _ (hg i hi)).1
    show _ ≤ (rs.getD i Rw.z).l.getD j 0
    rw [e, getD_map (by rw [Fh.row_len hok a hi]; exact hj)]
    have q := hin i j hi hj
    show g.rate i j ≤ min 1073741824 (g.rate i j + m)
    omega
  · unfold Fh.ok at hok ⊢
    simp only [Bool.and_eq_true] at hok ⊢
    obtain ⟨⟨⟨h1, h3, h4⟩, h6⟩, h7⟩ := hok
    refine ⟨⟨⟨h1, h3, ?_⟩, h6⟩, h7⟩
    rw [List.all_eq_true]
    intro r hr
    obtain ⟨i, hi⟩ := List.mem_iff_getElem?.1 hr
    obtain ⟨e1, e2⟩ := h.l i r hi
    have hib : i < g.bn := by rw [← h.len]; exact get_lt hi
    have ln := Fh.row_len (g := g) (f := f) (H := H) (by unfold Fh.ok; simp only [Bool.and_eq_true]; exact ⟨⟨⟨h1, h3, h4⟩, h6⟩, h7⟩) a hib
    unfold Rw.ok
    rw [Bool.and_eq_true, decide_eq_true_eq, List.all_eq_true]
    refine ⟨by rw [e2, e1, List.length_map, ln]; rfl, fun x hx => ?_⟩
    rw [e1] at hx
    obtain ⟨y, hy, rfl⟩ := List.mem_map.1 hx
    obtain ⟨j, hj⟩ := List.mem_iff_getElem?.1 hy
    have q := hin i j hib (by rw [← ln]; exact get_lt hj)
    have ey : g.rate i j = y := by unfold Fh.rate; rw [List.getD_eq_getElem?_getD, hj]; rfl
    unfold rtOk inB mnp
    simp only [Bool.and_eq_true, decide_eq_true_eq]
    omega
theorem Fh.ok_wi {g : Fh} {n : Int} (h : g.ok = true) (h1 : 1 ≤ n) (h2 : n ≤ 1073741824) : (g.wi n).ok = true := by
  unfold Fh.ok at h ⊢
  simp only [Bool.and_eq_true] at h ⊢
  exact ⟨⟨h.1.1, by show inB n 1 1073741824 = true; unfold inB; simp; omega⟩, h.2⟩
theorem Fh.ok_wd {g : Fh} {n : Int} (h : g.ok = true) (h1 : 1 ≤ n) (h2 : n ≤ 15) : (g.wd n).ok = true := by
  unfold Fh.ok at h ⊢
  simp only [Bool.and_eq_true] at h ⊢
  obtain ⟨⟨⟨⟨⟨q1, q2⟩, q3⟩, q4⟩, q6⟩, q7⟩ := h
  exact ⟨⟨⟨⟨⟨q1, q2⟩, by show inB n 1 15 = true; unfold inB; simp; omega⟩, q4⟩, q6⟩, q7⟩
theorem Fh.B_wbs {g : Fh} {m : Int} {ba : Option Addr} {bcap i : Nat} (hi : i < g.bs.length) : (g.wbs ba bcap (g.bs.map (tg m))).B i = tg m (g.B i) := by
  show (g.bs.map (tg m)).getD i Bg.z = _
  rw [List.getD_eq_getElem?_getD, List.getElem?_map, getB hi]; rfl
theorem Fh.le_wbs {g : Fh} {f : Nat} {H : Hp} (hok : g.ok = true) (a : g.At f H) {m : Int} (h0 : 0 ≤ m) {ba : Option Addr} {bcap : Nat} : (g.wbs ba bcap (g.bs.map (tg m))).Le g ∧ (g.wbs ba bcap (g.bs.map (tg m))).ok = true ∧
    ∀ i, i < g.bn → ((g.wbs ba bcap (g.bs.map (tg m))).W i).1 = (g.W i).1 ∧ ((g.wbs ba bcap (g.bs.map (tg m))).B i).l1 ≤ (g.B i).l1 := by
  have v := Fh.vd hok a
  have hin := Fh.rate_in hok a
  have hB : ∀ i, i < g.bn → (g.wbs ba bcap (g.bs.map (tg m))).B i = tg m (g.B i) := fun i hi => Fh.B_wbs (by rw [a.bl]; exact hi)
  have hW : ∀ i, i < g.bn → (g.wbs ba bcap (g.bs.map (tg m))).W i = g.W i := fun i hi => by unfold Fh.W; rw [hB i hi]; rfl
  refine ⟨⟨rfl, fun i hi => by unfold Fh.need; rw [hB i hi]; rfl, fun i hi => by rw [hW i hi]; exact Int.le_refl _, fun i hi => ?_, fun i j hi hj => ⟨(hin i j hi hj).1, Int.le_refl _⟩, ⟨v.inl.1, Int.le_refl _⟩⟩, ?_, fun i hi => ⟨by rw [hW i hi], ?_⟩⟩
  · rw [hB i hi]
    have := v.b i hi
    show max 0 ((g.B i).l2 - m) ≤ _
    omega
  · unfold Fh.ok at hok ⊢
    simp only [Bool.and_eq_true] at hok ⊢
    obtain ⟨⟨⟨⟨⟨q1, q2⟩, q3⟩, q4⟩, q6⟩, q7⟩ := hok
    refine ⟨⟨⟨⟨⟨q1, ?_⟩, q3⟩, q4⟩, q6⟩, q7⟩
    show (g.bs.map (tg m)).all Bg.ok = true
    rw [List.all_eq_true] at q2 ⊢
    intro b hb
    obtain ⟨c, hc, rfl⟩ := List.mem_map.1 hb
    have q := q2 c hc
    unfold Bg.ok at q ⊢
    simp only [Bool.and_eq_true] at q ⊢
    obtain ⟨⟨⟨r1, r2⟩, r3⟩, r4⟩ := q
    refine ⟨⟨⟨r1, ?_⟩, r3⟩, r4⟩
    show spanB (max 0 (c.l1 - m)) (max 0 (c.l2 - m)) 0 1048576 = true
    unfold spanB at r2 ⊢
    simp only [Bool.and_eq_true, decide_eq_true_eq] at r2 ⊢
    omega
  · rw [hB i hi]
    have := v.b i hi
    show max 0 ((g.B i).l1 - m) ≤ _
    omega
theorem Fh.st1_le {g' g : Fh} (h : g'.Le g) (hw : ∀ i, i < g.bn → (g'.W i).1 = (g.W i).1 ∧ (g'.B i).l1 ≤ (g.B i).l1) (hb' : ∀ i, i < g.bn → g'.Bd i) (hb : ∀ i, i < g.bn → g.Bd i) {o : List Nat} (ho : ∀ k, k < g.bn → o.getD k 0 < g.bn) : ∀ k, k < g.bn → (g'.st o k).t1 ≤ (g.st o k).t1 ∧ (g.st o k).r2 ≤ (g'.st o k).r2 := by
  have hk1 : ∀ i, i < g.bn → g'.k1 i ≤ g.k1 i := fun i hi => by
    have e := Int.mul_le_mul_of_nonneg_left (hw i hi).2 (hb i hi).w1.1
    have := h.need i hi
    unfold Fh.k1; rw [(hw i hi).1]; omega
  intro k
  induction k with
  | zero =>
    intro hk
    have hi := ho 0 hk
    have e := h.need _ hi
    have q := hk1 _ hi
    exact ⟨by show g'.need _ ≤ g.need _; omega, by show g.need _ - g.k1 _ ≤ g'.need _ - g'.k1 _; omega⟩
  | succ k ih =>
    intro hk
    have hi := ho (k + 1) hk
    have e := h.need _ hi
    have q := hk1 _ hi
    have z := ih (by omega)
    refine ⟨?_, by show g.need _ - g.k1 _ ≤ g'.need _ - g'.k1 _; omega⟩
    show (g'.st o k).t1 + max 0 (g'.need _ - (g'.st o k).r2) ≤ (g.st o k).t1 + max 0 (g.need _ - (g.st o k).r2)
    rw [e]; omega
end Go.Ax

/-
  Flood: the law FloodMore, whatever the input (written by program).
-/
namespace Go.Ax
open Go Go.RowKit Go.Proofs

theorem conv_66 (x : Int) (h1 : 0 ≤ x) (h2 : x ≤ 65535) {S : Rg} {n : Nat} {o : Operand} {d : Option Nat} (hx : evS S o = some (.int .u16 x)) : pureOp Try.prog (frS n S) ⟨d, .convert 66 3 o, 3, "", #[], none⟩ = some (iv x) := by
  have e : ∀ y : Int, prun Try.prog (Go.convert 66 3 (.int .u16 y)) = some (.int .i64 (IntKind.i64.wrap y)) := fun y => by kernel_rfl
  unfold pureOp
  simp only [ev_frS, hx, flat, flat1, cond_true, e, wrap_i64 (x := x) ⟨(by omega), (by omega)⟩]
theorem conv_5m (x : Int) (h1 : 0 ≤ x) (h2 : x ≤ 255) {S : Rg} {n : Nat} {o : Operand} {d : Option Nat} (hx : evS S o = some (.int .u8 x)) : pureOp Try.prog (frS n S) ⟨d, .convert 5 3 o, 3, "", #[], none⟩ = some (iv x) := by
  have e : ∀ y : Int, prun Try.prog (Go.convert 5 3 (.int .u8 y)) = some (.int .i64 (IntKind.i64.wrap y)) := fun y => by kernel_rfl
  unfold pureOp
  simp only [ev_frS, hx, flat, flat1, cond_true, e, wrap_i64 (x := x) ⟨(by omega), (by omega)⟩]
theorem h_and {n : Nat} {S : Rg} {x y : Operand} {o : Option Tmp} {a b : Nat} (ha : a < 65536) (hb : b < 65536) (hx : evS S x = some (iv (a : Int))) (hy : evS S y = some (iv (b : Int))) : pureOp Try.prog (frS n S) ⟨o, .binOp .and 3 x y 3, 3, "", #[], none⟩ = some (iv ((a &&& b : Nat) : Int)) := by
  have e : prun Try.prog (do eqGuard .and 3 x y (iv (a : Int)) (iv (b : Int)); binOp .and 3 (iv (a : Int)) (iv (b : Int))) = some (iv ((a &&& b : Nat) : Int)) := by
    show some (Value.int .i64 (IntKind.i64.wrap ((BitVec.ofInt 64 (a : Int) &&& BitVec.ofInt 64 (b : Int)).toNat : Int))) = _
    have e : (BitVec.ofInt 64 (a : Int) &&& BitVec.ofInt 64 (b : Int)).toNat = a &&& b := by
      have h1 : BitVec.ofInt 64 (a : Int) = BitVec.ofNat 64 a := by simp
      have h2 : BitVec.ofInt 64 (b : Int) = BitVec.ofNat 64 b := by simp
      rw [h1, h2, BitVec.toNat_and]
      simp only [BitVec.toNat_ofNat]
      rw [Nat.mod_eq_of_lt (a := a) (by omega), Nat.mod_eq_of_lt (a := b) (by omega)]
    have l := Nat.and_le_left (n := a) (m := b)
    rw [e, wrap_i64 ⟨by omega, by omega⟩]
  unfold pureOp
  simp only [ev_frS, hx, hy, flat, flat1, Bool.and_self, cond_true, e]
theorem se26m : sliceElem Try.prog 26 = some (3, 1) := by kernel_rfl
theorem z3m : zeroOf Try.prog 3 = some (iv 0) := by kernel_rfl
theorem u26m : Try.prog.underlying 26 = some (.slice 3) := by kernel_rfl
theorem se23m : sliceElem Try.prog 23 = some (26, 1) := by kernel_rfl
theorem z26m : zeroOf Try.prog 26 = some (.slice none 0 0) := by kernel_rfl
theorem u23m : Try.prog.underlying 23 = some (.slice 26) := by kernel_rfl
theorem se22m : sliceElem Try.prog 22 = some (57, 4) := by kernel_rfl
theorem z57m : zeroOf Try.prog 57 = some (.agg #[iv 0, iv 0, iv 0, .slice none 0 0]) := by kernel_rfl
theorem u22m : Try.prog.underlying 22 = some (.slice 57) := by kernel_rfl
theorem se67m : sliceElem Try.prog 67 = some (25, 5) := by kernel_rfl
theorem z25m : zeroOf Try.prog 25 = some (.agg #[.slice none 0 0, .slice none 0 0, iv 0, iv 0, iv 0]) := by kernel_rfl
theorem wN_exit {P : Program} {kn : FuncId → Option Bool} {lo n : Nat} {rd : Bool} {S : Rg} {H : Hp} {id : Nat} {K : Exit → Rg → Hp → Prop} (h : K (.exit id) S H) : wC P kn lo n rd (.exit id) S H K := h
set_option maxHeartbeats 4000000 in
theorem heap_build4h {lo n : Nat} {S : Rg} {H : Hp} {d : Option Tmp} {ty : TypeId} {p : String} {x y z u : Operand} {a b c e : Fh} (hx : evS S x = some (.agg a.v.toArray)) (hy : evS S y = some (.agg b.v.toArray)) (hz : evS S z = some (.agg c.v.toArray)) (hu : evS S u = some (.agg e.v.toArray)) :
    heapOp Try.prog lo (frS n S) H ⟨d, .buildSlice 67 4 #[(0, x), (1, y), (2, z), (3, u)], ty, p, #[], none⟩ = some (.val (.slice (some ⟨H.next, 0, none⟩) 4 4) (H.new (.cells (a.v ++ b.v ++ c.v ++ e.v) 25 false)), .heavy) := by
  unfold heapOp
  simp only [partsOf, ev_frS, hx, hy, hz, hu, se67m, z25m]
  rfl
theorem rwc_len (l : List Rw) : (rwc l).length = l.length := by unfold rwc; rw [flat_len (size := 1) (fun _ _ => rfl), Nat.mul_one]
theorem rwc_app (l : List Rw) (r : Rw) : rwc (l ++ [r]) = rwc l ++ r.f := by unfold rwc; rw [List.flatMap_append]; simp
theorem bgc_len (l : List Bg) : (bgc l).length = l.length * 4 := by unfold bgc; rw [flat_len (size := 4) (fun _ _ => rfl)]
theorem bgc_app (l : List Bg) (r : Bg) : bgc (l ++ [r]) = bgc l ++ r.f := by unfold bgc; rw [List.flatMap_append]; simp
theorem ints_app1 (l : List Int) (x : Int) : ints (l ++ [x]) = ints l ++ [iv x] := by simp [ints]
theorem take_map {α β : Type} {f : α → β} {l : List α} {i : Nat} {x : α} (h : l[i]? = some x) : (l.take (i + 1)).map f = (l.take i).map f ++ [f x] := by
  rw [List.take_add_one, h, List.map_append]; rfl
/-- the rows that are made -/
def JR (f : Nat) (H : Hp) (rv : Value) (rs : List Rw) : Prop := ∀ r ∈ rs, Sl H r.ra r.n r.cap (ints r.l) ∧ r.l.length = r.n ∧ ∀ x, r.ra = some ⟨x, 0, none⟩ → f ≤ x ∧ x < H.next ∧ x ∉ (bkv rv).toList
theorem JR.keep {f : Nat} {H H1 : Hp} {rv : Value} {rs : List Rw} {W : List Nat} (h : JR f H rv rs) (k : Keep H H1 W) (hW : ∀ x ∈ W, x < f) : JR f H1 rv rs := fun r hr => by
  obtain ⟨h1, h2, h3⟩ := h r hr
  exact ⟨k.sl h1 fun x e q => by have := h3 x e; have := hW x q; omega, h2, fun x e => ⟨(h3 x e).1, Nat.lt_of_lt_of_le (h3 x e).2.1 k.1, (h3 x e).2.2⟩⟩
theorem JR.keepB {f f2 : Nat} {H H1 : Hp} {rv : Value} {rs : List Rw} (h : JR f H rv rs) (k : KeepB f2 H H1) (hf : H.next ≤ f2) : JR f H1 rv rs := fun r hr => by
  obtain ⟨h1, h2, h3⟩ := h r hr
  exact ⟨k.sl h1 fun x e => by have := h3 x e; omega, h2, fun x e => ⟨(h3 x e).1, Nat.lt_of_lt_of_le (h3 x e).2.1 k.1, (h3 x e).2.2⟩⟩
theorem JR.app {f n c : Nat} {H H1 : Hp} {rv : Value} {rs : List Rw} {r : Rw} (h : JR f H rv rs) (k : Keep H H1 (bkv rv).toList) (hr : Sl H r.ra r.n r.cap (ints r.l) ∧ r.l.length = r.n ∧ ∀ x, r.ra = some ⟨x, 0, none⟩ → f ≤ x ∧ x < H.next ∧ x ∉ (bkv rv).toList) : JR f H1 (.slice (some ⟨H.next, 0, none⟩) n c) (rs ++ [r]) := fun y hy => by
  have key : Sl H y.ra y.n y.cap (ints y.l) ∧ y.l.length = y.n ∧ ∀ x, y.ra = some ⟨x, 0, none⟩ → f ≤ x ∧ x < H.next ∧ x ∉ (bkv rv).toList := by
    rcases List.mem_append.1 hy with hy | hy
    · exact h y hy
    · simp at hy; subst hy; exact hr
  obtain ⟨h1, h2, h3⟩ := key
  exact ⟨k.sl h1 fun x e q => (h3 x e).2.2 q, h2, fun x e => ⟨(h3 x e).1, Nat.lt_of_lt_of_le (h3 x e).2.1 k.1, by have := (h3 x e).2.1; simp [bkv]; omega⟩⟩
structure PreR (g : Fh) (m : Int) (i : Nat) (rs : List Rw) : Prop where
  len : rs.length = i
  l : ∀ j r, rs[j]? = some r → r.l = (g.R j).l.map (mnp m) ∧ r.n = r.l.length
theorem PreR.app {g : Fh} {m : Int} {i : Nat} {rs : List Rw} (h : PreR g m i rs) {r : Rw} (h1 : r.l = (g.R i).l.map (mnp m)) (h2 : r.n = r.l.length) : PreR g m (i + 1) (rs ++ [r]) where
  len := by rw [List.length_append, h.len]; rfl
  l := fun j y hy => by
    rw [List.getElem?_append] at hy
    split at hy
    · exact h.l j y hy
    · next q =>
      have e : j = i := by
        have := get_lt hy; simp at this; have := h.len; omega
      subst e
      rw [h.len, Nat.sub_self] at hy
      cases hy
      exact ⟨h1, h2⟩
theorem Fh.At.mono {g : Fh} {f f' : Nat} {H : Hp} (h : g.At f H) (hf : f ≤ f') (h2 : f' ≤ H.next) : g.At f' H :=
  ⟨h2, h.b, h.r, h.bl, h.rl, fun x e => Nat.lt_of_lt_of_le (h.bf x e) hf, fun x e => Nat.lt_of_lt_of_le (h.rf x e) hf, fun b hb => ⟨(h.bi b hb).1, (h.bi b hb).2.1, fun x e => Nat.lt_of_lt_of_le ((h.bi b hb).2.2 x e) hf⟩, fun b hb => ⟨(h.ri b hb).1, (h.ri b hb).2.1, fun x e => Nat.lt_of_lt_of_le ((h.ri b hb).2.2 x e) hf⟩⟩
theorem Fh.At.wi {g : Fh} {f : Nat} {H : Hp} (h : g.At f H) (n : Int) : (g.wi n).At f H := ⟨h.le, h.b, h.r, h.bl, h.rl, h.bf, h.rf, h.bi, h.ri⟩
theorem Fh.At.wd {g : Fh} {f : Nat} {H : Hp} (h : g.At f H) (n : Int) : (g.wd n).At f H := ⟨h.le, h.b, h.r, h.bl, h.rl, h.bf, h.rf, h.bi, h.ri⟩
theorem Fh.At.wrt {g : Fh} {f : Nat} {H : Hp} (h : g.At f H) {ra : Option Addr} {rcap : Nat} {rs : List Rw} {f0 : Nat} {rv : Value} (hs : Sl H ra g.rn rcap (rwc rs)) (hl : rs.length = g.rn) (hj : JR f0 H rv rs) : (g.wrt ra rcap rs).At H.next H :=
  ⟨Nat.le_refl _, h.b, hs, h.bl, hl, fun x e => Nat.lt_of_lt_of_le (h.bf x e) h.le, hs.old, fun b hb => ⟨(h.bi b hb).1, (h.bi b hb).2.1, fun x e => Nat.lt_of_lt_of_le ((h.bi b hb).2.2 x e) h.le⟩, fun r hr => ⟨(hj r hr).1, (hj r hr).2.1, fun x e => ((hj r hr).2.2 x e).2.1⟩⟩
theorem Fh.At.wbs {g : Fh} {f : Nat} {H : Hp} (h : g.At f H) {ba : Option Addr} {bcap : Nat} {m : Int} (hs : Sl H ba g.bn bcap (bgc (g.bs.map (tg m)))) : (g.wbs ba bcap (g.bs.map (tg m))).At H.next H :=
  ⟨Nat.le_refl _, hs, h.r, by show (g.bs.map (tg m)).length = _; rw [List.length_map]; exact h.bl, h.rl, hs.old, fun x e => Nat.lt_of_lt_of_le (h.rf x e) h.le, fun b hb => by
    obtain ⟨c, hc, rfl⟩ := List.mem_map.1 hb
    exact ⟨(h.bi c hc).1, (h.bi c hc).2.1, fun x e => Nat.lt_of_lt_of_le ((h.bi c hc).2.2 x e) h.le⟩, fun b hb => ⟨(h.ri b hb).1, (h.ri b hb).2.1, fun x e => Nat.lt_of_lt_of_le ((h.ri b hb).2.2 x e) h.le⟩⟩
/-- what is known of each of the four -/
def Four (g : Fh) (o : List Nat) (H : Hp) (g' : Fh) : Prop := g'.At H.next H ∧ g'.ok = true ∧ g'.bn = g.bn ∧ g'.be = 0 ∧ ∀ o', g'.fst = some o' → (g'.sl o').d2 ≤ (g.sl o).d2
theorem Four.of {g g' : Fh} {f : Nat} {H : Hp} (hok : g.ok = true) (a : g.At f H) {o : List Nat} (hf : g.fst = some o) (h1 : o.length = g.bn) (h2 : ∀ x ∈ o, x < g.bn) (h3 : o.Nodup) (a' : g'.At H.next H) (hok' : g'.ok = true) (le : g'.Le g) (hr : g.reserve ≤ g'.reserve) : Four g o H g' := by
  have v := Fh.vd hok a
  have v' := Fh.vd hok' a'
  have n := le.n
  obtain ⟨b1, b2⟩ := le.best hok' (fun i hi => Fh.bd v' a' (by rw [n]; exact hi)) (fun i hi => Fh.bd v a hi) v.n.1 hr hf h1 h2 h3
  exact ⟨a', hok', n, b1, b2⟩
theorem row4 {a b c d : Fh} {i : Nat} (hi : i < 4) : row 5 (a.v ++ b.v ++ c.v ++ d.v) (0 + i * 5) = some (match i with | 0 => a | 1 => b | 2 => c | _ => d).v := by
  match i, hi with
  | 0, _ => rfl
  | 1, _ => rfl
  | 2, _ => rfl
  | 3, _ => rfl
section
variable {kn : FuncId → Option Bool} {lo : Nat} {H : Hp}
set_option maxRecDepth 100000 in
set_option maxHeartbeats 8000000 in
/-- FloodMore -/
theorem law_more (hkn : kn 13 = some true) {g : Fh} {f m wq : Nat} (hat : g.At f H) (hm : m ≤ 65535) (hwq : wq ≤ 255) (hlo : lo ≤ H.next) : ∃ H', FnX Try.prog kn lo 10 [.agg g.v.toArray, .int .u16 (m : Int), .int .u8 (wq : Int)] H (.bool true) H' := by
  have key := fnX_low (kn := kn) (lo := lo) (H := H) (args := [.agg g.v.toArray, .int .u16 (m : Int), .int .u8 (wq : Int)]) (Q := fun w H' => w = .bool true) Try.func10 B10 N10 Z10 L10 (by simp) ?_
  · obtain ⟨w, H', h, rfl⟩ := key; exact ⟨H', h⟩
  have hfl := hat.le
  refine wN_seq ?_
  refine wN_box (v := .agg g.v.toArray) rfl ?_
  intro H1 kH1 nH1 c1
  have c1 : Cl H1 H.next [.slice g.ba g.bn g.bcap, .slice g.ra g.rn g.rcap, iv g.inlet, iv g.reserve, iv g.winds] := c1
  have mH1 := kH1.1
  have hat := hat.keep kH1 (by simp)
  refine wN_mov (v := .bool false) rfl ?_
  refine wN_end ?_
  refine wN_seq ?_
  refine wN_lda (b := H.next) (o := 0) rfl c1.rd (show row 5 _ _ = some [.slice g.ba g.bn g.bcap, .slice g.ra g.rn g.rcap, iv g.inlet, iv g.reserve, iv g.winds] from rfl) ?_
  obtain ⟨_, H2, fH2, tgt, rfl, kH2, hgr⟩ := great_ok (kn := kn) (lo := lo) (H := H1) (q := 5) hat (by omega)
  refine wN_callf (vs := [.agg g.v.toArray, iv 5]) rfl (callX_args fH2) ?_
  have mH2 := kH2.1
  have hat := hat.keep kH2 (by simp)
  have c1 := kH2.cl c1 (by simp)
  cases tgt
  · have hgr := hgr rfl
    refine wN_end ?_
    refine condF ?_
    first | refine wN_skip ?_ | skip
    refine wN_seq ?_
    refine wN_lda (b := H.next) (o := 0) rfl c1.rd (show row 5 _ _ = some [.slice g.ba g.bn g.bcap, .slice g.ra g.rn g.rcap, iv g.inlet, iv g.reserve, iv g.winds] from rfl) ?_
    obtain ⟨wH3, H3, fH3, kH3, hb⟩ := Best_ok (kn := kn) (lo := lo) (H := H2) hat (by omega)
    have mH3 := kH3.1
    have hat := hat.keep kH3 (by simp)
    have c1 := kH3.cl c1 (by simp)
    rcases hb with ⟨hbe, rfl⟩ | ⟨hbe, hok, sb, o, rfl, hfst, hord⟩
    · refine wN_callf (vs := [.agg g.v.toArray]) rfl (callX_args fH3) ?_
      refine wN_mov (v := .tuple #[.slice none 0 0, iv g.be]) rfl ?_
      refine wN_pur (v := .slice none 0 0) rfl (by kernel_rfl) ?_
      refine wN_pur (v := iv g.be) rfl (by kernel_rfl) ?_
      refine wN_mov (v := .slice none 0 0) rfl ?_
      refine wN_mov (v := iv g.be) rfl ?_
      refine wN_end ?_
      refine wN_seq ?_
      refine wN_mov (v := iv g.be) rfl ?_
      refine wN_c_neq (a := g.be) (b := 0) rfl rfl ?_
      refine wN_end ?_
      refine And.intro (fun q1 => ?_) (fun q1 => ?_)
      · have q1 : g.be ≠ 0 := by simpa using q1
        refine wN_seq ?_
        refine wN_mov (v := .slice none 0 0) rfl ?_
        refine wN_len (m := 0) rfl ?_
        refine wN_b_eql (a := 0) (b := 0) rfl rfl ?_
        intro t2 g2; obtain rfl : t2 = true := by rw [← g2]; rfl
        refine wN_mov (v := .bool true) rfl ?_
        refine wN_g rfl (wN_callf (vs := []) rfl (callX_known hkn) ?_)
        refine wN_pur (v := .bool true) rfl rfl ?_
        refine wN_mov (v := .bool true) rfl ?_
        refine wN_end ?_
        exact And.intro trivial (Exists.intro _ (And.intro rfl rfl))
      · have q1 : ¬ (g.be ≠ 0) := by simpa using q1
        exfalso; exact hbe (by omega)
    · obtain ⟨hsbf, hso, ho1, ho2, ho3, hcan⟩ := hord
      have v := Fh.vd hok hat
      have vn := v.n
      have lso := hso.lt
      obtain ⟨_, _, hens⟩ := Fh.bst_in (c := o) hfst
      have hens : (g.st o (g.bn - 1)).t2 ≤ g.reserve := by unfold Fh.ens at hens; simpa using hens
      have iso := zi_ord ho1 ho2 ho3
      have good : g.Good (zi o) := ⟨hok, iso, by rw [no_zi]; exact hcan, by show (g.st (no (zi o)) (g.bn - 1)).t2 ≤ _; rw [no_zi]; exact hens⟩
      have hgo : ∀ k, k < g.bn → o.getD k 0 < g.bn := fun k hk => by rw [List.getD_eq_getElem?_getD, List.getElem?_eq_getElem (by omega)]; exact ho2 _ (List.getElem_mem _)
      have vres := v.res
      have vinl := v.inl
      have vw := v.w
      have vrn := v.rn
      have hri := Fh.rate_in hok hat
      refine wN_callf (vs := [.agg g.v.toArray]) rfl (callX_args fH3) ?_
      refine wN_mov (v := .tuple #[.slice (some ⟨sb, 0, none⟩) g.bn g.bn, iv 0]) rfl ?_
      refine wN_pur (v := .slice (some ⟨sb, 0, none⟩) g.bn g.bn) rfl (by kernel_rfl) ?_
      refine wN_pur (v := iv 0) rfl (by kernel_rfl) ?_
      refine wN_mov (v := .slice (some ⟨sb, 0, none⟩) g.bn g.bn) rfl ?_
      refine wN_mov (v := iv 0) rfl ?_
      refine wN_end ?_
      refine wN_seq ?_
      refine wN_mov (v := iv 0) rfl ?_
      refine wN_c_neq (a := 0) (b := 0) rfl rfl ?_
      refine wN_end ?_
      refine condF ?_
      first | refine wN_skip ?_ | skip
      refine wN_seq ?_
      refine wN_lda (b := H.next) (o := 0) rfl c1.rd (show row 5 _ _ = some [.slice g.ba g.bn g.bcap, .slice g.ra g.rn g.rcap, iv g.inlet, iv g.reserve, iv g.winds] from rfl) ?_
      refine wN_mov (v := .slice (some ⟨sb, 0, none⟩) g.bn g.bn) rfl ?_
      have hlo1 : Lf H3 (some ⟨sb, 0, none⟩) g.bn g.bn (zi o) := ⟨hso.cl.sl (Nat.le_refl _), by rw [zi_len]; exact ho1, fun b e => by cases e; exact hso.fx⟩
      obtain ⟨wH4, H4, fH4, kH4, la1, lc1, rfl, hl1⟩ := Times_v (kn := kn) (lo := lo) (H := H3) (g := g) hat hlo1 (by omega)
      have ero1 := Fh.er0 good
      obtain ⟨tw1, tw2⟩ := Fh.tv ero1
      rw [tw1, tw2, ero1, Fh.fs_len, show g.la (zi o) = g.sl o from by unfold Fh.la; rw [no_zi]] at fH4
      rw [tw1, Fh.fs_len, no_zi] at hl1
      have mH4 := kH4.1
      have hat := hat.keep kH4 (by simp)
      have c1 := kH4.cl c1 (by simp)
      have hso := kH4.sc hso (by simp)
      have fl1 := hl1.old
      refine wN_callf (vs := [.agg g.v.toArray, slv sb g.bn g.bn]) (v := .tuple #[.slice la1 g.bn lc1, .agg (g.sl o).u.toArray, iv 0]) rfl (callX_args fH4) ?_
      refine wN_mov (v := .tuple #[.slice la1 g.bn lc1, .agg (g.sl o).u.toArray, iv 0]) rfl ?_
      refine wN_pur (v := .slice la1 g.bn lc1) rfl (by kernel_rfl) ?_
      refine wN_pur (v := .agg (g.sl o).u.toArray) rfl (by kernel_rfl) ?_
      refine wN_pur (v := iv 0) rfl (by kernel_rfl) ?_
      refine wN_alc ?_
      intro H5 kH5 nH5 c5
      have c5 : Cl H5 H4.next [iv 0, iv 0, iv 0, iv 0, iv 0, iv 0, iv 0, iv 0] := c5
      have mH5 := kH5.1
      have hat := hat.keep kH5 (by simp)
      have c1 := kH5.cl c1 (by simp)
      have hso := kH5.sc hso (by simp)
      have hl1 := kH5.sl0 hl1
      refine wN_mov (v := .slice la1 g.bn lc1) rfl ?_
      refine wN_sta (b := H4.next) (o := 0) rfl rfl c5 (by omega) rfl rfl (by simp) ?_
      intro H6 kH6 nH6 sH6
      have mH6 := kH6.1
      have hat := hat.keep kH6 (fun x hx => by first | (simp at hx; done) | (simp at hx; omega))
      have c1 := kH6.cl c1 (by first | (simp; done) | (simp; omega))
      have hso := kH6.sc hso (by first | (simp; done) | (simp; omega))
      have hl1 := kH6.sl hl1 (fun b e => by have := fl1 b e; first | (simp; done) | (simp; omega))
      have c5 : Cl H6 H4.next [iv ((g.sl o).t1), iv ((g.sl o).t2), iv ((g.sl o).l1), iv ((g.sl o).l2), iv ((g.sl o).s1), iv ((g.sl o).s2), iv ((g.sl o).r1), iv ((g.sl o).r2)] := sH6
      refine wN_mov (v := iv 0) rfl ?_
      refine wN_end ?_
      refine wN_seq ?_
      refine wN_mov (v := iv 0) rfl ?_
      refine wN_b_neq (a := 0) (b := 0) rfl rfl ?_
      intro t3 g3; obtain rfl : t3 = false := by rw [← g3]; rfl
      refine wN_mov (v := .bool false) rfl ?_
      refine wN_g rfl (wN_mov (v := .slice la1 g.bn lc1) rfl ?_)
      refine wN_g rfl (wN_len (m := g.bn) rfl ?_)
      refine wN_g rfl (wN_mov (v := .slice (some ⟨sb, 0, none⟩) g.bn g.bn) rfl ?_)
      refine wN_g rfl (wN_len (m := g.bn) rfl ?_)
      refine wN_g rfl (wN_b_neq (a := (g.bn : Int)) (b := (g.bn : Int)) rfl rfl ?_)
      intro t4 g4; cases t4
      · have g4 : ¬ ((g.bn : Int) ≠ (g.bn : Int)) := by simpa using g4
        refine wN_pur (v := .bool false) rfl rfl ?_
        refine wN_mov (v := .bool false) rfl ?_
        refine wN_g rfl (wN_mov (v := .slice la1 g.bn lc1) rfl ?_)
        refine wN_g rfl (wN_len (m := g.bn) rfl ?_)
        refine wN_g rfl (wN_b_eql (a := (g.bn : Int)) (b := 0) rfl rfl ?_)
        intro t5 g5; cases t5
        · have g5 : ¬ ((g.bn : Int) = 0) := by simpa using g5
          refine wN_pur (v := .bool false) rfl rfl ?_
          refine wN_end ?_
          refine condF ?_
          first | refine wN_skip ?_ | skip
          refine wN_seq ?_
          refine wN_mov (v := .slice la1 g.bn lc1) rfl ?_
          refine wN_mov (v := .slice la1 g.bn lc1) rfl ?_
          refine wN_len (m := g.bn) rfl ?_
          refine wN_sub (a := (g.bn : Int)) (b := 1) rfl rfl ⟨by omega, by omega⟩ ?_
          rcases id hl1 with ⟨_, h0, _⟩ | ⟨xl1, el1, rl1, _⟩
          · omega
          have ll1 := rl1.lt
          refine wN_idx (b := xl1) (o := 0) (k := g.bn - 1) (j := (g.bn : Int) - 1) (by rw [← el1]; rfl) rfl (by omega) (by omega) ?_
          refine wN_addo (b := xl1) (o := 0 + (g.bn - 1) * 5) rfl ?_
          refine wN_addo (b := xl1) (o := 0 + (g.bn - 1) * 5 + 3) rfl ?_
          refine wN_ld (b := xl1) (o := 0 + (g.bn - 1) * 5 + 4) (v := iv ((g.sl o).d2)) rfl rl1 (flc_at' (j := 4) (Fh.fs_at (by omega)) rfl) ?_
          refine wN_mov (v := iv ((g.sl o).d2)) rfl ?_
          refine wN_end ?_
          refine wD_seq ?_
          refine wD_lda (b := H.next) (o := 0) rfl c1.rd (show row 5 _ _ = some [.slice g.ba g.bn g.bcap, .slice g.ra g.rn g.rcap, iv g.inlet, iv g.reserve, iv g.winds] from rfl) ?_
          refine wD_lda (b := H.next) (o := 0) rfl c1.rd (show row 5 _ _ = some [.slice g.ba g.bn g.bcap, .slice g.ra g.rn g.rcap, iv g.inlet, iv g.reserve, iv g.winds] from rfl) ?_
          refine wD_lda (b := H.next) (o := 0) rfl c1.rd (show row 5 _ _ = some [.slice g.ba g.bn g.bcap, .slice g.ra g.rn g.rcap, iv g.inlet, iv g.reserve, iv g.winds] from rfl) ?_
          refine wD_lda (b := H.next) (o := 0) rfl c1.rd (show row 5 _ _ = some [.slice g.ba g.bn g.bcap, .slice g.ra g.rn g.rcap, iv g.inlet, iv g.reserve, iv g.winds] from rfl) ?_
          refine wD_lda (b := H.next) (o := 0) rfl c1.rd (show row 5 _ _ = some [.slice g.ba g.bn g.bcap, .slice g.ra g.rn g.rcap, iv g.inlet, iv g.reserve, iv g.winds] from rfl) ?_
          refine wD_alc ?_
          intro H7 kH7 nH7 c7
          have c7 : Cl H7 H6.next [.slice none 0 0, .slice none 0 0, iv 0, iv 0, iv 0] := c7
          have mH7 := kH7.1
          have hat := hat.keep kH7 (by simp)
          have c1 := kH7.cl c1 (by simp)
          have hso := kH7.sc hso (by simp)
          have hl1 := kH7.sl0 hl1
          have c5 := kH7.cl c5 (by simp)
          have rl1 := kH7.rd rl1 (by simp)
          refine wD_alc ?_
          intro H8 kH8 nH8 c8
          have c8 : Cl H8 H7.next [.slice none 0 0, .slice none 0 0, iv 0, iv 0, iv 0] := c8
          have mH8 := kH8.1
          have hat := hat.keep kH8 (by simp)
          have c1 := kH8.cl c1 (by simp)
          have hso := kH8.sc hso (by simp)
          have hl1 := kH8.sl0 hl1
          have c5 := kH8.cl c5 (by simp)
          have rl1 := kH8.rd rl1 (by simp)
          have c7 := kH8.cl c7 (by simp)
          refine wD_alc ?_
          intro H9 kH9 nH9 c9
          have c9 : Cl H9 H8.next [.slice none 0 0, .slice none 0 0, iv 0, iv 0, iv 0] := c9
          have mH9 := kH9.1
          have hat := hat.keep kH9 (by simp)
          have c1 := kH9.cl c1 (by simp)
          have hso := kH9.sc hso (by simp)
          have hl1 := kH9.sl0 hl1
          have c5 := kH9.cl c5 (by simp)
          have rl1 := kH9.rd rl1 (by simp)
          have c7 := kH9.cl c7 (by simp)
          have c8 := kH9.cl c8 (by simp)
          refine wD_alc ?_
          intro H10 kH10 nH10 c10
          have c10 : Cl H10 H9.next [.slice none 0 0, .slice none 0 0, iv 0, iv 0, iv 0] := c10
          have mH10 := kH10.1
          have hat := hat.keep kH10 (by simp)
          have c1 := kH10.cl c1 (by simp)
          have hso := kH10.sc hso (by simp)
          have hl1 := kH10.sl0 hl1
          have c5 := kH10.cl c5 (by simp)
          have rl1 := kH10.rd rl1 (by simp)
          have c7 := kH10.cl c7 (by simp)
          have c8 := kH10.cl c8 (by simp)
          have c9 := kH10.cl c9 (by simp)
          refine wD_alc ?_
          intro H11 kH11 nH11 c11
          have c11 : Cl H11 H10.next [.slice none 0 0, .slice none 0 0, iv 0, iv 0, iv 0] := c11
          have mH11 := kH11.1
          have hat := hat.keep kH11 (by simp)
          have c1 := kH11.cl c1 (by simp)
          have hso := kH11.sc hso (by simp)
          have hl1 := kH11.sl0 hl1
          have c5 := kH11.cl c5 (by simp)
          have rl1 := kH11.rd rl1 (by simp)
          have c7 := kH11.cl c7 (by simp)
          have c8 := kH11.cl c8 (by simp)
          have c9 := kH11.cl c9 (by simp)
          have c10 := kH11.cl c10 (by simp)
          refine wD_sta (b := H6.next) (o := 0) rfl rfl c7 (by omega) rfl rfl (by simp) ?_
          intro H12 kH12 nH12 sH12
          have mH12 := kH12.1
          have hat := hat.keep kH12 (fun x hx => by first | (simp at hx; done) | (simp at hx; omega))
          have c1 := kH12.cl c1 (by first | (simp; done) | (simp; omega))
          have hso := kH12.sc hso (by first | (simp; done) | (simp; omega))
          have hl1 := kH12.sl hl1 (fun b e => by have := fl1 b e; first | (simp; done) | (simp; omega))
          have c5 := kH12.cl c5 (by first | (simp; done) | (simp; omega))
          have rl1 := kH12.rd rl1 (by first | (simp; done) | (simp; omega))
          have c8 := kH12.cl c8 (by first | (simp; done) | (simp; omega))
          have c9 := kH12.cl c9 (by first | (simp; done) | (simp; omega))
          have c10 := kH12.cl c10 (by first | (simp; done) | (simp; omega))
          have c11 := kH12.cl c11 (by first | (simp; done) | (simp; omega))
          have c7 : Cl H12 H6.next [.slice g.ba g.bn g.bcap, .slice g.ra g.rn g.rcap, iv g.inlet, iv g.reserve, iv g.winds] := sH12
          refine wD_sta (b := H7.next) (o := 0) rfl rfl c8 (by omega) rfl rfl (by simp) ?_
          intro H13 kH13 nH13 sH13
          have mH13 := kH13.1
          have hat := hat.keep kH13 (fun x hx => by first | (simp at hx; done) | (simp at hx; omega))
          have c1 := kH13.cl c1 (by first | (simp; done) | (simp; omega))
          have hso := kH13.sc hso (by first | (simp; done) | (simp; omega))
          have hl1 := kH13.sl hl1 (fun b e => by have := fl1 b e; first | (simp; done) | (simp; omega))
          have c5 := kH13.cl c5 (by first | (simp; done) | (simp; omega))
          have rl1 := kH13.rd rl1 (by first | (simp; done) | (simp; omega))
          have c9 := kH13.cl c9 (by first | (simp; done) | (simp; omega))
          have c10 := kH13.cl c10 (by first | (simp; done) | (simp; omega))
          have c11 := kH13.cl c11 (by first | (simp; done) | (simp; omega))
          have c7 := kH13.cl c7 (by first | (simp; done) | (simp; omega))
          have c8 : Cl H13 H7.next [.slice g.ba g.bn g.bcap, .slice g.ra g.rn g.rcap, iv g.inlet, iv g.reserve, iv g.winds] := sH13
          refine wD_sta (b := H8.next) (o := 0) rfl rfl c9 (by omega) rfl rfl (by simp) ?_
          intro H14 kH14 nH14 sH14
          have mH14 := kH14.1
          have hat := hat.keep kH14 (fun x hx => by first | (simp at hx; done) | (simp at hx; omega))
          have c1 := kH14.cl c1 (by first | (simp; done) | (simp; omega))
          have hso := kH14.sc hso (by first | (simp; done) | (simp; omega))
          have hl1 := kH14.sl hl1 (fun b e => by have := fl1 b e; first | (simp; done) | (simp; omega))
          have c5 := kH14.cl c5 (by first | (simp; done) | (simp; omega))
          have rl1 := kH14.rd rl1 (by first | (simp; done) | (simp; omega))
          have c10 := kH14.cl c10 (by first | (simp; done) | (simp; omega))
          have c11 := kH14.cl c11 (by first | (simp; done) | (simp; omega))
          have c7 := kH14.cl c7 (by first | (simp; done) | (simp; omega))
          have c8 := kH14.cl c8 (by first | (simp; done) | (simp; omega))
          have c9 : Cl H14 H8.next [.slice g.ba g.bn g.bcap, .slice g.ra g.rn g.rcap, iv g.inlet, iv g.reserve, iv g.winds] := sH14
          refine wD_sta (b := H9.next) (o := 0) rfl rfl c10 (by omega) rfl rfl (by simp) ?_
          intro H15 kH15 nH15 sH15
          have mH15 := kH15.1
          have hat := hat.keep kH15 (fun x hx => by first | (simp at hx; done) | (simp at hx; omega))
          have c1 := kH15.cl c1 (by first | (simp; done) | (simp; omega))
          have hso := kH15.sc hso (by first | (simp; done) | (simp; omega))
          have hl1 := kH15.sl hl1 (fun b e => by have := fl1 b e; first | (simp; done) | (simp; omega))
          have c5 := kH15.cl c5 (by first | (simp; done) | (simp; omega))
          have rl1 := kH15.rd rl1 (by first | (simp; done) | (simp; omega))
          have c11 := kH15.cl c11 (by first | (simp; done) | (simp; omega))
          have c7 := kH15.cl c7 (by first | (simp; done) | (simp; omega))
          have c8 := kH15.cl c8 (by first | (simp; done) | (simp; omega))
          have c9 := kH15.cl c9 (by first | (simp; done) | (simp; omega))
          have c10 : Cl H15 H9.next [.slice g.ba g.bn g.bcap, .slice g.ra g.rn g.rcap, iv g.inlet, iv g.reserve, iv g.winds] := sH15
          refine wD_sta (b := H10.next) (o := 0) rfl rfl c11 (by omega) rfl rfl (by simp) ?_
          intro H16 kH16 nH16 sH16
          have mH16 := kH16.1
          have hat := hat.keep kH16 (fun x hx => by first | (simp at hx; done) | (simp at hx; omega))
          have c1 := kH16.cl c1 (by first | (simp; done) | (simp; omega))
          have hso := kH16.sc hso (by first | (simp; done) | (simp; omega))
          have hl1 := kH16.sl hl1 (fun b e => by have := fl1 b e; first | (simp; done) | (simp; omega))
          have c5 := kH16.cl c5 (by first | (simp; done) | (simp; omega))
          have rl1 := kH16.rd rl1 (by first | (simp; done) | (simp; omega))
          have c7 := kH16.cl c7 (by first | (simp; done) | (simp; omega))
          have c8 := kH16.cl c8 (by first | (simp; done) | (simp; omega))
          have c9 := kH16.cl c9 (by first | (simp; done) | (simp; omega))
          have c10 := kH16.cl c10 (by first | (simp; done) | (simp; omega))
          have c11 : Cl H16 H10.next [.slice g.ba g.bn g.bcap, .slice g.ra g.rn g.rcap, iv g.inlet, iv g.reserve, iv g.winds] := sH16
          refine wD_end (by repeat' first | exact True.intro | exact (fun h => h) | refine And.intro ?_ ?_ | (intro h; have h : (_ : Nat) = _ := h; omega)) ?_
          refine wN_seq ?_
          refine wN_addo (b := H.next) (o := 0) rfl ?_
          refine wN_ld (b := H.next) (o := 3) (v := iv g.reserve) rfl c1.rd rfl ?_
          refine wN_mov (v := .int .u16 (m : Int)) rfl ?_
          refine wN_pur (v := iv (m : Int)) rfl (conv_66 (m : Int) (by omega) (by omega) rfl) ?_
          refine wN_add (a := g.reserve) (b := (m : Int)) rfl rfl ⟨by omega, by omega⟩ ?_
          refine wN_mm (a := 1099511627776) (b := g.reserve + (m : Int)) rfl rfl ?_
          refine wN_addo (b := H6.next) (o := 0) rfl ?_
          refine wN_st (b := H6.next) (o := 3) rfl rfl c7 (by omega) rfl rfl (by simp) ?_
          intro H17 kH17 nH17 sH17
          have mH17 := kH17.1
          have hat := hat.keep kH17 (fun x hx => by first | (simp at hx; done) | (simp at hx; omega))
          have c1 := kH17.cl c1 (by first | (simp; done) | (simp; omega))
          have hso := kH17.sc hso (by first | (simp; done) | (simp; omega))
          have hl1 := kH17.sl hl1 (fun b e => by have := fl1 b e; first | (simp; done) | (simp; omega))
          have c5 := kH17.cl c5 (by first | (simp; done) | (simp; omega))
          have rl1 := kH17.rd rl1 (by first | (simp; done) | (simp; omega))
          have c8 := kH17.cl c8 (by first | (simp; done) | (simp; omega))
          have c9 := kH17.cl c9 (by first | (simp; done) | (simp; omega))
          have c10 := kH17.cl c10 (by first | (simp; done) | (simp; omega))
          have c11 := kH17.cl c11 (by first | (simp; done) | (simp; omega))
          have c7 : Cl H17 H6.next [.slice g.ba g.bn g.bcap, .slice g.ra g.rn g.rcap, iv g.inlet, iv (min 1099511627776 (g.reserve + (m : Int))), iv g.winds] := sH17
          refine wN_end ?_
          refine wN_seq ?_
          refine wN_addo (b := H.next) (o := 0) rfl ?_
          refine wN_ld (b := H.next) (o := 4) (v := iv g.winds) rfl c1.rd rfl ?_
          refine wN_mov (v := .int .u8 (wq : Int)) rfl ?_
          refine wN_pur (v := iv (wq : Int)) rfl (conv_5m (wq : Int) (by omega) (by omega) rfl) ?_
          have hwm : (g.wm : Int) = g.winds := by unfold Fh.wm; omega
          have hwl := Nat.and_le_left (n := g.wm) (m := wq)
          refine wN_pur (v := iv ((g.wm &&& wq : Nat) : Int)) rfl (h_and (a := g.wm) (b := wq) (by omega) (by omega) (by rw [hwm]; rfl) rfl) ?_
          refine wN_mov (v := iv ((g.wm &&& wq : Nat) : Int)) rfl ?_
          refine wN_end ?_
          refine wN_seq ?_
          refine wN_mov (v := iv ((g.wm &&& wq : Nat) : Int)) rfl ?_
          refine wN_c_gtr (a := ((g.wm &&& wq : Nat) : Int)) (b := 0) rfl rfl ?_
          refine wN_end ?_
          refine And.intro (fun q6 => ?_) (fun q6 => ?_)
          · have q6 : ((g.wm &&& wq : Nat) : Int) > 0 := of_decide_eq_true q6
            obtain ⟨cx, hcx⟩ : ∃ cx : Int, cx = ((g.wm &&& wq : Nat) : Int) := ⟨_, rfl⟩
            have hcx1 : (1 ≤ cx ∧ cx ≤ 15) ∧ ∀ k, cx.toNat.testBit k = true → g.wm.testBit k = true := by
              subst hcx
              refine ⟨by omega, fun k hk => ?_⟩
              rw [Int.toNat_natCast, Nat.testBit_and, Bool.and_eq_true] at hk
              exact hk.1
            refine wN_seq ?_
            refine wN_mov (v := iv ((g.wm &&& wq : Nat) : Int)) rfl ?_
            refine wN_addo (b := H7.next) (o := 0) rfl ?_
            refine wN_st (b := H7.next) (o := 4) rfl rfl c8 (by omega) rfl rfl (by simp) ?_
            intro H18 kH18 nH18 sH18
            have mH18 := kH18.1
            have hat := hat.keep kH18 (fun x hx => by first | (simp at hx; done) | (simp at hx; omega))
            have c1 := kH18.cl c1 (by first | (simp; done) | (simp; omega))
            have hso := kH18.sc hso (by first | (simp; done) | (simp; omega))
            have hl1 := kH18.sl hl1 (fun b e => by have := fl1 b e; first | (simp; done) | (simp; omega))
            have c5 := kH18.cl c5 (by first | (simp; done) | (simp; omega))
            have rl1 := kH18.rd rl1 (by first | (simp; done) | (simp; omega))
            have c9 := kH18.cl c9 (by first | (simp; done) | (simp; omega))
            have c10 := kH18.cl c10 (by first | (simp; done) | (simp; omega))
            have c11 := kH18.cl c11 (by first | (simp; done) | (simp; omega))
            have c7 := kH18.cl c7 (by first | (simp; done) | (simp; omega))
            have c8 : Cl H18 H7.next [.slice g.ba g.bn g.bcap, .slice g.ra g.rn g.rcap, iv g.inlet, iv g.reserve, iv ((g.wm &&& wq : Nat) : Int)] := sH18
            refine wN_end ?_
            refine wN_seq ?_
            refine wN_addo (b := H.next) (o := 0) rfl ?_
            refine wN_ld (b := H.next) (o := 2) (v := iv g.inlet) rfl c1.rd rfl ?_
            refine wN_mov (v := .int .u16 (m : Int)) rfl ?_
            refine wN_pur (v := iv (m : Int)) rfl (conv_66 (m : Int) (by omega) (by omega) rfl) ?_
            refine wN_add (a := g.inlet) (b := (m : Int)) rfl rfl ⟨by omega, by omega⟩ ?_
            refine wN_mm (a := 1073741824) (b := g.inlet + (m : Int)) rfl rfl ?_
            refine wN_addo (b := H9.next) (o := 0) rfl ?_
            refine wN_st (b := H9.next) (o := 2) rfl rfl c10 (by omega) rfl rfl (by simp) ?_
            intro H19 kH19 nH19 sH19
            have mH19 := kH19.1
            have hat := hat.keep kH19 (fun x hx => by first | (simp at hx; done) | (simp at hx; omega))
            have c1 := kH19.cl c1 (by first | (simp; done) | (simp; omega))
            have hso := kH19.sc hso (by first | (simp; done) | (simp; omega))
            have hl1 := kH19.sl hl1 (fun b e => by have := fl1 b e; first | (simp; done) | (simp; omega))
            have c5 := kH19.cl c5 (by first | (simp; done) | (simp; omega))
            have rl1 := kH19.rd rl1 (by first | (simp; done) | (simp; omega))
            have c9 := kH19.cl c9 (by first | (simp; done) | (simp; omega))
            have c11 := kH19.cl c11 (by first | (simp; done) | (simp; omega))
            have c7 := kH19.cl c7 (by first | (simp; done) | (simp; omega))
            have c8 := kH19.cl c8 (by first | (simp; done) | (simp; omega))
            have c10 : Cl H19 H9.next [.slice g.ba g.bn g.bcap, .slice g.ra g.rn g.rcap, iv (min 1073741824 (g.inlet + (m : Int))), iv g.reserve, iv g.winds] := sH19
            refine wN_end ?_
            refine wN_seq ?_
            refine wN_addo (b := H8.next) (o := 0) rfl ?_
            refine wN_st (b := H8.next) (o := 1) rfl rfl c9 (by omega) rfl rfl (by simp) ?_
            intro H20 kH20 nH20 sH20
            have mH20 := kH20.1
            have hat := hat.keep kH20 (fun x hx => by first | (simp at hx; done) | (simp at hx; omega))
            have c1 := kH20.cl c1 (by first | (simp; done) | (simp; omega))
            have hso := kH20.sc hso (by first | (simp; done) | (simp; omega))
            have hl1 := kH20.sl hl1 (fun b e => by have := fl1 b e; first | (simp; done) | (simp; omega))
            have c5 := kH20.cl c5 (by first | (simp; done) | (simp; omega))
            have rl1 := kH20.rd rl1 (by first | (simp; done) | (simp; omega))
            have c11 := kH20.cl c11 (by first | (simp; done) | (simp; omega))
            have c7 := kH20.cl c7 (by first | (simp; done) | (simp; omega))
            have c8 := kH20.cl c8 (by first | (simp; done) | (simp; omega))
            have c10 := kH20.cl c10 (by first | (simp; done) | (simp; omega))
            have c9 : Cl H20 H8.next [.slice g.ba g.bn g.bcap, .slice none 0 0, iv g.inlet, iv g.reserve, iv g.winds] := sH20
            refine wN_addo (b := H10.next) (o := 0) rfl ?_
            refine wN_st (b := H10.next) (o := 0) rfl rfl c11 (by omega) rfl rfl (by simp) ?_
            intro H21 kH21 nH21 sH21
            have mH21 := kH21.1
            have hat := hat.keep kH21 (fun x hx => by first | (simp at hx; done) | (simp at hx; omega))
            have c1 := kH21.cl c1 (by first | (simp; done) | (simp; omega))
            have hso := kH21.sc hso (by first | (simp; done) | (simp; omega))
            have hl1 := kH21.sl hl1 (fun b e => by have := fl1 b e; first | (simp; done) | (simp; omega))
            have c5 := kH21.cl c5 (by first | (simp; done) | (simp; omega))
            have rl1 := kH21.rd rl1 (by first | (simp; done) | (simp; omega))
            have c7 := kH21.cl c7 (by first | (simp; done) | (simp; omega))
            have c8 := kH21.cl c8 (by first | (simp; done) | (simp; omega))
            have c10 := kH21.cl c10 (by first | (simp; done) | (simp; omega))
            have c9 := kH21.cl c9 (by first | (simp; done) | (simp; omega))
            have c11 : Cl H21 H10.next [.slice none 0 0, .slice g.ra g.rn g.rcap, iv g.inlet, iv g.reserve, iv g.winds] := sH21
            refine wN_end ?_
            refine wN_seq ?_
            refine wN_addo (b := H.next) (o := 0) rfl ?_
            refine wN_ld (b := H.next) (o := 1) (v := .slice g.ra g.rn g.rcap) rfl c1.rd rfl ?_
            refine wN_len (m := g.rn) rfl ?_
            refine wN_mov (v := iv 0) rfl ?_
            refine wN_end ?_
            have y3 := c1
            have y10 := c5
            have y13 := c7
            have y14 := c8
            have y16 := c10
            have y17 := c11
            have hat0 := hat
            have hso0 := hso
            have hle0 := hat.le
            have l15 := c9.rd.lt
            have ly3 := y3.rd.lt
            have ly10 := y10.rd.lt
            have ly13 := y13.rd.lt
            have ly14 := y14.rd.lt
            have ly16 := y16.rd.lt
            have ly17 := y17.rd.lt
            refine loop_low (fn := Try.f10) E10_1 N10 L10x1 (fun i : Nat => [(1, .int .u16 (m : Int)), (3, pt H.next), (7, .slice (some ⟨sb, 0, none⟩) g.bn g.bn), (9, .slice la1 g.bn lc1), (10, pt H4.next), (12, iv ((g.sl o).d2)), (13, pt H6.next), (14, pt H7.next), (15, pt H8.next), (16, pt H9.next), (17, pt H10.next), (112, .slice g.ra g.rn g.rcap), (113, iv (g.rn : Int)), (114, iv (i : Int))])
              (fun k i H' => i + k = g.rn ∧ Keep H21 H' [H8.next] ∧ ∃ rv rs, Cl H' H8.next [.slice g.ba g.bn g.bcap, rv, iv g.inlet, iv g.reserve, iv g.winds] ∧ Acc lo H21.next 26 H' rv i (rwc rs) ∧ PreR g (m : Int) i rs ∧ JR H21.next H' rv rs) g.rn 0 ⟨by omega, Keep.refl _ _, _, [], c9, .inl ⟨rfl, rfl, rfl⟩, ⟨rfl, fun j r h => by simp at h⟩, fun r h => by simp at h⟩ ⟨rfl, rfl, rfl, rfl, rfl, rfl, rfl, rfl, rfl, rfl, rfl, rfl, rfl, rfl, trivial⟩ ?_
            rintro k i L1 ⟨hik, hkx, rv, rs, c15, hacc, hpre, hjr⟩
            have mk1 := hkx.1
            have hat := hat0.keep hkx (fun x q => by simp at q; omega)
            have hso := hkx.sc hso0 (by first | (simp; done) | (simp; omega))
            have z3 := hkx.cl y3 (by first | (simp; done) | (simp; omega))
            have z10 := hkx.cl y10 (by first | (simp; done) | (simp; omega))
            have z13 := hkx.cl y13 (by first | (simp; done) | (simp; omega))
            have z14 := hkx.cl y14 (by first | (simp; done) | (simp; omega))
            have z16 := hkx.cl y16 (by first | (simp; done) | (simp; omega))
            have z17 := hkx.cl y17 (by first | (simp; done) | (simp; omega))
            refine wN_seq ?_
            refine wN_c_lss (a := (i : Int)) (b := (g.rn : Int)) rfl rfl ?_
            refine wN_end ?_
            refine And.intro (fun q7 => ?_) (fun q7 => ?_)
            · have q7 : (i : Int) < (g.rn : Int) := of_decide_eq_true q7
              have hi : i < g.rn := by omega
              obtain ⟨xr, exr, rxr, lxr⟩ := hat.rts (by omega)
              obtain ⟨hrs, hrl, hrf⟩ := hat.row hi
              have hvr := v.r i (by omega)
              have hacc1 := hacc
              first | refine wN_skip ?_ | skip
              refine wN_seq ?_
              refine wN_idx (b := xr) (o := 0) (k := i) (j := (i : Int)) (by rw [← exr]; rfl) rfl rfl hi ?_
              refine wN_ld (b := xr) (o := 0 + i * 1) (v := .slice (g.R i).ra (g.R i).n (g.R i).cap) rfl rxr (rwc_row (getR (by rw [hat.rl]; exact hi))) ?_
              refine wN_mov (v := .slice ((g.R i).ra) ((g.R i).n) ((g.R i).cap)) rfl ?_
              refine wN_end ?_
              refine wN_seq ?_
              refine wN_mov (v := .slice none 0 0) rfl ?_
              refine wN_end ?_
              refine wN_seq ?_
              refine wN_mov (v := .slice ((g.R i).ra) ((g.R i).n) ((g.R i).cap)) rfl ?_
              refine wN_len (m := (g.R i).n) rfl ?_
              refine wN_mov (v := iv 0) rfl ?_
              refine wN_end ?_
              refine loop_low (fn := Try.f10) E10_2 N10 L10x2 (fun y : Nat × Value => [(1, .int .u16 (m : Int)), (3, pt H.next), (7, .slice (some ⟨sb, 0, none⟩) g.bn g.bn), (9, .slice la1 g.bn lc1), (10, pt H4.next), (12, iv ((g.sl o).d2)), (13, pt H6.next), (14, pt H7.next), (15, pt H8.next), (16, pt H9.next), (17, pt H10.next), (112, .slice g.ra g.rn g.rcap), (113, iv (g.rn : Int)), (114, iv (i : Int)), (21, y.2), (118, .slice ((g.R i).ra) ((g.R i).n) ((g.R i).cap)), (119, iv ((g.R i).n : Int)), (120, iv (y.1 : Int))])
                (fun k y H' => y.1 + k = (g.R i).n ∧ Keep L1 H' [] ∧ Acc lo L1.next 3 H' y.2 y.1 (ints (((g.R i).l.take y.1).map (mnp (m : Int))))) (g.R i).n (0, .slice none 0 0) ⟨by simp, Keep.refl _ _, .inl ⟨rfl, rfl, rfl⟩⟩ ⟨rfl, rfl, rfl, rfl, rfl, rfl, rfl, rfl, rfl, rfl, rfl, rfl, rfl, rfl, rfl, rfl, rfl, rfl, trivial⟩ ?_
              rintro k2 ⟨j, ov⟩ L2 ⟨hjk, hk2, hacco⟩
              simp only at hjk hacco ⊢
              have mk2 := hk2.1
              have hrs2 := hk2.sl0 hrs
              have kacc := Keep.refl L2 []
              have hlr := hrs.old
              refine wN_seq ?_
              refine wN_c_lss (a := (j : Int)) (b := ((g.R i).n : Int)) rfl rfl ?_
              refine wN_end ?_
              refine And.intro (fun q8 => ?_) (fun q8 => ?_)
              · have q8 : (j : Int) < ((g.R i).n : Int) := of_decide_eq_true q8
                have hj : j < (g.R i).n := by omega
                have hz := getI (l := (g.R i).l) (i := j) (by omega)
                have hzb := hvr.2 _ (List.mem_of_getElem? hz)
                rcases id hrs2 with ⟨_, h0, _⟩ | ⟨xs, exs, rxs, _⟩
                · omega
                have lxs := hlr xs exs
                first | refine wN_skip ?_ | skip
                refine wN_seq ?_
                refine wN_idx (b := xs) (o := 0) (k := j) (j := (j : Int)) (by rw [← exs]; rfl) rfl rfl hj ?_
                refine wN_ld (b := xs) (o := 0 + j * 1) (v := iv ((g.R i).l.getD j 0)) rfl rxs (ints_at hz) ?_
                refine wN_mov (v := iv ((g.R i).l.getD j 0)) rfl ?_
                refine wN_end ?_
                first | refine wN_reg ?_ | refine wN_blk ?_ | refine wN_bseq ?_ | (refine wOps_nil ?_; refine wN_reg ?_)
                refine wN_mov (v := ov) rfl ?_
                refine wN_mov (v := iv ((g.R i).l.getD j 0)) rfl ?_
                refine wN_mov (v := .int .u16 (m : Int)) rfl ?_
                refine wN_pur (v := iv (m : Int)) rfl (conv_66 (m : Int) (by omega) (by omega) rfl) ?_
                refine wN_add (a := ((g.R i).l.getD j 0)) (b := (m : Int)) rfl rfl ⟨by omega, by omega⟩ ?_
                refine wN_mm (a := 1073741824) (b := ((g.R i).l.getD j 0) + (m : Int)) rfl rfl ?_
                obtain ⟨H22, hH22⟩ : ∃ H22, L2.new (.cells [iv (min 1073741824 (((g.R i).l.getD j 0) + (m : Int)))] 3 false) = H22 := ⟨_, rfl⟩
                refine wN_memh (H' := H22) (k := .heavy) rfl (by kernel_rfl) ((heap_build1 (v := iv (min 1073741824 (((g.R i).l.getD j 0) + (m : Int)))) se26m z3m rfl rfl rfl (by decide)).trans (by rw [← hH22]; rfl)) (fun b e => by cases e) ?_
                obtain ⟨kH22, nH22, c22⟩ := new_facts hH22; clear hH22
                have c22 : Cl H22 L2.next [iv (min 1073741824 (((g.R i).l.getD j 0) + (m : Int)))] := c22
                have mH22 := kH22.1
                have hk2 := hk2.trans kH22
                have kacc := kacc.trans kH22
                have hrs2 := kH22.sl0 hrs2
                have rxs := kH22.rd rxs (by simp)
                obtain ⟨H23, kdH23, eH23, dH23, hacco2, kbH23⟩ := heap_append_below (P := Try.prog) (lo := lo) (k := j) (t1 := 26) se26m u26m (c22.sl (Nat.le_refl 1)) rfl (by decide) rfl (by rw [ints_len, List.length_map, List.length_take]; omega) (by omega) (hacco.keep kacc) (by omega) (by omega)
                refine wN_memh (k := kdH23) rfl (by cases ov <;> kernel_rfl) (eH23 _ _ _ _ _ _ _ rfl rfl) (reg_ok dH23 _) ?_
                have hk2 := kbH23.keep hk2 (by omega)
                have mH23 := kbH23.1
                refine wN_mov (v := .slice (some ⟨H22.next, 0, none⟩) (j + 1) (j + 1)) rfl ?_
                refine wN_end ?_
                first | refine wN_reg ?_ | refine wN_blk ?_ | refine wN_bseq ?_ | (refine wOps_nil ?_; refine wN_reg ?_)
                refine wN_add (a := (j : Int)) (b := 1) rfl rfl ⟨by omega, by omega⟩ ?_
                refine wN_mov (v := iv ((j : Int) + 1)) rfl ?_
                refine wN_end ?_
                exact ⟨k2 - 1, (j + 1, .slice (some ⟨H22.next, 0, none⟩) (j + 1) (j + 1)), by omega, ⟨by simp only; omega, hk2, by simp only; rw [take_map hz, ints_app1]; exact hacco2⟩, rfl, rfl, rfl, rfl, rfl, rfl, rfl, rfl, rfl, rfl, rfl, rfl, rfl, rfl, rfl, rfl, rfl, rfl, trivial⟩
              · have q8 : ¬ ((j : Int) < ((g.R i).n : Int)) := of_decide_eq_false q8
                have ej : j = (g.R i).n := by omega
                rw [ej, List.take_of_length_le (by omega)] at hacco
                obtain ⟨oa, oc, eov, hosl, hof⟩ := hacco.sl
                subst eov
                have flo := hosl.old
                have hjr := hjr.keep hk2 (by simp)
                have hacc := hacc.keep hk2
                have hbk := bkv_in hacc
                have hbk1 : ∀ x ∈ (bkv rv).toList, x < L1.next := (fun x hx => (bkv_in hacc1 x hx).2)
                have hkx := hkx.trans (hk2.mono (by simp))
                have hat := hat.keep hk2 (by simp)
                have hso := hk2.sc hso (by simp)
                have z3 := hk2.cl z3 (by simp)
                have z10 := hk2.cl z10 (by simp)
                have z13 := hk2.cl z13 (by simp)
                have z14 := hk2.cl z14 (by simp)
                have z16 := hk2.cl z16 (by simp)
                have z17 := hk2.cl z17 (by simp)
                have c15 := hk2.cl c15 (by simp)
                first | (refine wN_exit ?_; show wC _ _ _ _ _ _ _ _ _) | skip
                first | refine wN_reg ?_ | refine wN_blk ?_ | refine wN_bseq ?_ | (refine wOps_nil ?_; refine wN_reg ?_)
                refine wN_addo (b := H8.next) (o := 0) rfl ?_
                refine wN_ld (b := H8.next) (o := 1) (v := rv) rfl c15.rd rfl ?_
                refine wN_mov (v := .slice oa ((g.R i).n) oc) rfl ?_
                obtain ⟨H24, hH24⟩ : ∃ H24, L2.new (.cells [.slice oa ((g.R i).n) oc] 26 false) = H24 := ⟨_, rfl⟩
                refine wN_memh (H' := H24) (k := .heavy) rfl (by kernel_rfl) ((heap_build1 (v := .slice oa ((g.R i).n) oc) se23m z26m rfl rfl rfl (by decide)).trans (by rw [← hH24]; rfl)) (fun b e => by cases e) ?_
                obtain ⟨kH24, nH24, c24⟩ := new_facts hH24; clear hH24
                have c24 : Cl H24 L2.next [.slice oa ((g.R i).n) oc] := c24
                have mH24 := kH24.1
                have hkx := hkx.trans (kH24.mono (by simp))
                have hat := hat.keep kH24 (by simp)
                have hso := kH24.sc hso (by simp)
                have hosl := kH24.sl0 hosl
                have z3 := kH24.cl z3 (by simp)
                have z10 := kH24.cl z10 (by simp)
                have z13 := kH24.cl z13 (by simp)
                have z14 := kH24.cl z14 (by simp)
                have z16 := kH24.cl z16 (by simp)
                have z17 := kH24.cl z17 (by simp)
                have c15 := kH24.cl c15 (by simp)
                have hjr := hjr.keep kH24 (by simp)
                have hacc := hacc.keep kH24
                obtain ⟨H25, kdH25, eH25, dH25, hacc2, kxH25⟩ := heap_append_out (P := Try.prog) (lo := lo) (k := i) (t1 := 23) se23m u23m (c24.sl (Nat.le_refl 1)) rfl (by decide) rfl (by rw [rwc_len, hpre.len, Nat.mul_one]) (by omega) hacc (by omega) (by omega)
                refine wN_memh (k := kdH25) rfl (by cases rv <;> kernel_rfl) (eH25 _ _ _ _ _ _ _ rfl rfl) (reg_ok dH25 _) ?_
                have hjr2 := JR.app (n := i + 1) (c := i + 1) (r := ⟨oa, (g.R i).n, oc, (g.R i).l.map (mnp (m : Int))⟩) hjr kxH25 ⟨hosl, by show (List.map _ _).length = _; rw [List.length_map, hrl], fun x e => ⟨by have := hof x e; omega, by have := flo x e; omega, fun q => by have := hof x e; have := hbk1 x q; omega⟩⟩
                have mH25 := kxH25.1
                have hkx := hkx.new kxH25 (fun b hb => .inr (bkv_in hacc b hb).1)
                have hnb : ∀ y, y < H21.next → y ∉ (bkv rv).toList := fun y hy q => by have := (bkv_in hacc y q).1; omega
                have hat := hat.keep kxH25 (fun x q => by have := (bkv_in hacc x q).1; omega)
                have hso := kxH25.sc hso (hnb _ (by omega))
                have z3 := kxH25.cl z3 (hnb _ (by omega))
                have z10 := kxH25.cl z10 (hnb _ (by omega))
                have z13 := kxH25.cl z13 (hnb _ (by omega))
                have z14 := kxH25.cl z14 (hnb _ (by omega))
                have z16 := kxH25.cl z16 (hnb _ (by omega))
                have z17 := kxH25.cl z17 (hnb _ (by omega))
                have c15 := kxH25.cl c15 (hnb _ (by omega))
                refine wN_addo (b := H8.next) (o := 0) rfl ?_
                refine wN_st (b := H8.next) (o := 1) rfl rfl c15 (by omega) rfl rfl (by simp) ?_
                intro H26 kH26 nH26 sH26
                have mH26 := kH26.1
                have hkx := hkx.new kH26 (fun b hb => by simp at hb ⊢; omega)
                have hat := hat.keep kH26 (fun x hx => by first | (simp at hx; done) | (simp at hx; omega))
                have hso := kH26.sc hso (by first | (simp; done) | (simp; omega))
                have z3 := kH26.cl z3 (by first | (simp; done) | (simp; omega))
                have z10 := kH26.cl z10 (by first | (simp; done) | (simp; omega))
                have z13 := kH26.cl z13 (by first | (simp; done) | (simp; omega))
                have z14 := kH26.cl z14 (by first | (simp; done) | (simp; omega))
                have z16 := kH26.cl z16 (by first | (simp; done) | (simp; omega))
                have z17 := kH26.cl z17 (by first | (simp; done) | (simp; omega))
                have hacc2 := hacc2.keepW kH26 (by omega)
                have hjr2 := hjr2.keep kH26 (fun x q => by simp at q; omega)
                have c15 : Cl H26 H8.next [.slice g.ba g.bn g.bcap, .slice (some ⟨H24.next, 0, none⟩) (i + 1) (i + 1), iv g.inlet, iv g.reserve, iv g.winds] := sH26
                refine wN_end ?_
                first | refine wN_reg ?_ | refine wN_blk ?_ | refine wN_bseq ?_ | (refine wOps_nil ?_; refine wN_reg ?_)
                refine wN_add (a := (i : Int)) (b := 1) rfl rfl ⟨by omega, by omega⟩ ?_
                refine wN_mov (v := iv ((i : Int) + 1)) rfl ?_
                refine wN_end ?_
                exact ⟨k - 1, i + 1, by omega, ⟨by omega, hkx, _, _, c15, by rw [rwc_app]; exact hacc2, hpre.app rfl (by show _ = (List.map _ _).length; rw [List.length_map, hrl]), hjr2⟩, rfl, rfl, rfl, rfl, rfl, rfl, rfl, rfl, rfl, rfl, rfl, rfl, rfl, rfl, trivial⟩
            · have q7 : ¬ ((i : Int) < (g.rn : Int)) := of_decide_eq_false q7
              have ei : i = g.rn := by omega
              rw [ei] at hacc hpre
              obtain ⟨ra2, rc2, erv, hrsl, hrf2⟩ := hacc.sl
              subst erv
              have hnew : NewR g (m : Int) rs := ⟨by rw [hpre.len]; omega, hpre.l⟩
              obtain ⟨leF, okF⟩ := Fh.le_wrt (ra := ra2) (rcap := rc2) hok hat (by omega) hnew
              have lnx := hkx.1
              first | (refine wN_exit ?_; show wC _ _ _ _ _ _ _ _ _) | skip
              refine wN_seq ?_
              refine wN_addo (b := H.next) (o := 0) rfl ?_
              refine wN_ld (b := H.next) (o := 0) (v := .slice g.ba g.bn g.bcap) rfl z3.rd rfl ?_
              refine wN_len (m := g.bn) rfl ?_
              refine wN_mov (v := iv 0) rfl ?_
              refine wN_end ?_
              have x3 := z3
              have x10 := z10
              have x13 := z13
              have x14 := z14
              have x15 := c15
              have x16 := z16
              have hat1 := hat
              have hso1 := hso
              have l17 := z17.rd.lt
              have lx3 := x3.rd.lt
              have lx10 := x10.rd.lt
              have lx13 := x13.rd.lt
              have lx14 := x14.rd.lt
              have lx15 := x15.rd.lt
              have lx16 := x16.rd.lt
              refine loop_low (fn := Try.f10) E10_3 N10 L10x3 (fun i : Nat => [(1, .int .u16 (m : Int)), (3, pt H.next), (7, .slice (some ⟨sb, 0, none⟩) g.bn g.bn), (9, .slice la1 g.bn lc1), (10, pt H4.next), (12, iv ((g.sl o).d2)), (13, pt H6.next), (14, pt H7.next), (15, pt H8.next), (16, pt H9.next), (17, pt H10.next), (141, .slice g.ba g.bn g.bcap), (142, iv (g.bn : Int)), (143, iv (i : Int))])
                (fun k i H' => i + k = g.bn ∧ Keep L1 H' [H10.next] ∧ ∃ bv, Cl H' H10.next [bv, .slice g.ra g.rn g.rcap, iv g.inlet, iv g.reserve, iv g.winds] ∧ Acc lo L1.next 57 H' bv i (bgc ((g.bs.take i).map (tg (m : Int))))) g.bn 0 ⟨by omega, Keep.refl _ _, _, z17, .inl ⟨rfl, rfl, rfl⟩⟩ ⟨rfl, rfl, rfl, rfl, rfl, rfl, rfl, rfl, rfl, rfl, rfl, rfl, rfl, rfl, trivial⟩ ?_
              rintro k3 i3 L3 ⟨hik3, hk3, bv, c17, hacc3⟩
              have mk3 := hk3.1
              have hat := hat1.keep hk3 (fun x q => by simp at q; omega)
              have hso := hk3.sc hso1 (by first | (simp; done) | (simp; omega))
              have z3 := hk3.cl x3 (by first | (simp; done) | (simp; omega))
              have z10 := hk3.cl x10 (by first | (simp; done) | (simp; omega))
              have z13 := hk3.cl x13 (by first | (simp; done) | (simp; omega))
              have z14 := hk3.cl x14 (by first | (simp; done) | (simp; omega))
              have z15 := hk3.cl x15 (by first | (simp; done) | (simp; omega))
              have z16 := hk3.cl x16 (by first | (simp; done) | (simp; omega))
              have kacc := Keep.refl L3 []
              refine wN_seq ?_
              refine wN_c_lss (a := (i3 : Int)) (b := (g.bn : Int)) rfl rfl ?_
              refine wN_end ?_
              refine And.intro (fun q9 => ?_) (fun q9 => ?_)
              · have q9 : (i3 : Int) < (g.bn : Int) := of_decide_eq_true q9
                have hi3 : i3 < g.bn := by omega
                obtain ⟨xb, exb, rxb, lxb⟩ := hat.bog (by omega)
                have hzb := getB (g := g) (i := i3) (by rw [hat.bl]; exact hi3)
                have hbd := v.b i3 hi3
                first | refine wN_skip ?_ | skip
                refine wN_seq ?_
                refine wN_idx (b := xb) (o := 0) (k := i3) (j := (i3 : Int)) (by rw [← exb]; rfl) rfl rfl hi3 ?_
                refine wN_lda (b := xb) (o := 0 + i3 * 4) rfl rxb (bgc_row hzb) ?_
                refine wN_alc ?_
                intro H27 kH27 nH27 c27
                have c27 : Cl H27 L3.next [iv 0, iv 0, iv 0, .slice none 0 0] := c27
                have mH27 := kH27.1
                have hk3 := hk3.trans (kH27.mono (by simp))
                have hat := hat.keep kH27 (by simp)
                have hso := kH27.sc hso (by simp)
                have z3 := kH27.cl z3 (by simp)
                have z10 := kH27.cl z10 (by simp)
                have z13 := kH27.cl z13 (by simp)
                have z14 := kH27.cl z14 (by simp)
                have z15 := kH27.cl z15 (by simp)
                have z16 := kH27.cl z16 (by simp)
                have c17 := kH27.cl c17 (by simp)
                have kacc := kacc.trans kH27
                have rxb := kH27.rd rxb (by simp)
                refine wN_sta (b := L3.next) (o := 0) rfl rfl c27 (by omega) rfl rfl (by simp) ?_
                intro H28 kH28 nH28 sH28
                have mH28 := kH28.1
                have hk3 := hk3.new kH28 (fun b hb => by simp at hb ⊢; omega)
                have hat := hat.keep kH28 (fun x hx => by first | (simp at hx; done) | (simp at hx; omega))
                have hso := kH28.sc hso (by first | (simp; done) | (simp; omega))
                have z3 := kH28.cl z3 (by first | (simp; done) | (simp; omega))
                have z10 := kH28.cl z10 (by first | (simp; done) | (simp; omega))
                have z13 := kH28.cl z13 (by first | (simp; done) | (simp; omega))
                have z14 := kH28.cl z14 (by first | (simp; done) | (simp; omega))
                have z15 := kH28.cl z15 (by first | (simp; done) | (simp; omega))
                have z16 := kH28.cl z16 (by first | (simp; done) | (simp; omega))
                have c17 := kH28.cl c17 (by first | (simp; done) | (simp; omega))
                have kacc := kacc.new kH28 (fun b hb => by simp at hb ⊢; omega)
                have rxb := kH28.rd rxb (by first | (simp; done) | (simp; omega))
                have c27 : Cl H28 L3.next [iv ((g.B i3).need), iv ((g.B i3).l1), iv ((g.B i3).l2), .slice ((g.B i3).wa) ((g.B i3).wn) ((g.B i3).wcap)] := sH28
                refine wN_end ?_
                refine wN_seq ?_
                refine wN_addo (b := L3.next) (o := 0) rfl ?_
                refine wN_addo (b := L3.next) (o := 1) rfl ?_
                refine wN_ld (b := L3.next) (o := 1) (v := iv ((g.B i3).l1)) rfl c27.rd rfl ?_
                refine wN_mov (v := .int .u16 (m : Int)) rfl ?_
                refine wN_pur (v := iv (m : Int)) rfl (conv_66 (m : Int) (by omega) (by omega) rfl) ?_
                refine wN_sub (a := (g.B i3).l1) (b := (m : Int)) rfl rfl ⟨by omega, by omega⟩ ?_
                refine wN_mm (a := 0) (b := ((g.B i3).l1) - (m : Int)) rfl rfl ?_
                refine wN_addo (b := L3.next) (o := 0) rfl ?_
                refine wN_addo (b := L3.next) (o := 1) rfl ?_
                refine wN_ld (b := L3.next) (o := 2) (v := iv ((g.B i3).l2)) rfl c27.rd rfl ?_
                refine wN_mov (v := .int .u16 (m : Int)) rfl ?_
                refine wN_pur (v := iv (m : Int)) rfl (conv_66 (m : Int) (by omega) (by omega) rfl) ?_
                refine wN_sub (a := (g.B i3).l2) (b := (m : Int)) rfl rfl ⟨by omega, by omega⟩ ?_
                refine wN_mm (a := 0) (b := ((g.B i3).l2) - (m : Int)) rfl rfl ?_
                refine wN_pur (v := .agg #[iv (max 0 (((g.B i3).l1) - (m : Int))), iv (max 0 (((g.B i3).l2) - (m : Int)))]) rfl (by kernel_rfl) ?_
                refine wN_addo (b := L3.next) (o := 0) rfl ?_
                refine wN_sta (b := L3.next) (o := 1) rfl rfl c27 (by omega) rfl rfl (by simp) ?_
                intro H29 kH29 nH29 sH29
                have mH29 := kH29.1
                have hk3 := hk3.new kH29 (fun b hb => by simp at hb ⊢; omega)
                have hat := hat.keep kH29 (fun x hx => by first | (simp at hx; done) | (simp at hx; omega))
                have hso := kH29.sc hso (by first | (simp; done) | (simp; omega))
                have z3 := kH29.cl z3 (by first | (simp; done) | (simp; omega))
                have z10 := kH29.cl z10 (by first | (simp; done) | (simp; omega))
                have z13 := kH29.cl z13 (by first | (simp; done) | (simp; omega))
                have z14 := kH29.cl z14 (by first | (simp; done) | (simp; omega))
                have z15 := kH29.cl z15 (by first | (simp; done) | (simp; omega))
                have z16 := kH29.cl z16 (by first | (simp; done) | (simp; omega))
                have c17 := kH29.cl c17 (by first | (simp; done) | (simp; omega))
                have kacc := kacc.new kH29 (fun b hb => by simp at hb ⊢; omega)
                have rxb := kH29.rd rxb (by first | (simp; done) | (simp; omega))
                have c27 : Cl H29 L3.next [iv ((g.B i3).need), iv (max 0 (((g.B i3).l1) - (m : Int))), iv (max 0 (((g.B i3).l2) - (m : Int))), .slice ((g.B i3).wa) ((g.B i3).wn) ((g.B i3).wcap)] := sH29
                refine wN_end ?_
                first | refine wN_reg ?_ | refine wN_blk ?_ | refine wN_bseq ?_ | (refine wOps_nil ?_; refine wN_reg ?_)
                refine wN_addo (b := H10.next) (o := 0) rfl ?_
                refine wN_ld (b := H10.next) (o := 0) (v := bv) rfl c17.rd rfl ?_
                refine wN_lda (b := L3.next) (o := 0) rfl c27.rd (show row 4 _ _ = some [iv ((g.B i3).need), iv (max 0 (((g.B i3).l1) - (m : Int))), iv (max 0 (((g.B i3).l2) - (m : Int))), .slice ((g.B i3).wa) ((g.B i3).wn) ((g.B i3).wcap)] from rfl) ?_
                obtain ⟨H30, hH30⟩ : ∃ H30, H29.new (.cells [iv ((g.B i3).need), iv (max 0 (((g.B i3).l1) - (m : Int))), iv (max 0 (((g.B i3).l2) - (m : Int))), .slice ((g.B i3).wa) ((g.B i3).wn) ((g.B i3).wcap)] 57 false) = H30 := ⟨_, rfl⟩
                refine wN_memh (H' := H30) (k := .heavy) rfl (by kernel_rfl) ((heap_build1 (v := .agg #[iv ((g.B i3).need), iv (max 0 (((g.B i3).l1) - (m : Int))), iv (max 0 (((g.B i3).l2) - (m : Int))), .slice ((g.B i3).wa) ((g.B i3).wn) ((g.B i3).wcap)]) se22m z57m rfl rfl rfl (by decide)).trans (by rw [← hH30]; rfl)) (fun b e => by cases e) ?_
                obtain ⟨kH30, nH30, c30⟩ := new_facts hH30; clear hH30
                have c30 : Cl H30 H29.next [iv ((g.B i3).need), iv (max 0 (((g.B i3).l1) - (m : Int))), iv (max 0 (((g.B i3).l2) - (m : Int))), .slice ((g.B i3).wa) ((g.B i3).wn) ((g.B i3).wcap)] := c30
                have mH30 := kH30.1
                have hk3 := hk3.trans (kH30.mono (by simp))
                have hat := hat.keep kH30 (by simp)
                have hso := kH30.sc hso (by simp)
                have z3 := kH30.cl z3 (by simp)
                have z10 := kH30.cl z10 (by simp)
                have z13 := kH30.cl z13 (by simp)
                have z14 := kH30.cl z14 (by simp)
                have z15 := kH30.cl z15 (by simp)
                have z16 := kH30.cl z16 (by simp)
                have c17 := kH30.cl c17 (by simp)
                have kacc := kacc.trans kH30
                have rxb := kH30.rd rxb (by simp)
                have c27 := kH30.cl c27 (by simp)
                obtain ⟨H31, kdH31, eH31, dH31, hacc4, kbH31⟩ := heap_append_below (P := Try.prog) (lo := lo) (k := i3) (t1 := 22) se22m u22m (c30.sl (Nat.le_refl 1)) rfl (by decide) rfl (by rw [bgc_len, List.length_map, List.length_take, hat.bl]; rw [Nat.min_eq_left (by omega)]) (by omega) (hacc3.keep kacc) (by omega) (by omega)
                refine wN_memh (k := kdH31) rfl (by cases bv <;> kernel_rfl) (eH31 _ _ _ _ _ _ _ rfl rfl) (reg_ok dH31 _) ?_
                have mH31 := kbH31.1
                have hk3 := kbH31.keep hk3 (by omega)
                have c17 := kbH31.cl c17 (by omega)
                refine wN_addo (b := H10.next) (o := 0) rfl ?_
                refine wN_st (b := H10.next) (o := 0) rfl rfl c17 (by omega) rfl rfl (by simp) ?_
                intro H32 kH32 nH32 sH32
                have mH32 := kH32.1
                have hk3 := hk3.new kH32 (fun b hb => by simp at hb ⊢; omega)
                have hacc4 := hacc4.keepW kH32 (by omega)
                have c17 : Cl H32 H10.next [.slice (some ⟨H30.next, 0, none⟩) (i3 + 1) (i3 + 1), .slice g.ra g.rn g.rcap, iv g.inlet, iv g.reserve, iv g.winds] := sH32
                refine wN_end ?_
                first | refine wN_reg ?_ | refine wN_blk ?_ | refine wN_bseq ?_ | (refine wOps_nil ?_; refine wN_reg ?_)
                refine wN_add (a := (i3 : Int)) (b := 1) rfl rfl ⟨by omega, by omega⟩ ?_
                refine wN_mov (v := iv ((i3 : Int) + 1)) rfl ?_
                refine wN_end ?_
                exact ⟨k3 - 1, i3 + 1, by omega, ⟨by omega, hk3, _, c17, by rw [take_map hzb, bgc_app]; exact hacc4⟩, rfl, rfl, rfl, rfl, rfl, rfl, rfl, rfl, rfl, rfl, rfl, rfl, rfl, rfl, trivial⟩
              · have q9 : ¬ ((i3 : Int) < (g.bn : Int)) := of_decide_eq_false q9
                have ei3 : i3 = g.bn := by omega
                rw [ei3, List.take_of_length_le (by rw [hat.bl]; omega)] at hacc3
                obtain ⟨ba2, bc2, ebv, hbsl, hbf2⟩ := hacc3.sl
                subst ebv
                obtain ⟨leT, okT, wT⟩ := Fh.le_wbs (ba := ba2) (bcap := bc2) hok hat (m := (m : Int)) (by omega)
                have atT := hat.wbs hbsl
                have hrsl := hk3.sl hrsl (fun b e q => by have := hrf2 b e; simp at q; omega)
                have hjr := hjr.keep hk3 (fun x q => by simp at q; omega)
                have atF := hat.wrt hrsl (by rw [hpre.len]) hjr
                have atM := hat.mono hat.le (Nat.le_refl _)
                have f1 := Four.of hok hat hfst ho1 ho2 ho3 (atM.wr (min 1099511627776 (g.reserve + (m : Int)))) (Fh.ok_wr hok (by omega) (by omega)) (Fh.le_refl v (fun i j hi hj => (hri i j hi hj).1) _) (by show g.reserve ≤ min _ _; omega)
                have f2 := Four.of hok hat hfst ho1 ho2 ho3 (atM.wd cx) (Fh.ok_wd hok hcx1.1.1 hcx1.1.2) (Fh.le_wd v (fun i j hi hj => (hri i j hi hj).1) hcx1.2) (Int.le_refl _)
                have f3 := Four.of hok hat hfst ho1 ho2 ho3 atF okF leF (Int.le_refl _)
                have f4 := Four.of hok hat hfst ho1 ho2 ho3 (atM.wi (min 1073741824 (g.inlet + (m : Int)))) (Fh.ok_wi hok (by omega) (by omega)) (Fh.le_wi v (fun i j hi hj => (hri i j hi hj).1) (by omega)) (Int.le_refl _)
                have hbd : ∀ i, i < g.bn → g.Bd i := fun i hi => Fh.bd v hat hi
                have vT := Fh.vd okT atT
                have hbdT : ∀ i, i < g.bn → (g.wbs ba2 bc2 (g.bs.map (tg (m : Int)))).Bd i := fun i hi => Fh.bd vT atT hi
                have pf1 := f1.1
                have pf2 := f2.1
                have pf3 := f3.1
                have pf4 := f4.1
                first | (refine wN_exit ?_; show wC _ _ _ _ _ _ _ _ _) | skip
                refine wN_seq ?_
                refine wN_lda (b := H6.next) (o := 0) rfl z13.rd (show row 5 _ _ = some [.slice g.ba g.bn g.bcap, .slice g.ra g.rn g.rcap, iv g.inlet, iv (min 1099511627776 (g.reserve + (m : Int))), iv g.winds] from rfl) ?_
                refine wN_lda (b := H7.next) (o := 0) rfl z14.rd (show row 5 _ _ = some [.slice g.ba g.bn g.bcap, .slice g.ra g.rn g.rcap, iv g.inlet, iv g.reserve, iv ((g.wm &&& wq : Nat) : Int)] from rfl) ?_
                refine wN_lda (b := H8.next) (o := 0) rfl z15.rd (show row 5 _ _ = some [.slice g.ba g.bn g.bcap, .slice ra2 g.rn rc2, iv g.inlet, iv g.reserve, iv g.winds] from rfl) ?_
                refine wN_lda (b := H9.next) (o := 0) rfl z16.rd (show row 5 _ _ = some [.slice g.ba g.bn g.bcap, .slice g.ra g.rn g.rcap, iv (min 1073741824 (g.inlet + (m : Int))), iv g.reserve, iv g.winds] from rfl) ?_
                obtain ⟨H33, hH33⟩ : ∃ H33, L3.new (.cells ((g.wr (min 1099511627776 (g.reserve + (m : Int)))).v ++ (g.wd cx).v ++ (g.wrt ra2 rc2 rs).v ++ (g.wi (min 1073741824 (g.inlet + (m : Int)))).v) 25 false) = H33 := ⟨_, rfl⟩
                refine wN_memh (H' := H33) (k := .heavy) rfl (by kernel_rfl) ((heap_build4h (a := (g.wr (min 1099511627776 (g.reserve + (m : Int))))) (b := (g.wd cx)) (c := (g.wrt ra2 rc2 rs)) (e := (g.wi (min 1073741824 (g.inlet + (m : Int))))) rfl (by rw [hcx]; rfl) rfl rfl).trans (by rw [← hH33])) (fun b e => by cases e) ?_
                obtain ⟨kH33, nH33, c33⟩ := new_facts hH33; clear hH33
                have mH33 := kH33.1
                have hk3 := hk3.trans (kH33.mono (by simp))
                have hat := hat.keep kH33 (by simp)
                have hso := kH33.sc hso (by simp)
                have z3 := kH33.cl z3 (by simp)
                have z10 := kH33.cl z10 (by simp)
                have z13 := kH33.cl z13 (by simp)
                have z14 := kH33.cl z14 (by simp)
                have z15 := kH33.cl z15 (by simp)
                have z16 := kH33.cl z16 (by simp)
                have c17 := kH33.cl c17 (by simp)
                have atT := atT.keep kH33 (by simp)
                have pf1 := pf1.keep kH33 (by simp)
                have pf2 := pf2.keep kH33 (by simp)
                have pf3 := pf3.keep kH33 (by simp)
                have pf4 := pf4.keep kH33 (by simp)
                obtain ⟨hb4, ehb4⟩ : ∃ b, b = L3.next := ⟨_, rfl⟩
                rw [← ehb4] at c33 ⊢
                have c33 := c33.rd
                refine wN_len (m := 4) rfl ?_
                refine wN_mov (v := iv 0) rfl ?_
                refine wN_end ?_
                have w10 := z10
                have w17 := c17
                have hso4 := hso
                have atT4 := atT
                have c40 := c33
                have lw10 := w10.rd.lt
                have lw17 := w17.rd.lt
                refine loop_low (fn := Try.f10) E10_4 N10 L10x4 (fun i : Nat => [(3, pt H.next), (7, .slice (some ⟨sb, 0, none⟩) g.bn g.bn), (9, .slice la1 g.bn lc1), (10, pt H4.next), (12, iv ((g.sl o).d2)), (17, pt H10.next), (174, .slice (some ⟨hb4, 0, none⟩) 4 4), (175, iv 4), (176, iv (i : Int))])
                  (fun k i H' => i + k = 4 ∧ Keep H33 H' []) 4 0 ⟨by omega, Keep.refl _ _⟩ ⟨rfl, rfl, rfl, rfl, rfl, rfl, rfl, rfl, rfl, trivial⟩ ?_
                rintro k4 i4 L4 ⟨hik4, hk4⟩
                have mk4 := hk4.1
                have hso := hk4.sc hso4 (by simp)
                have atT := atT4.keep hk4 (by simp)
                have c4 := hk4.rd c40 (by simp)
                have pf1 := pf1.keep hk4 (by simp)
                have pf2 := pf2.keep hk4 (by simp)
                have pf3 := pf3.keep hk4 (by simp)
                have pf4 := pf4.keep hk4 (by simp)
                have z10 := hk4.cl w10 (by simp)
                have z17 := hk4.cl w17 (by simp)
                refine wN_seq ?_
                refine wN_c_lss (a := (i4 : Int)) (b := 4) rfl rfl ?_
                refine wN_end ?_
                refine And.intro (fun q10 => ?_) (fun q10 => ?_)
                · have q10 : (i4 : Int) < 4 := of_decide_eq_true q10
                  have hi4 : i4 < 4 := by omega
                  obtain ⟨g', hrow, ha', hok', hbn', hbe0, hdd⟩ : ∃ g' : Fh, row 5 ((g.wr (min 1099511627776 (g.reserve + (m : Int)))).v ++ (g.wd cx).v ++ (g.wrt ra2 rc2 rs).v ++ (g.wi (min 1073741824 (g.inlet + (m : Int)))).v) (0 + i4 * 5) = some g'.v ∧ g'.At L3.next L4 ∧ g'.ok = true ∧ g'.bn = g.bn ∧ g'.be = 0 ∧ ∀ o', g'.fst = some o' → (g'.sl o').d2 ≤ (g.sl o).d2 := by
                    refine ⟨_, row4 hi4, ?_⟩
                    match i4, hi4 with
                    | 0, _ => exact ⟨pf1, f1.2⟩
                    | 1, _ => exact ⟨pf2, f2.2⟩
                    | 2, _ => exact ⟨pf3, f3.2⟩
                    | 3, _ => exact ⟨pf4, f4.2⟩
                  first | refine wN_skip ?_ | skip
                  refine wN_seq ?_
                  refine wN_idx (b := hb4) (o := 0) (k := i4) (j := (i4 : Int)) rfl rfl rfl hi4 ?_
                  refine wN_lda (b := hb4) (o := 0 + i4 * 5) rfl c4 hrow ?_
                  refine wN_alc ?_
                  intro H34 kH34 nH34 c34
                  have c34 : Cl H34 L4.next [.slice none 0 0, .slice none 0 0, iv 0, iv 0, iv 0] := c34
                  have mH34 := kH34.1
                  have hk4 := hk4.trans kH34
                  have hso := kH34.sc hso (by simp)
                  have atT := atT.keep kH34 (by simp)
                  have pf1 := pf1.keep kH34 (by simp)
                  have pf2 := pf2.keep kH34 (by simp)
                  have pf3 := pf3.keep kH34 (by simp)
                  have pf4 := pf4.keep kH34 (by simp)
                  have z10 := kH34.cl z10 (by simp)
                  have z17 := kH34.cl z17 (by simp)
                  have c4 := kH34.rd c4 (by simp)
                  have ha' := ha'.keep kH34 (by simp)
                  refine wN_sta (b := L4.next) (o := 0) rfl rfl c34 (by omega) rfl rfl (by simp) ?_
                  intro H35 kH35 nH35 sH35
                  have mH35 := kH35.1
                  have hk4 := hk4.new kH35 (fun b hb => by simp at hb ⊢; omega)
                  have hso := kH35.sc hso (by first | (simp; done) | (simp; omega))
                  have atT := atT.keep kH35 (fun x hx => by first | (simp at hx; done) | (simp at hx; omega))
                  have pf1 := pf1.keep kH35 (fun x hx => by first | (simp at hx; done) | (simp at hx; omega))
                  have pf2 := pf2.keep kH35 (fun x hx => by first | (simp at hx; done) | (simp at hx; omega))
                  have pf3 := pf3.keep kH35 (fun x hx => by first | (simp at hx; done) | (simp at hx; omega))
                  have pf4 := pf4.keep kH35 (fun x hx => by first | (simp at hx; done) | (simp at hx; omega))
                  have z10 := kH35.cl z10 (by first | (simp; done) | (simp; omega))
                  have z17 := kH35.cl z17 (by first | (simp; done) | (simp; omega))
                  have c4 := kH35.rd c4 (by first | (simp; done) | (simp; omega))
                  have ha' := ha'.keep kH35 (fun x hx => by first | (simp at hx; done) | (simp at hx; omega))
                  have c34 : Cl H35 L4.next [.slice g'.ba g'.bn g'.bcap, .slice g'.ra g'.rn g'.rcap, iv g'.inlet, iv g'.reserve, iv g'.winds] := sH35
                  refine wN_end ?_
                  refine wN_seq ?_
                  refine wN_lda (b := L4.next) (o := 0) rfl c34.rd (show row 5 _ _ = some [.slice g'.ba g'.bn g'.bcap, .slice g'.ra g'.rn g'.rcap, iv g'.inlet, iv g'.reserve, iv g'.winds] from rfl) ?_
                  obtain ⟨wH36, H36, fH36, kH36, hb⟩ := Best_ok (kn := kn) (lo := lo) (H := H35) (g := g') ha' (by omega)
                  obtain ⟨hbe', hok2, sb', o', rfl, hfst', hord'⟩ := hb.resolve_left (fun q => q.1 hbe0)
                  obtain ⟨hsbf', hso', ho1', ho2', ho3', hcan'⟩ := hord'
                  have lso' := hso'.lt
                  have hd2 := hdd o' hfst'
                  obtain ⟨_, _, hens'⟩ := Fh.bst_in (c := o') hfst'
                  have hens' : (g'.st o' (g'.bn - 1)).t2 ≤ g'.reserve := by unfold Fh.ens at hens'; simpa using hens'
                  have iso' := zi_ord ho1' ho2' ho3'
                  have good' : g'.Good (zi o') := ⟨hok', iso', by rw [no_zi]; exact hcan', by show (g'.st (no (zi o')) (g'.bn - 1)).t2 ≤ _; rw [no_zi]; exact hens'⟩
                  have mH36 := kH36.1
                  have hk4 := hk4.trans kH36
                  have hso := kH36.sc hso (by simp)
                  have atT := atT.keep kH36 (by simp)
                  have pf1 := pf1.keep kH36 (by simp)
                  have pf2 := pf2.keep kH36 (by simp)
                  have pf3 := pf3.keep kH36 (by simp)
                  have pf4 := pf4.keep kH36 (by simp)
                  have z10 := kH36.cl z10 (by simp)
                  have z17 := kH36.cl z17 (by simp)
                  have c4 := kH36.rd c4 (by simp)
                  have ha' := ha'.keep kH36 (by simp)
                  have c34 := kH36.cl c34 (by simp)
                  refine wN_callf (vs := [.agg g'.v.toArray]) rfl (callX_args fH36) ?_
                  refine wN_mov (v := .tuple #[.slice (some ⟨sb', 0, none⟩) g'.bn g'.bn, iv 0]) rfl ?_
                  refine wN_pur (v := .slice (some ⟨sb', 0, none⟩) g'.bn g'.bn) rfl (by kernel_rfl) ?_
                  refine wN_pur (v := iv 0) rfl (by kernel_rfl) ?_
                  refine wN_mov (v := .slice (some ⟨sb', 0, none⟩) g'.bn g'.bn) rfl ?_
                  refine wN_mov (v := iv 0) rfl ?_
                  refine wN_end ?_
                  refine wN_seq ?_
                  refine wN_lda (b := L4.next) (o := 0) rfl c34.rd (show row 5 _ _ = some [.slice g'.ba g'.bn g'.bcap, .slice g'.ra g'.rn g'.rcap, iv g'.inlet, iv g'.reserve, iv g'.winds] from rfl) ?_
                  refine wN_mov (v := .slice (some ⟨sb', 0, none⟩) g'.bn g'.bn) rfl ?_
                  have hlo2 : Lf H36 (some ⟨sb', 0, none⟩) g'.bn g'.bn (zi o') := ⟨hso'.cl.sl (Nat.le_refl _), by rw [zi_len]; exact ho1', fun b e => by cases e; exact hso'.fx⟩
                  obtain ⟨wH37, H37, fH37, kH37, la2, lc2, rfl, hl2⟩ := Times_v (kn := kn) (lo := lo) (H := H36) (g := g') ha' hlo2 (by omega)
                  have ero2 := Fh.er0 good'
                  obtain ⟨tw1, tw2⟩ := Fh.tv ero2
                  rw [tw1, tw2, ero2, Fh.fs_len, show g'.la (zi o') = g'.sl o' from by unfold Fh.la; rw [no_zi]] at fH37
                  rw [tw1, Fh.fs_len, no_zi] at hl2
                  have mH37 := kH37.1
                  have hk4 := hk4.trans kH37
                  have hso := kH37.sc hso (by simp)
                  have atT := atT.keep kH37 (by simp)
                  have pf1 := pf1.keep kH37 (by simp)
                  have pf2 := pf2.keep kH37 (by simp)
                  have pf3 := pf3.keep kH37 (by simp)
                  have pf4 := pf4.keep kH37 (by simp)
                  have z10 := kH37.cl z10 (by simp)
                  have z17 := kH37.cl z17 (by simp)
                  have c4 := kH37.rd c4 (by simp)
                  have ha' := ha'.keep kH37 (by simp)
                  have c34 := kH37.cl c34 (by simp)
                  have hso' := kH37.sc hso' (by simp)
                  have fl2 := hl2.old
                  refine wN_callf (vs := [.agg g'.v.toArray, slv sb' g'.bn g'.bn]) (v := .tuple #[.slice la2 g'.bn lc2, .agg (g'.sl o').u.toArray, iv 0]) rfl (callX_args fH37) ?_
                  refine wN_mov (v := .tuple #[.slice la2 g'.bn lc2, .agg (g'.sl o').u.toArray, iv 0]) rfl ?_
                  refine wN_pur (v := .slice la2 g'.bn lc2) rfl (by kernel_rfl) ?_
                  refine wN_pur (v := .agg (g'.sl o').u.toArray) rfl (by kernel_rfl) ?_
                  refine wN_pur (v := iv 0) rfl (by kernel_rfl) ?_
                  refine wN_alc ?_
                  intro H38 kH38 nH38 c38
                  have c38 : Cl H38 H37.next [iv 0, iv 0, iv 0, iv 0, iv 0, iv 0, iv 0, iv 0] := c38
                  have mH38 := kH38.1
                  have hk4 := hk4.trans kH38
                  have hso := kH38.sc hso (by simp)
                  have atT := atT.keep kH38 (by simp)
                  have pf1 := pf1.keep kH38 (by simp)
                  have pf2 := pf2.keep kH38 (by simp)
                  have pf3 := pf3.keep kH38 (by simp)
                  have pf4 := pf4.keep kH38 (by simp)
                  have z10 := kH38.cl z10 (by simp)
                  have z17 := kH38.cl z17 (by simp)
                  have c4 := kH38.rd c4 (by simp)
                  have ha' := ha'.keep kH38 (by simp)
                  have c34 := kH38.cl c34 (by simp)
                  have hso' := kH38.sc hso' (by simp)
                  have hl2 := kH38.sl0 hl2
                  refine wN_mov (v := .slice la2 g'.bn lc2) rfl ?_
                  refine wN_sta (b := H37.next) (o := 0) rfl rfl c38 (by omega) rfl rfl (by simp) ?_
                  intro H39 kH39 nH39 sH39
                  have mH39 := kH39.1
                  have hk4 := hk4.new kH39 (fun b hb => by simp at hb ⊢; omega)
                  have hso := kH39.sc hso (by first | (simp; done) | (simp; omega))
                  have atT := atT.keep kH39 (fun x hx => by first | (simp at hx; done) | (simp at hx; omega))
                  have pf1 := pf1.keep kH39 (fun x hx => by first | (simp at hx; done) | (simp at hx; omega))
                  have pf2 := pf2.keep kH39 (fun x hx => by first | (simp at hx; done) | (simp at hx; omega))
                  have pf3 := pf3.keep kH39 (fun x hx => by first | (simp at hx; done) | (simp at hx; omega))
                  have pf4 := pf4.keep kH39 (fun x hx => by first | (simp at hx; done) | (simp at hx; omega))
                  have z10 := kH39.cl z10 (by first | (simp; done) | (simp; omega))
                  have z17 := kH39.cl z17 (by first | (simp; done) | (simp; omega))
                  have c4 := kH39.rd c4 (by first | (simp; done) | (simp; omega))
                  have ha' := ha'.keep kH39 (fun x hx => by first | (simp at hx; done) | (simp at hx; omega))
                  have c34 := kH39.cl c34 (by first | (simp; done) | (simp; omega))
                  have hso' := kH39.sc hso' (by first | (simp; done) | (simp; omega))
                  have hl2 := kH39.sl hl2 (fun b e => by have := fl2 b e; first | (simp; done) | (simp; omega))
                  have c38 : Cl H39 H37.next [iv ((g'.sl o').t1), iv ((g'.sl o').t2), iv ((g'.sl o').l1), iv ((g'.sl o').l2), iv ((g'.sl o').s1), iv ((g'.sl o').s2), iv ((g'.sl o').r1), iv ((g'.sl o').r2)] := sH39
                  refine wN_mov (v := iv 0) rfl ?_
                  refine wN_end ?_
                  refine wN_seq ?_
                  refine wN_mov (v := iv 0) rfl ?_
                  refine wN_b_neq (a := 0) (b := 0) rfl rfl ?_
                  intro t11 g11; obtain rfl : t11 = false := by rw [← g11]; rfl
                  refine wN_mov (v := .bool false) rfl ?_
                  refine wN_g rfl (wN_mov (v := iv 0) rfl ?_)
                  refine wN_g rfl (wN_b_neq (a := 0) (b := 0) rfl rfl ?_)
                  intro t12 g12; obtain rfl : t12 = false := by rw [← g12]; rfl
                  refine wN_pur (v := .bool false) rfl rfl ?_
                  refine wN_mov (v := .bool false) rfl ?_
                  refine wN_g rfl (wN_mov (v := .slice la2 g'.bn lc2) rfl ?_)
                  refine wN_g rfl (wN_len (m := g'.bn) rfl ?_)
                  refine wN_g rfl (wN_mov (v := .slice la1 g.bn lc1) rfl ?_)
                  refine wN_g rfl (wN_len (m := g.bn) rfl ?_)
                  refine wN_g rfl (wN_b_neq (a := (g'.bn : Int)) (b := (g.bn : Int)) rfl rfl ?_)
                  intro t13 g13; cases t13
                  · have g13 : ¬ ((g'.bn : Int) ≠ (g.bn : Int)) := by simpa using g13
                    refine wN_pur (v := .bool false) rfl rfl ?_
                    refine wN_mov (v := .bool false) rfl ?_
                    refine wN_g rfl (wN_mov (v := .slice la2 g'.bn lc2) rfl ?_)
                    refine wN_g rfl (wN_mov (v := .slice la2 g'.bn lc2) rfl ?_)
                    refine wN_g rfl (wN_len (m := g'.bn) rfl ?_)
                    refine wN_g rfl (wN_sub (a := (g'.bn : Int)) (b := 1) rfl rfl ⟨by omega, by omega⟩ ?_)
                    rcases id hl2 with ⟨_, h0, _⟩ | ⟨xl2, el2, rl2, _⟩
                    · omega
                    have ll2 := rl2.lt
                    refine wN_g rfl (wN_idx (b := xl2) (o := 0) (k := g'.bn - 1) (j := (g'.bn : Int) - 1) (by rw [← el2]; rfl) rfl (by omega) (by omega) ?_)
                    refine wN_g rfl (wN_addo (b := xl2) (o := 0 + (g'.bn - 1) * 5) rfl ?_)
                    refine wN_g rfl (wN_addo (b := xl2) (o := 0 + (g'.bn - 1) * 5 + 3) rfl ?_)
                    refine wN_g rfl (wN_ld (b := xl2) (o := 0 + (g'.bn - 1) * 5 + 4) (v := iv ((g'.sl o').d2)) rfl rl2 (flc_at' (j := 4) (Fh.fs_at (by omega)) rfl) ?_)
                    refine wN_g rfl (wN_mov (v := iv ((g.sl o).d2)) rfl ?_)
                    refine wN_g rfl (wN_b_gtr (a := (g'.sl o').d2) (b := (g.sl o).d2) rfl rfl ?_)
                    intro t14 g14; cases t14
                    · have g14 : ¬ (((g'.sl o').d2) > ((g.sl o).d2)) := of_decide_eq_false g14
                      refine wN_pur (v := .bool false) rfl rfl ?_
                      refine wN_end ?_
                      refine condF ?_
                      first | refine wN_skip ?_ | skip
                      first | refine wN_reg ?_ | refine wN_blk ?_ | refine wN_bseq ?_ | (refine wOps_nil ?_; refine wN_reg ?_)
                      refine wN_add (a := (i4 : Int)) (b := 1) rfl rfl ⟨by omega, by omega⟩ ?_
                      refine wN_mov (v := iv ((i4 : Int) + 1)) rfl ?_
                      refine wN_end ?_
                      exact ⟨k4 - 1, i4 + 1, by omega, ⟨by omega, hk4⟩, rfl, rfl, rfl, rfl, rfl, rfl, rfl, rfl, rfl, trivial⟩
                    · have g14 : ((g'.sl o').d2) > ((g.sl o).d2) := of_decide_eq_true g14
                      exfalso; omega
                  · have g13 : (g'.bn : Int) ≠ (g.bn : Int) := by simpa using g13
                    exfalso; omega
                · have q10 : ¬ ((i4 : Int) < 4) := of_decide_eq_false q10
                  obtain ⟨gt, hgt⟩ : ∃ gt, gt = (g.wbs ba2 bc2 (g.bs.map (tg (m : Int)))) := ⟨_, rfl⟩
                  rw [← hgt] at atT leT okT wT hbdT
                  have hatt := atT
                  obtain ⟨td, tt, _⟩ := leT.st hbdT hbd hgo (g.bn - 1) (by omega) hcan
                  have t1 := (Fh.st1_le leT wT hbdT hbd hgo (g.bn - 1) (by omega)).1
                  have ntn := leT.n
                  have hct := leT.can hgo (show g.bn - 1 < g.bn by omega) hcan
                  have rst : gt.reserve = g.reserve := by rw [hgt]; rfl
                  have goodt : gt.Good (zi o) := ⟨okT, by rw [ntn]; exact iso, by rw [no_zi, ntn]; exact hct, by show (gt.st (no (zi o)) (gt.bn - 1)).t2 ≤ gt.reserve; rw [no_zi, ntn, rst]; omega⟩
                  have et1 : (gt.sl o).t1 = (gt.st o (g.bn - 1)).t1 := by show (gt.st o (gt.bn - 1)).t1 = _; rw [ntn]
                  have et2 : (gt.sl o).t2 = (gt.st o (g.bn - 1)).t2 := by show (gt.st o (gt.bn - 1)).t2 = _; rw [ntn]
                  have es1 : (g.sl o).t1 = (g.st o (g.bn - 1)).t1 := rfl
                  have es2 : (g.sl o).t2 = (g.st o (g.bn - 1)).t2 := rfl
                  first | (refine wN_exit ?_; show wC _ _ _ _ _ _ _ _ _) | skip
                  refine wN_seq ?_
                  refine wN_lda (b := H10.next) (o := 0) rfl z17.rd (show row 5 _ _ = some [.slice ba2 g.bn bc2, .slice g.ra g.rn g.rcap, iv g.inlet, iv g.reserve, iv g.winds] from rfl) ?_
                  refine wN_mov (v := .slice (some ⟨sb, 0, none⟩) g.bn g.bn) rfl ?_
                  have hlo3 : Lf L4 (some ⟨sb, 0, none⟩) g.bn g.bn (zi o) := ⟨hso.cl.sl (Nat.le_refl _), by rw [zi_len]; exact ho1, fun b e => by cases e; exact hso.fx⟩
                  obtain ⟨wH40, H40, fH40, kH40, la3, lc3, rfl, hl3⟩ := Times_v (kn := kn) (lo := lo) (H := L4) (g := gt) hatt hlo3 (by omega)
                  have ero3 := Fh.er0 goodt
                  obtain ⟨tw1, tw2⟩ := Fh.tv ero3
                  rw [tw1, tw2, ero3, Fh.fs_len, show gt.la (zi o) = gt.sl o from by unfold Fh.la; rw [no_zi]] at fH40
                  rw [tw1, Fh.fs_len, no_zi] at hl3
                  have mH40 := kH40.1
                  have hk4 := hk4.trans kH40
                  have hso := kH40.sc hso (by simp)
                  have atT := atT.keep kH40 (by simp)
                  have pf1 := pf1.keep kH40 (by simp)
                  have pf2 := pf2.keep kH40 (by simp)
                  have pf3 := pf3.keep kH40 (by simp)
                  have pf4 := pf4.keep kH40 (by simp)
                  have z10 := kH40.cl z10 (by simp)
                  have z17 := kH40.cl z17 (by simp)
                  have c4 := kH40.rd c4 (by simp)
                  have hatt := hatt.keep kH40 (by simp)
                  have fl3 := hl3.old
                  refine wN_callf (vs := [.agg gt.v.toArray, slv sb g.bn g.bn]) (v := .tuple #[.slice la3 gt.bn lc3, .agg (gt.sl o).u.toArray, iv 0]) (by rw [hgt]; rfl) (callX_args fH40) ?_
                  refine wN_mov (v := .tuple #[.slice la3 gt.bn lc3, .agg (gt.sl o).u.toArray, iv 0]) rfl ?_
                  refine wN_pur (v := .slice la3 gt.bn lc3) rfl (by kernel_rfl) ?_
                  refine wN_pur (v := .agg (gt.sl o).u.toArray) rfl (by kernel_rfl) ?_
                  refine wN_pur (v := iv 0) rfl (by kernel_rfl) ?_
                  refine wN_alc ?_
                  intro H41 kH41 nH41 c41
                  have c41 : Cl H41 H40.next [iv 0, iv 0, iv 0, iv 0, iv 0, iv 0, iv 0, iv 0] := c41
                  have mH41 := kH41.1
                  have hk4 := hk4.trans kH41
                  have hso := kH41.sc hso (by simp)
                  have atT := atT.keep kH41 (by simp)
                  have pf1 := pf1.keep kH41 (by simp)
                  have pf2 := pf2.keep kH41 (by simp)
                  have pf3 := pf3.keep kH41 (by simp)
                  have pf4 := pf4.keep kH41 (by simp)
                  have z10 := kH41.cl z10 (by simp)
                  have z17 := kH41.cl z17 (by simp)
                  have c4 := kH41.rd c4 (by simp)
                  have hatt := hatt.keep kH41 (by simp)
                  have hl3 := kH41.sl0 hl3
                  refine wN_mov (v := .slice la3 gt.bn lc3) rfl ?_
                  refine wN_sta (b := H40.next) (o := 0) rfl rfl c41 (by omega) rfl rfl (by simp) ?_
                  intro H42 kH42 nH42 sH42
                  have mH42 := kH42.1
                  have hk4 := hk4.new kH42 (fun b hb => by simp at hb ⊢; omega)
                  have hso := kH42.sc hso (by first | (simp; done) | (simp; omega))
                  have atT := atT.keep kH42 (fun x hx => by first | (simp at hx; done) | (simp at hx; omega))
                  have pf1 := pf1.keep kH42 (fun x hx => by first | (simp at hx; done) | (simp at hx; omega))
                  have pf2 := pf2.keep kH42 (fun x hx => by first | (simp at hx; done) | (simp at hx; omega))
                  have pf3 := pf3.keep kH42 (fun x hx => by first | (simp at hx; done) | (simp at hx; omega))
                  have pf4 := pf4.keep kH42 (fun x hx => by first | (simp at hx; done) | (simp at hx; omega))
                  have z10 := kH42.cl z10 (by first | (simp; done) | (simp; omega))
                  have z17 := kH42.cl z17 (by first | (simp; done) | (simp; omega))
                  have c4 := kH42.rd c4 (by first | (simp; done) | (simp; omega))
                  have hatt := hatt.keep kH42 (fun x hx => by first | (simp at hx; done) | (simp at hx; omega))
                  have hl3 := kH42.sl hl3 (fun b e => by have := fl3 b e; first | (simp; done) | (simp; omega))
                  have c41 : Cl H42 H40.next [iv ((gt.sl o).t1), iv ((gt.sl o).t2), iv ((gt.sl o).l1), iv ((gt.sl o).l2), iv ((gt.sl o).s1), iv ((gt.sl o).s2), iv ((gt.sl o).r1), iv ((gt.sl o).r2)] := sH42
                  refine wN_mov (v := iv 0) rfl ?_
                  refine wN_end ?_
                  refine wN_seq ?_
                  refine wN_mov (v := iv 0) rfl ?_
                  refine wN_b_eql (a := 0) (b := 0) rfl rfl ?_
                  intro t15 g15; obtain rfl : t15 = true := by rw [← g15]; rfl
                  refine wN_mov (v := .bool true) rfl ?_
                  refine wN_g rfl (wN_addo (b := H40.next) (o := 0) rfl ?_)
                  refine wN_g rfl (wN_addo (b := H40.next) (o := 0) rfl ?_)
                  refine wN_g rfl (wN_ld (b := H40.next) (o := 0) (v := iv ((gt.sl o).t1)) rfl c41.rd rfl ?_)
                  refine wN_g rfl (wN_addo (b := H4.next) (o := 0) rfl ?_)
                  refine wN_g rfl (wN_addo (b := H4.next) (o := 0) rfl ?_)
                  refine wN_g rfl (wN_ld (b := H4.next) (o := 0) (v := iv ((g.sl o).t1)) rfl z10.rd rfl ?_)
                  refine wN_g rfl (wN_b_leq (a := (gt.sl o).t1) (b := (g.sl o).t1) rfl rfl ?_)
                  intro t16 g16; cases t16
                  · have g16 : ¬ (((gt.sl o).t1) ≤ ((g.sl o).t1)) := of_decide_eq_false g16
                    exfalso; omega
                  · have g16 : ((gt.sl o).t1) ≤ ((g.sl o).t1) := of_decide_eq_true g16
                    refine wN_pur (v := .bool true) rfl rfl ?_
                    refine wN_mov (v := .bool true) rfl ?_
                    refine wN_g rfl (wN_addo (b := H40.next) (o := 0) rfl ?_)
                    refine wN_g rfl (wN_addo (b := H40.next) (o := 0) rfl ?_)
                    refine wN_g rfl (wN_ld (b := H40.next) (o := 1) (v := iv ((gt.sl o).t2)) rfl c41.rd rfl ?_)
                    refine wN_g rfl (wN_addo (b := H4.next) (o := 0) rfl ?_)
                    refine wN_g rfl (wN_addo (b := H4.next) (o := 0) rfl ?_)
                    refine wN_g rfl (wN_ld (b := H4.next) (o := 1) (v := iv ((g.sl o).t2)) rfl z10.rd rfl ?_)
                    refine wN_g rfl (wN_b_leq (a := (gt.sl o).t2) (b := (g.sl o).t2) rfl rfl ?_)
                    intro t17 g17; cases t17
                    · have g17 : ¬ (((gt.sl o).t2) ≤ ((g.sl o).t2)) := of_decide_eq_false g17
                      exfalso; omega
                    · have g17 : ((gt.sl o).t2) ≤ ((g.sl o).t2) := of_decide_eq_true g17
                      refine wN_pur (v := .bool true) rfl rfl ?_
                      refine wN_mov (v := .bool true) rfl ?_
                      refine wN_g rfl (wN_callf (vs := []) rfl (callX_known hkn) ?_)
                      refine wN_pur (v := .bool true) rfl rfl ?_
                      refine wN_mov (v := .bool true) rfl ?_
                      refine wN_end ?_
                      exact And.intro trivial (Exists.intro _ (And.intro rfl rfl))
          · have q6 : ¬ (((g.wm &&& wq : Nat) : Int) > 0) := of_decide_eq_false q6
            obtain ⟨cx, hcx⟩ : ∃ cx : Int, cx = g.winds := ⟨_, rfl⟩
            have hcx1 : (1 ≤ cx ∧ cx ≤ 15) ∧ ∀ k, cx.toNat.testBit k = true → g.wm.testBit k = true := by
              subst hcx
              exact ⟨by omega, fun k hk => hk⟩
            first | refine wN_skip ?_ | skip
            refine wN_seq ?_
            refine wN_addo (b := H.next) (o := 0) rfl ?_
            refine wN_ld (b := H.next) (o := 2) (v := iv g.inlet) rfl c1.rd rfl ?_
            refine wN_mov (v := .int .u16 (m : Int)) rfl ?_
            refine wN_pur (v := iv (m : Int)) rfl (conv_66 (m : Int) (by omega) (by omega) rfl) ?_
            refine wN_add (a := g.inlet) (b := (m : Int)) rfl rfl ⟨by omega, by omega⟩ ?_
            refine wN_mm (a := 1073741824) (b := g.inlet + (m : Int)) rfl rfl ?_
            refine wN_addo (b := H9.next) (o := 0) rfl ?_
            refine wN_st (b := H9.next) (o := 2) rfl rfl c10 (by omega) rfl rfl (by simp) ?_
            intro H43 kH43 nH43 sH43
            have mH43 := kH43.1
            have hat := hat.keep kH43 (fun x hx => by first | (simp at hx; done) | (simp at hx; omega))
            have c1 := kH43.cl c1 (by first | (simp; done) | (simp; omega))
            have hso := kH43.sc hso (by first | (simp; done) | (simp; omega))
            have hl1 := kH43.sl hl1 (fun b e => by have := fl1 b e; first | (simp; done) | (simp; omega))
            have c5 := kH43.cl c5 (by first | (simp; done) | (simp; omega))
            have rl1 := kH43.rd rl1 (by first | (simp; done) | (simp; omega))
            have c8 := kH43.cl c8 (by first | (simp; done) | (simp; omega))
            have c9 := kH43.cl c9 (by first | (simp; done) | (simp; omega))
            have c11 := kH43.cl c11 (by first | (simp; done) | (simp; omega))
            have c7 := kH43.cl c7 (by first | (simp; done) | (simp; omega))
            have c10 : Cl H43 H9.next [.slice g.ba g.bn g.bcap, .slice g.ra g.rn g.rcap, iv (min 1073741824 (g.inlet + (m : Int))), iv g.reserve, iv g.winds] := sH43
            refine wN_end ?_
            refine wN_seq ?_
            refine wN_addo (b := H8.next) (o := 0) rfl ?_
            refine wN_st (b := H8.next) (o := 1) rfl rfl c9 (by omega) rfl rfl (by simp) ?_
            intro H44 kH44 nH44 sH44
            have mH44 := kH44.1
            have hat := hat.keep kH44 (fun x hx => by first | (simp at hx; done) | (simp at hx; omega))
            have c1 := kH44.cl c1 (by first | (simp; done) | (simp; omega))
            have hso := kH44.sc hso (by first | (simp; done) | (simp; omega))
            have hl1 := kH44.sl hl1 (fun b e => by have := fl1 b e; first | (simp; done) | (simp; omega))
            have c5 := kH44.cl c5 (by first | (simp; done) | (simp; omega))
            have rl1 := kH44.rd rl1 (by first | (simp; done) | (simp; omega))
            have c8 := kH44.cl c8 (by first | (simp; done) | (simp; omega))
            have c11 := kH44.cl c11 (by first | (simp; done) | (simp; omega))
            have c7 := kH44.cl c7 (by first | (simp; done) | (simp; omega))
            have c10 := kH44.cl c10 (by first | (simp; done) | (simp; omega))
            have c9 : Cl H44 H8.next [.slice g.ba g.bn g.bcap, .slice none 0 0, iv g.inlet, iv g.reserve, iv g.winds] := sH44
            refine wN_addo (b := H10.next) (o := 0) rfl ?_
            refine wN_st (b := H10.next) (o := 0) rfl rfl c11 (by omega) rfl rfl (by simp) ?_
            intro H45 kH45 nH45 sH45
            have mH45 := kH45.1
            have hat := hat.keep kH45 (fun x hx => by first | (simp at hx; done) | (simp at hx; omega))
            have c1 := kH45.cl c1 (by first | (simp; done) | (simp; omega))
            have hso := kH45.sc hso (by first | (simp; done) | (simp; omega))
            have hl1 := kH45.sl hl1 (fun b e => by have := fl1 b e; first | (simp; done) | (simp; omega))
            have c5 := kH45.cl c5 (by first | (simp; done) | (simp; omega))
            have rl1 := kH45.rd rl1 (by first | (simp; done) | (simp; omega))
            have c8 := kH45.cl c8 (by first | (simp; done) | (simp; omega))
            have c7 := kH45.cl c7 (by first | (simp; done) | (simp; omega))
            have c10 := kH45.cl c10 (by first | (simp; done) | (simp; omega))
            have c9 := kH45.cl c9 (by first | (simp; done) | (simp; omega))
            have c11 : Cl H45 H10.next [.slice none 0 0, .slice g.ra g.rn g.rcap, iv g.inlet, iv g.reserve, iv g.winds] := sH45
            refine wN_end ?_
            refine wN_seq ?_
            refine wN_addo (b := H.next) (o := 0) rfl ?_
            refine wN_ld (b := H.next) (o := 1) (v := .slice g.ra g.rn g.rcap) rfl c1.rd rfl ?_
            refine wN_len (m := g.rn) rfl ?_
            refine wN_mov (v := iv 0) rfl ?_
            refine wN_end ?_
            have y3 := c1
            have y10 := c5
            have y13 := c7
            have y14 := c8
            have y16 := c10
            have y17 := c11
            have hat0 := hat
            have hso0 := hso
            have hle0 := hat.le
            have l15 := c9.rd.lt
            have ly3 := y3.rd.lt
            have ly10 := y10.rd.lt
            have ly13 := y13.rd.lt
            have ly14 := y14.rd.lt
            have ly16 := y16.rd.lt
            have ly17 := y17.rd.lt
            refine loop_low (fn := Try.f10) E10_1 N10 L10x1 (fun i : Nat => [(1, .int .u16 (m : Int)), (3, pt H.next), (7, .slice (some ⟨sb, 0, none⟩) g.bn g.bn), (9, .slice la1 g.bn lc1), (10, pt H4.next), (12, iv ((g.sl o).d2)), (13, pt H6.next), (14, pt H7.next), (15, pt H8.next), (16, pt H9.next), (17, pt H10.next), (112, .slice g.ra g.rn g.rcap), (113, iv (g.rn : Int)), (114, iv (i : Int))])
              (fun k i H' => i + k = g.rn ∧ Keep H45 H' [H8.next] ∧ ∃ rv rs, Cl H' H8.next [.slice g.ba g.bn g.bcap, rv, iv g.inlet, iv g.reserve, iv g.winds] ∧ Acc lo H45.next 26 H' rv i (rwc rs) ∧ PreR g (m : Int) i rs ∧ JR H45.next H' rv rs) g.rn 0 ⟨by omega, Keep.refl _ _, _, [], c9, .inl ⟨rfl, rfl, rfl⟩, ⟨rfl, fun j r h => by simp at h⟩, fun r h => by simp at h⟩ ⟨rfl, rfl, rfl, rfl, rfl, rfl, rfl, rfl, rfl, rfl, rfl, rfl, rfl, rfl, trivial⟩ ?_
            rintro k i L1 ⟨hik, hkx, rv, rs, c15, hacc, hpre, hjr⟩
            have mk1 := hkx.1
            have hat := hat0.keep hkx (fun x q => by simp at q; omega)
            have hso := hkx.sc hso0 (by first | (simp; done) | (simp; omega))
            have z3 := hkx.cl y3 (by first | (simp; done) | (simp; omega))
            have z10 := hkx.cl y10 (by first | (simp; done) | (simp; omega))
            have z13 := hkx.cl y13 (by first | (simp; done) | (simp; omega))
            have z14 := hkx.cl y14 (by first | (simp; done) | (simp; omega))
            have z16 := hkx.cl y16 (by first | (simp; done) | (simp; omega))
            have z17 := hkx.cl y17 (by first | (simp; done) | (simp; omega))
            refine wN_seq ?_
            refine wN_c_lss (a := (i : Int)) (b := (g.rn : Int)) rfl rfl ?_
            refine wN_end ?_
            refine And.intro (fun q18 => ?_) (fun q18 => ?_)
            · have q18 : (i : Int) < (g.rn : Int) := of_decide_eq_true q18
              have hi : i < g.rn := by omega
              obtain ⟨xr, exr, rxr, lxr⟩ := hat.rts (by omega)
              obtain ⟨hrs, hrl, hrf⟩ := hat.row hi
              have hvr := v.r i (by omega)
              have hacc1 := hacc
              first | refine wN_skip ?_ | skip
              refine wN_seq ?_
              refine wN_idx (b := xr) (o := 0) (k := i) (j := (i : Int)) (by rw [← exr]; rfl) rfl rfl hi ?_
              refine wN_ld (b := xr) (o := 0 + i * 1) (v := .slice (g.R i).ra (g.R i).n (g.R i).cap) rfl rxr (rwc_row (getR (by rw [hat.rl]; exact hi))) ?_
              refine wN_mov (v := .slice ((g.R i).ra) ((g.R i).n) ((g.R i).cap)) rfl ?_
              refine wN_end ?_
              refine wN_seq ?_
              refine wN_mov (v := .slice none 0 0) rfl ?_
              refine wN_end ?_
              refine wN_seq ?_
              refine wN_mov (v := .slice ((g.R i).ra) ((g.R i).n) ((g.R i).cap)) rfl ?_
              refine wN_len (m := (g.R i).n) rfl ?_
              refine wN_mov (v := iv 0) rfl ?_
              refine wN_end ?_
              refine loop_low (fn := Try.f10) E10_2 N10 L10x2 (fun y : Nat × Value => [(1, .int .u16 (m : Int)), (3, pt H.next), (7, .slice (some ⟨sb, 0, none⟩) g.bn g.bn), (9, .slice la1 g.bn lc1), (10, pt H4.next), (12, iv ((g.sl o).d2)), (13, pt H6.next), (14, pt H7.next), (15, pt H8.next), (16, pt H9.next), (17, pt H10.next), (112, .slice g.ra g.rn g.rcap), (113, iv (g.rn : Int)), (114, iv (i : Int)), (21, y.2), (118, .slice ((g.R i).ra) ((g.R i).n) ((g.R i).cap)), (119, iv ((g.R i).n : Int)), (120, iv (y.1 : Int))])
                (fun k y H' => y.1 + k = (g.R i).n ∧ Keep L1 H' [] ∧ Acc lo L1.next 3 H' y.2 y.1 (ints (((g.R i).l.take y.1).map (mnp (m : Int))))) (g.R i).n (0, .slice none 0 0) ⟨by simp, Keep.refl _ _, .inl ⟨rfl, rfl, rfl⟩⟩ ⟨rfl, rfl, rfl, rfl, rfl, rfl, rfl, rfl, rfl, rfl, rfl, rfl, rfl, rfl, rfl, rfl, rfl, rfl, trivial⟩ ?_
              rintro k2 ⟨j, ov⟩ L2 ⟨hjk, hk2, hacco⟩
              simp only at hjk hacco ⊢
              have mk2 := hk2.1
              have hrs2 := hk2.sl0 hrs
              have kacc := Keep.refl L2 []
              have hlr := hrs.old
              refine wN_seq ?_
              refine wN_c_lss (a := (j : Int)) (b := ((g.R i).n : Int)) rfl rfl ?_
              refine wN_end ?_
              refine And.intro (fun q19 => ?_) (fun q19 => ?_)
              · have q19 : (j : Int) < ((g.R i).n : Int) := of_decide_eq_true q19
                have hj : j < (g.R i).n := by omega
                have hz := getI (l := (g.R i).l) (i := j) (by omega)
                have hzb := hvr.2 _ (List.mem_of_getElem? hz)
                rcases id hrs2 with ⟨_, h0, _⟩ | ⟨xs, exs, rxs, _⟩
                · omega
                have lxs := hlr xs exs
                first | refine wN_skip ?_ | skip
                refine wN_seq ?_
                refine wN_idx (b := xs) (o := 0) (k := j) (j := (j : Int)) (by rw [← exs]; rfl) rfl rfl hj ?_
                refine wN_ld (b := xs) (o := 0 + j * 1) (v := iv ((g.R i).l.getD j 0)) rfl rxs (ints_at hz) ?_
                refine wN_mov (v := iv ((g.R i).l.getD j 0)) rfl ?_
                refine wN_end ?_
                first | refine wN_reg ?_ | refine wN_blk ?_ | refine wN_bseq ?_ | (refine wOps_nil ?_; refine wN_reg ?_)
                refine wN_mov (v := ov) rfl ?_
                refine wN_mov (v := iv ((g.R i).l.getD j 0)) rfl ?_
                refine wN_mov (v := .int .u16 (m : Int)) rfl ?_
                refine wN_pur (v := iv (m : Int)) rfl (conv_66 (m : Int) (by omega) (by omega) rfl) ?_
                refine wN_add (a := ((g.R i).l.getD j 0)) (b := (m : Int)) rfl rfl ⟨by omega, by omega⟩ ?_
                refine wN_mm (a := 1073741824) (b := ((g.R i).l.getD j 0) + (m : Int)) rfl rfl ?_
                obtain ⟨H46, hH46⟩ : ∃ H46, L2.new (.cells [iv (min 1073741824 (((g.R i).l.getD j 0) + (m : Int)))] 3 false) = H46 := ⟨_, rfl⟩
                refine wN_memh (H' := H46) (k := .heavy) rfl (by kernel_rfl) ((heap_build1 (v := iv (min 1073741824 (((g.R i).l.getD j 0) + (m : Int)))) se26m z3m rfl rfl rfl (by decide)).trans (by rw [← hH46]; rfl)) (fun b e => by cases e) ?_
                obtain ⟨kH46, nH46, c46⟩ := new_facts hH46; clear hH46
                have c46 : Cl H46 L2.next [iv (min 1073741824 (((g.R i).l.getD j 0) + (m : Int)))] := c46
                have mH46 := kH46.1
                have hk2 := hk2.trans kH46
                have kacc := kacc.trans kH46
                have hrs2 := kH46.sl0 hrs2
                have rxs := kH46.rd rxs (by simp)
                obtain ⟨H47, kdH47, eH47, dH47, hacco2, kbH47⟩ := heap_append_below (P := Try.prog) (lo := lo) (k := j) (t1 := 26) se26m u26m (c46.sl (Nat.le_refl 1)) rfl (by decide) rfl (by rw [ints_len, List.length_map, List.length_take]; omega) (by omega) (hacco.keep kacc) (by omega) (by omega)
                refine wN_memh (k := kdH47) rfl (by cases ov <;> kernel_rfl) (eH47 _ _ _ _ _ _ _ rfl rfl) (reg_ok dH47 _) ?_
                have hk2 := kbH47.keep hk2 (by omega)
                have mH47 := kbH47.1
                refine wN_mov (v := .slice (some ⟨H46.next, 0, none⟩) (j + 1) (j + 1)) rfl ?_
                refine wN_end ?_
                first | refine wN_reg ?_ | refine wN_blk ?_ | refine wN_bseq ?_ | (refine wOps_nil ?_; refine wN_reg ?_)
                refine wN_add (a := (j : Int)) (b := 1) rfl rfl ⟨by omega, by omega⟩ ?_
                refine wN_mov (v := iv ((j : Int) + 1)) rfl ?_
                refine wN_end ?_
                exact ⟨k2 - 1, (j + 1, .slice (some ⟨H46.next, 0, none⟩) (j + 1) (j + 1)), by omega, ⟨by simp only; omega, hk2, by simp only; rw [take_map hz, ints_app1]; exact hacco2⟩, rfl, rfl, rfl, rfl, rfl, rfl, rfl, rfl, rfl, rfl, rfl, rfl, rfl, rfl, rfl, rfl, rfl, rfl, trivial⟩
              · have q19 : ¬ ((j : Int) < ((g.R i).n : Int)) := of_decide_eq_false q19
                have ej : j = (g.R i).n := by omega
                rw [ej, List.take_of_length_le (by omega)] at hacco
                obtain ⟨oa, oc, eov, hosl, hof⟩ := hacco.sl
                subst eov
                have flo := hosl.old
                have hjr := hjr.keep hk2 (by simp)
                have hacc := hacc.keep hk2
                have hbk := bkv_in hacc
                have hbk1 : ∀ x ∈ (bkv rv).toList, x < L1.next := (fun x hx => (bkv_in hacc1 x hx).2)
                have hkx := hkx.trans (hk2.mono (by simp))
                have hat := hat.keep hk2 (by simp)
                have hso := hk2.sc hso (by simp)
                have z3 := hk2.cl z3 (by simp)
                have z10 := hk2.cl z10 (by simp)
                have z13 := hk2.cl z13 (by simp)
                have z14 := hk2.cl z14 (by simp)
                have z16 := hk2.cl z16 (by simp)
                have z17 := hk2.cl z17 (by simp)
                have c15 := hk2.cl c15 (by simp)
                first | (refine wN_exit ?_; show wC _ _ _ _ _ _ _ _ _) | skip
                first | refine wN_reg ?_ | refine wN_blk ?_ | refine wN_bseq ?_ | (refine wOps_nil ?_; refine wN_reg ?_)
                refine wN_addo (b := H8.next) (o := 0) rfl ?_
                refine wN_ld (b := H8.next) (o := 1) (v := rv) rfl c15.rd rfl ?_
                refine wN_mov (v := .slice oa ((g.R i).n) oc) rfl ?_
                obtain ⟨H48, hH48⟩ : ∃ H48, L2.new (.cells [.slice oa ((g.R i).n) oc] 26 false) = H48 := ⟨_, rfl⟩
                refine wN_memh (H' := H48) (k := .heavy) rfl (by kernel_rfl) ((heap_build1 (v := .slice oa ((g.R i).n) oc) se23m z26m rfl rfl rfl (by decide)).trans (by rw [← hH48]; rfl)) (fun b e => by cases e) ?_
                obtain ⟨kH48, nH48, c48⟩ := new_facts hH48; clear hH48
                have c48 : Cl H48 L2.next [.slice oa ((g.R i).n) oc] := c48
                have mH48 := kH48.1
                have hkx := hkx.trans (kH48.mono (by simp))
                have hat := hat.keep kH48 (by simp)
                have hso := kH48.sc hso (by simp)
                have hosl := kH48.sl0 hosl
                have z3 := kH48.cl z3 (by simp)
                have z10 := kH48.cl z10 (by simp)
                have z13 := kH48.cl z13 (by simp)
                have z14 := kH48.cl z14 (by simp)
                have z16 := kH48.cl z16 (by simp)
                have z17 := kH48.cl z17 (by simp)
                have c15 := kH48.cl c15 (by simp)
                have hjr := hjr.keep kH48 (by simp)
                have hacc := hacc.keep kH48
                obtain ⟨H49, kdH49, eH49, dH49, hacc2, kxH49⟩ := heap_append_out (P := Try.prog) (lo := lo) (k := i) (t1 := 23) se23m u23m (c48.sl (Nat.le_refl 1)) rfl (by decide) rfl (by rw [rwc_len, hpre.len, Nat.mul_one]) (by omega) hacc (by omega) (by omega)
                refine wN_memh (k := kdH49) rfl (by cases rv <;> kernel_rfl) (eH49 _ _ _ _ _ _ _ rfl rfl) (reg_ok dH49 _) ?_
                have hjr2 := JR.app (n := i + 1) (c := i + 1) (r := ⟨oa, (g.R i).n, oc, (g.R i).l.map (mnp (m : Int))⟩) hjr kxH49 ⟨hosl, by show (List.map _ _).length = _; rw [List.length_map, hrl], fun x e => ⟨by have := hof x e; omega, by have := flo x e; omega, fun q => by have := hof x e; have := hbk1 x q; omega⟩⟩
                have mH49 := kxH49.1
                have hkx := hkx.new kxH49 (fun b hb => .inr (bkv_in hacc b hb).1)
                have hnb : ∀ y, y < H45.next → y ∉ (bkv rv).toList := fun y hy q => by have := (bkv_in hacc y q).1; omega
                have hat := hat.keep kxH49 (fun x q => by have := (bkv_in hacc x q).1; omega)
                have hso := kxH49.sc hso (hnb _ (by omega))
                have z3 := kxH49.cl z3 (hnb _ (by omega))
                have z10 := kxH49.cl z10 (hnb _ (by omega))
                have z13 := kxH49.cl z13 (hnb _ (by omega))
                have z14 := kxH49.cl z14 (hnb _ (by omega))
                have z16 := kxH49.cl z16 (hnb _ (by omega))
                have z17 := kxH49.cl z17 (hnb _ (by omega))
                have c15 := kxH49.cl c15 (hnb _ (by omega))
                refine wN_addo (b := H8.next) (o := 0) rfl ?_
                refine wN_st (b := H8.next) (o := 1) rfl rfl c15 (by omega) rfl rfl (by simp) ?_
                intro H50 kH50 nH50 sH50
                have mH50 := kH50.1
                have hkx := hkx.new kH50 (fun b hb => by simp at hb ⊢; omega)
                have hat := hat.keep kH50 (fun x hx => by first | (simp at hx; done) | (simp at hx; omega))
                have hso := kH50.sc hso (by first | (simp; done) | (simp; omega))
                have z3 := kH50.cl z3 (by first | (simp; done) | (simp; omega))
                have z10 := kH50.cl z10 (by first | (simp; done) | (simp; omega))
                have z13 := kH50.cl z13 (by first | (simp; done) | (simp; omega))
                have z14 := kH50.cl z14 (by first | (simp; done) | (simp; omega))
                have z16 := kH50.cl z16 (by first | (simp; done) | (simp; omega))
                have z17 := kH50.cl z17 (by first | (simp; done) | (simp; omega))
                have hacc2 := hacc2.keepW kH50 (by omega)
                have hjr2 := hjr2.keep kH50 (fun x q => by simp at q; omega)
                have c15 : Cl H50 H8.next [.slice g.ba g.bn g.bcap, .slice (some ⟨H48.next, 0, none⟩) (i + 1) (i + 1), iv g.inlet, iv g.reserve, iv g.winds] := sH50
                refine wN_end ?_
                first | refine wN_reg ?_ | refine wN_blk ?_ | refine wN_bseq ?_ | (refine wOps_nil ?_; refine wN_reg ?_)
                refine wN_add (a := (i : Int)) (b := 1) rfl rfl ⟨by omega, by omega⟩ ?_
                refine wN_mov (v := iv ((i : Int) + 1)) rfl ?_
                refine wN_end ?_
                exact ⟨k - 1, i + 1, by omega, ⟨by omega, hkx, _, _, c15, by rw [rwc_app]; exact hacc2, hpre.app rfl (by show _ = (List.map _ _).length; rw [List.length_map, hrl]), hjr2⟩, rfl, rfl, rfl, rfl, rfl, rfl, rfl, rfl, rfl, rfl, rfl, rfl, rfl, rfl, trivial⟩
            · have q18 : ¬ ((i : Int) < (g.rn : Int)) := of_decide_eq_false q18
              have ei : i = g.rn := by omega
              rw [ei] at hacc hpre
              obtain ⟨ra2, rc2, erv, hrsl, hrf2⟩ := hacc.sl
              subst erv
              have hnew : NewR g (m : Int) rs := ⟨by rw [hpre.len]; omega, hpre.l⟩
              obtain ⟨leF, okF⟩ := Fh.le_wrt (ra := ra2) (rcap := rc2) hok hat (by omega) hnew
              have lnx := hkx.1
              first | (refine wN_exit ?_; show wC _ _ _ _ _ _ _ _ _) | skip
              refine wN_seq ?_
              refine wN_addo (b := H.next) (o := 0) rfl ?_
              refine wN_ld (b := H.next) (o := 0) (v := .slice g.ba g.bn g.bcap) rfl z3.rd rfl ?_
              refine wN_len (m := g.bn) rfl ?_
              refine wN_mov (v := iv 0) rfl ?_
              refine wN_end ?_
              have x3 := z3
              have x10 := z10
              have x13 := z13
              have x14 := z14
              have x15 := c15
              have x16 := z16
              have hat1 := hat
              have hso1 := hso
              have l17 := z17.rd.lt
              have lx3 := x3.rd.lt
              have lx10 := x10.rd.lt
              have lx13 := x13.rd.lt
              have lx14 := x14.rd.lt
              have lx15 := x15.rd.lt
              have lx16 := x16.rd.lt
              refine loop_low (fn := Try.f10) E10_3 N10 L10x3 (fun i : Nat => [(1, .int .u16 (m : Int)), (3, pt H.next), (7, .slice (some ⟨sb, 0, none⟩) g.bn g.bn), (9, .slice la1 g.bn lc1), (10, pt H4.next), (12, iv ((g.sl o).d2)), (13, pt H6.next), (14, pt H7.next), (15, pt H8.next), (16, pt H9.next), (17, pt H10.next), (141, .slice g.ba g.bn g.bcap), (142, iv (g.bn : Int)), (143, iv (i : Int))])
                (fun k i H' => i + k = g.bn ∧ Keep L1 H' [H10.next] ∧ ∃ bv, Cl H' H10.next [bv, .slice g.ra g.rn g.rcap, iv g.inlet, iv g.reserve, iv g.winds] ∧ Acc lo L1.next 57 H' bv i (bgc ((g.bs.take i).map (tg (m : Int))))) g.bn 0 ⟨by omega, Keep.refl _ _, _, z17, .inl ⟨rfl, rfl, rfl⟩⟩ ⟨rfl, rfl, rfl, rfl, rfl, rfl, rfl, rfl, rfl, rfl, rfl, rfl, rfl, rfl, trivial⟩ ?_
              rintro k3 i3 L3 ⟨hik3, hk3, bv, c17, hacc3⟩
              have mk3 := hk3.1
              have hat := hat1.keep hk3 (fun x q => by simp at q; omega)
              have hso := hk3.sc hso1 (by first | (simp; done) | (simp; omega))
              have z3 := hk3.cl x3 (by first | (simp; done) | (simp; omega))
              have z10 := hk3.cl x10 (by first | (simp; done) | (simp; omega))
              have z13 := hk3.cl x13 (by first | (simp; done) | (simp; omega))
              have z14 := hk3.cl x14 (by first | (simp; done) | (simp; omega))
              have z15 := hk3.cl x15 (by first | (simp; done) | (simp; omega))
              have z16 := hk3.cl x16 (by first | (simp; done) | (simp; omega))
              have kacc := Keep.refl L3 []
              refine wN_seq ?_
              refine wN_c_lss (a := (i3 : Int)) (b := (g.bn : Int)) rfl rfl ?_
              refine wN_end ?_
              refine And.intro (fun q20 => ?_) (fun q20 => ?_)
              · have q20 : (i3 : Int) < (g.bn : Int) := of_decide_eq_true q20
                have hi3 : i3 < g.bn := by omega
                obtain ⟨xb, exb, rxb, lxb⟩ := hat.bog (by omega)
                have hzb := getB (g := g) (i := i3) (by rw [hat.bl]; exact hi3)
                have hbd := v.b i3 hi3
                first | refine wN_skip ?_ | skip
                refine wN_seq ?_
                refine wN_idx (b := xb) (o := 0) (k := i3) (j := (i3 : Int)) (by rw [← exb]; rfl) rfl rfl hi3 ?_
                refine wN_lda (b := xb) (o := 0 + i3 * 4) rfl rxb (bgc_row hzb) ?_
                refine wN_alc ?_
                intro H51 kH51 nH51 c51
                have c51 : Cl H51 L3.next [iv 0, iv 0, iv 0, .slice none 0 0] := c51
                have mH51 := kH51.1
                have hk3 := hk3.trans (kH51.mono (by simp))
                have hat := hat.keep kH51 (by simp)
                have hso := kH51.sc hso (by simp)
                have z3 := kH51.cl z3 (by simp)
                have z10 := kH51.cl z10 (by simp)
                have z13 := kH51.cl z13 (by simp)
                have z14 := kH51.cl z14 (by simp)
                have z15 := kH51.cl z15 (by simp)
                have z16 := kH51.cl z16 (by simp)
                have c17 := kH51.cl c17 (by simp)
                have kacc := kacc.trans kH51
                have rxb := kH51.rd rxb (by simp)
                refine wN_sta (b := L3.next) (o := 0) rfl rfl c51 (by omega) rfl rfl (by simp) ?_
                intro H52 kH52 nH52 sH52
                have mH52 := kH52.1
                have hk3 := hk3.new kH52 (fun b hb => by simp at hb ⊢; omega)
                have hat := hat.keep kH52 (fun x hx => by first | (simp at hx; done) | (simp at hx; omega))
                have hso := kH52.sc hso (by first | (simp; done) | (simp; omega))
                have z3 := kH52.cl z3 (by first | (simp; done) | (simp; omega))
                have z10 := kH52.cl z10 (by first | (simp; done) | (simp; omega))
                have z13 := kH52.cl z13 (by first | (simp; done) | (simp; omega))
                have z14 := kH52.cl z14 (by first | (simp; done) | (simp; omega))
                have z15 := kH52.cl z15 (by first | (simp; done) | (simp; omega))
                have z16 := kH52.cl z16 (by first | (simp; done) | (simp; omega))
                have c17 := kH52.cl c17 (by first | (simp; done) | (simp; omega))
                have kacc := kacc.new kH52 (fun b hb => by simp at hb ⊢; omega)
                have rxb := kH52.rd rxb (by first | (simp; done) | (simp; omega))
                have c51 : Cl H52 L3.next [iv ((g.B i3).need), iv ((g.B i3).l1), iv ((g.B i3).l2), .slice ((g.B i3).wa) ((g.B i3).wn) ((g.B i3).wcap)] := sH52
                refine wN_end ?_
                refine wN_seq ?_
                refine wN_addo (b := L3.next) (o := 0) rfl ?_
                refine wN_addo (b := L3.next) (o := 1) rfl ?_
                refine wN_ld (b := L3.next) (o := 1) (v := iv ((g.B i3).l1)) rfl c51.rd rfl ?_
                refine wN_mov (v := .int .u16 (m : Int)) rfl ?_
                refine wN_pur (v := iv (m : Int)) rfl (conv_66 (m : Int) (by omega) (by omega) rfl) ?_
                refine wN_sub (a := (g.B i3).l1) (b := (m : Int)) rfl rfl ⟨by omega, by omega⟩ ?_
                refine wN_mm (a := 0) (b := ((g.B i3).l1) - (m : Int)) rfl rfl ?_
                refine wN_addo (b := L3.next) (o := 0) rfl ?_
                refine wN_addo (b := L3.next) (o := 1) rfl ?_
                refine wN_ld (b := L3.next) (o := 2) (v := iv ((g.B i3).l2)) rfl c51.rd rfl ?_
                refine wN_mov (v := .int .u16 (m : Int)) rfl ?_
                refine wN_pur (v := iv (m : Int)) rfl (conv_66 (m : Int) (by omega) (by omega) rfl) ?_
                refine wN_sub (a := (g.B i3).l2) (b := (m : Int)) rfl rfl ⟨by omega, by omega⟩ ?_
                refine wN_mm (a := 0) (b := ((g.B i3).l2) - (m : Int)) rfl rfl ?_
                refine wN_pur (v := .agg #[iv (max 0 (((g.B i3).l1) - (m : Int))), iv (max 0 (((g.B i3).l2) - (m : Int)))]) rfl (by kernel_rfl) ?_
                refine wN_addo (b := L3.next) (o := 0) rfl ?_
                refine wN_sta (b := L3.next) (o := 1) rfl rfl c51 (by omega) rfl rfl (by simp) ?_
                intro H53 kH53 nH53 sH53
                have mH53 := kH53.1
                have hk3 := hk3.new kH53 (fun b hb => by simp at hb ⊢; omega)
                have hat := hat.keep kH53 (fun x hx => by first | (simp at hx; done) | (simp at hx; omega))
                have hso := kH53.sc hso (by first | (simp; done) | (simp; omega))
                have z3 := kH53.cl z3 (by first | (simp; done) | (simp; omega))
                have z10 := kH53.cl z10 (by first | (simp; done) | (simp; omega))
                have z13 := kH53.cl z13 (by first | (simp; done) | (simp; omega))
                have z14 := kH53.cl z14 (by first | (simp; done) | (simp; omega))
                have z15 := kH53.cl z15 (by first | (simp; done) | (simp; omega))
                have z16 := kH53.cl z16 (by first | (simp; done) | (simp; omega))
                have c17 := kH53.cl c17 (by first | (simp; done) | (simp; omega))
                have kacc := kacc.new kH53 (fun b hb => by simp at hb ⊢; omega)
                have rxb := kH53.rd rxb (by first | (simp; done) | (simp; omega))
                have c51 : Cl H53 L3.next [iv ((g.B i3).need), iv (max 0 (((g.B i3).l1) - (m : Int))), iv (max 0 (((g.B i3).l2) - (m : Int))), .slice ((g.B i3).wa) ((g.B i3).wn) ((g.B i3).wcap)] := sH53
                refine wN_end ?_
                first | refine wN_reg ?_ | refine wN_blk ?_ | refine wN_bseq ?_ | (refine wOps_nil ?_; refine wN_reg ?_)
                refine wN_addo (b := H10.next) (o := 0) rfl ?_
                refine wN_ld (b := H10.next) (o := 0) (v := bv) rfl c17.rd rfl ?_
                refine wN_lda (b := L3.next) (o := 0) rfl c51.rd (show row 4 _ _ = some [iv ((g.B i3).need), iv (max 0 (((g.B i3).l1) - (m : Int))), iv (max 0 (((g.B i3).l2) - (m : Int))), .slice ((g.B i3).wa) ((g.B i3).wn) ((g.B i3).wcap)] from rfl) ?_
                obtain ⟨H54, hH54⟩ : ∃ H54, H53.new (.cells [iv ((g.B i3).need), iv (max 0 (((g.B i3).l1) - (m : Int))), iv (max 0 (((g.B i3).l2) - (m : Int))), .slice ((g.B i3).wa) ((g.B i3).wn) ((g.B i3).wcap)] 57 false) = H54 := ⟨_, rfl⟩
                refine wN_memh (H' := H54) (k := .heavy) rfl (by kernel_rfl) ((heap_build1 (v := .agg #[iv ((g.B i3).need), iv (max 0 (((g.B i3).l1) - (m : Int))), iv (max 0 (((g.B i3).l2) - (m : Int))), .slice ((g.B i3).wa) ((g.B i3).wn) ((g.B i3).wcap)]) se22m z57m rfl rfl rfl (by decide)).trans (by rw [← hH54]; rfl)) (fun b e => by cases e) ?_
                obtain ⟨kH54, nH54, c54⟩ := new_facts hH54; clear hH54
                have c54 : Cl H54 H53.next [iv ((g.B i3).need), iv (max 0 (((g.B i3).l1) - (m : Int))), iv (max 0 (((g.B i3).l2) - (m : Int))), .slice ((g.B i3).wa) ((g.B i3).wn) ((g.B i3).wcap)] := c54
                have mH54 := kH54.1
                have hk3 := hk3.trans (kH54.mono (by simp))
                have hat := hat.keep kH54 (by simp)
                have hso := kH54.sc hso (by simp)
                have z3 := kH54.cl z3 (by simp)
                have z10 := kH54.cl z10 (by simp)
                have z13 := kH54.cl z13 (by simp)
                have z14 := kH54.cl z14 (by simp)
                have z15 := kH54.cl z15 (by simp)
                have z16 := kH54.cl z16 (by simp)
                have c17 := kH54.cl c17 (by simp)
                have kacc := kacc.trans kH54
                have rxb := kH54.rd rxb (by simp)
                have c51 := kH54.cl c51 (by simp)
                obtain ⟨H55, kdH55, eH55, dH55, hacc4, kbH55⟩ := heap_append_below (P := Try.prog) (lo := lo) (k := i3) (t1 := 22) se22m u22m (c54.sl (Nat.le_refl 1)) rfl (by decide) rfl (by rw [bgc_len, List.length_map, List.length_take, hat.bl]; rw [Nat.min_eq_left (by omega)]) (by omega) (hacc3.keep kacc) (by omega) (by omega)
                refine wN_memh (k := kdH55) rfl (by cases bv <;> kernel_rfl) (eH55 _ _ _ _ _ _ _ rfl rfl) (reg_ok dH55 _) ?_
                have mH55 := kbH55.1
                have hk3 := kbH55.keep hk3 (by omega)
                have c17 := kbH55.cl c17 (by omega)
                refine wN_addo (b := H10.next) (o := 0) rfl ?_
                refine wN_st (b := H10.next) (o := 0) rfl rfl c17 (by omega) rfl rfl (by simp) ?_
                intro H56 kH56 nH56 sH56
                have mH56 := kH56.1
                have hk3 := hk3.new kH56 (fun b hb => by simp at hb ⊢; omega)
                have hacc4 := hacc4.keepW kH56 (by omega)
                have c17 : Cl H56 H10.next [.slice (some ⟨H54.next, 0, none⟩) (i3 + 1) (i3 + 1), .slice g.ra g.rn g.rcap, iv g.inlet, iv g.reserve, iv g.winds] := sH56
                refine wN_end ?_
                first | refine wN_reg ?_ | refine wN_blk ?_ | refine wN_bseq ?_ | (refine wOps_nil ?_; refine wN_reg ?_)
                refine wN_add (a := (i3 : Int)) (b := 1) rfl rfl ⟨by omega, by omega⟩ ?_
                refine wN_mov (v := iv ((i3 : Int) + 1)) rfl ?_
                refine wN_end ?_
                exact ⟨k3 - 1, i3 + 1, by omega, ⟨by omega, hk3, _, c17, by rw [take_map hzb, bgc_app]; exact hacc4⟩, rfl, rfl, rfl, rfl, rfl, rfl, rfl, rfl, rfl, rfl, rfl, rfl, rfl, rfl, trivial⟩
              · have q20 : ¬ ((i3 : Int) < (g.bn : Int)) := of_decide_eq_false q20
                have ei3 : i3 = g.bn := by omega
                rw [ei3, List.take_of_length_le (by rw [hat.bl]; omega)] at hacc3
                obtain ⟨ba2, bc2, ebv, hbsl, hbf2⟩ := hacc3.sl
                subst ebv
                obtain ⟨leT, okT, wT⟩ := Fh.le_wbs (ba := ba2) (bcap := bc2) hok hat (m := (m : Int)) (by omega)
                have atT := hat.wbs hbsl
                have hrsl := hk3.sl hrsl (fun b e q => by have := hrf2 b e; simp at q; omega)
                have hjr := hjr.keep hk3 (fun x q => by simp at q; omega)
                have atF := hat.wrt hrsl (by rw [hpre.len]) hjr
                have atM := hat.mono hat.le (Nat.le_refl _)
                have f1 := Four.of hok hat hfst ho1 ho2 ho3 (atM.wr (min 1099511627776 (g.reserve + (m : Int)))) (Fh.ok_wr hok (by omega) (by omega)) (Fh.le_refl v (fun i j hi hj => (hri i j hi hj).1) _) (by show g.reserve ≤ min _ _; omega)
                have f2 := Four.of hok hat hfst ho1 ho2 ho3 (atM.wd cx) (Fh.ok_wd hok hcx1.1.1 hcx1.1.2) (Fh.le_wd v (fun i j hi hj => (hri i j hi hj).1) hcx1.2) (Int.le_refl _)
                have f3 := Four.of hok hat hfst ho1 ho2 ho3 atF okF leF (Int.le_refl _)
                have f4 := Four.of hok hat hfst ho1 ho2 ho3 (atM.wi (min 1073741824 (g.inlet + (m : Int)))) (Fh.ok_wi hok (by omega) (by omega)) (Fh.le_wi v (fun i j hi hj => (hri i j hi hj).1) (by omega)) (Int.le_refl _)
                have hbd : ∀ i, i < g.bn → g.Bd i := fun i hi => Fh.bd v hat hi
                have vT := Fh.vd okT atT
                have hbdT : ∀ i, i < g.bn → (g.wbs ba2 bc2 (g.bs.map (tg (m : Int)))).Bd i := fun i hi => Fh.bd vT atT hi
                have pf1 := f1.1
                have pf2 := f2.1
                have pf3 := f3.1
                have pf4 := f4.1
                first | (refine wN_exit ?_; show wC _ _ _ _ _ _ _ _ _) | skip
                refine wN_seq ?_
                refine wN_lda (b := H6.next) (o := 0) rfl z13.rd (show row 5 _ _ = some [.slice g.ba g.bn g.bcap, .slice g.ra g.rn g.rcap, iv g.inlet, iv (min 1099511627776 (g.reserve + (m : Int))), iv g.winds] from rfl) ?_
                refine wN_lda (b := H7.next) (o := 0) rfl z14.rd (show row 5 _ _ = some [.slice g.ba g.bn g.bcap, .slice g.ra g.rn g.rcap, iv g.inlet, iv g.reserve, iv g.winds] from rfl) ?_
                refine wN_lda (b := H8.next) (o := 0) rfl z15.rd (show row 5 _ _ = some [.slice g.ba g.bn g.bcap, .slice ra2 g.rn rc2, iv g.inlet, iv g.reserve, iv g.winds] from rfl) ?_
                refine wN_lda (b := H9.next) (o := 0) rfl z16.rd (show row 5 _ _ = some [.slice g.ba g.bn g.bcap, .slice g.ra g.rn g.rcap, iv (min 1073741824 (g.inlet + (m : Int))), iv g.reserve, iv g.winds] from rfl) ?_
                obtain ⟨H57, hH57⟩ : ∃ H57, L3.new (.cells ((g.wr (min 1099511627776 (g.reserve + (m : Int)))).v ++ (g.wd cx).v ++ (g.wrt ra2 rc2 rs).v ++ (g.wi (min 1073741824 (g.inlet + (m : Int)))).v) 25 false) = H57 := ⟨_, rfl⟩
                refine wN_memh (H' := H57) (k := .heavy) rfl (by kernel_rfl) ((heap_build4h (a := (g.wr (min 1099511627776 (g.reserve + (m : Int))))) (b := (g.wd cx)) (c := (g.wrt ra2 rc2 rs)) (e := (g.wi (min 1073741824 (g.inlet + (m : Int))))) rfl (by rw [hcx]; rfl) rfl rfl).trans (by rw [← hH57])) (fun b e => by cases e) ?_
                obtain ⟨kH57, nH57, c57⟩ := new_facts hH57; clear hH57
                have mH57 := kH57.1
                have hk3 := hk3.trans (kH57.mono (by simp))
                have hat := hat.keep kH57 (by simp)
                have hso := kH57.sc hso (by simp)
                have z3 := kH57.cl z3 (by simp)
                have z10 := kH57.cl z10 (by simp)
                have z13 := kH57.cl z13 (by simp)
                have z14 := kH57.cl z14 (by simp)
                have z15 := kH57.cl z15 (by simp)
                have z16 := kH57.cl z16 (by simp)
                have c17 := kH57.cl c17 (by simp)
                have atT := atT.keep kH57 (by simp)
                have pf1 := pf1.keep kH57 (by simp)
                have pf2 := pf2.keep kH57 (by simp)
                have pf3 := pf3.keep kH57 (by simp)
                have pf4 := pf4.keep kH57 (by simp)
                obtain ⟨hb4, ehb4⟩ : ∃ b, b = L3.next := ⟨_, rfl⟩
                rw [← ehb4] at c57 ⊢
                have c57 := c57.rd
                refine wN_len (m := 4) rfl ?_
                refine wN_mov (v := iv 0) rfl ?_
                refine wN_end ?_
                have w10 := z10
                have w17 := c17
                have hso4 := hso
                have atT4 := atT
                have c40 := c57
                have lw10 := w10.rd.lt
                have lw17 := w17.rd.lt
                refine loop_low (fn := Try.f10) E10_4 N10 L10x4 (fun i : Nat => [(3, pt H.next), (7, .slice (some ⟨sb, 0, none⟩) g.bn g.bn), (9, .slice la1 g.bn lc1), (10, pt H4.next), (12, iv ((g.sl o).d2)), (17, pt H10.next), (174, .slice (some ⟨hb4, 0, none⟩) 4 4), (175, iv 4), (176, iv (i : Int))])
                  (fun k i H' => i + k = 4 ∧ Keep H57 H' []) 4 0 ⟨by omega, Keep.refl _ _⟩ ⟨rfl, rfl, rfl, rfl, rfl, rfl, rfl, rfl, rfl, trivial⟩ ?_
                rintro k4 i4 L4 ⟨hik4, hk4⟩
                have mk4 := hk4.1
                have hso := hk4.sc hso4 (by simp)
                have atT := atT4.keep hk4 (by simp)
                have c4 := hk4.rd c40 (by simp)
                have pf1 := pf1.keep hk4 (by simp)
                have pf2 := pf2.keep hk4 (by simp)
                have pf3 := pf3.keep hk4 (by simp)
                have pf4 := pf4.keep hk4 (by simp)
                have z10 := hk4.cl w10 (by simp)
                have z17 := hk4.cl w17 (by simp)
                refine wN_seq ?_
                refine wN_c_lss (a := (i4 : Int)) (b := 4) rfl rfl ?_
                refine wN_end ?_
                refine And.intro (fun q21 => ?_) (fun q21 => ?_)
                · have q21 : (i4 : Int) < 4 := of_decide_eq_true q21
                  have hi4 : i4 < 4 := by omega
                  obtain ⟨g', hrow, ha', hok', hbn', hbe0, hdd⟩ : ∃ g' : Fh, row 5 ((g.wr (min 1099511627776 (g.reserve + (m : Int)))).v ++ (g.wd cx).v ++ (g.wrt ra2 rc2 rs).v ++ (g.wi (min 1073741824 (g.inlet + (m : Int)))).v) (0 + i4 * 5) = some g'.v ∧ g'.At L3.next L4 ∧ g'.ok = true ∧ g'.bn = g.bn ∧ g'.be = 0 ∧ ∀ o', g'.fst = some o' → (g'.sl o').d2 ≤ (g.sl o).d2 := by
                    refine ⟨_, row4 hi4, ?_⟩
                    match i4, hi4 with
                    | 0, _ => exact ⟨pf1, f1.2⟩
                    | 1, _ => exact ⟨pf2, f2.2⟩
                    | 2, _ => exact ⟨pf3, f3.2⟩
                    | 3, _ => exact ⟨pf4, f4.2⟩
                  first | refine wN_skip ?_ | skip
                  refine wN_seq ?_
                  refine wN_idx (b := hb4) (o := 0) (k := i4) (j := (i4 : Int)) rfl rfl rfl hi4 ?_
                  refine wN_lda (b := hb4) (o := 0 + i4 * 5) rfl c4 hrow ?_
                  refine wN_alc ?_
                  intro H58 kH58 nH58 c58
                  have c58 : Cl H58 L4.next [.slice none 0 0, .slice none 0 0, iv 0, iv 0, iv 0] := c58
                  have mH58 := kH58.1
                  have hk4 := hk4.trans kH58
                  have hso := kH58.sc hso (by simp)
                  have atT := atT.keep kH58 (by simp)
                  have pf1 := pf1.keep kH58 (by simp)
                  have pf2 := pf2.keep kH58 (by simp)
                  have pf3 := pf3.keep kH58 (by simp)
                  have pf4 := pf4.keep kH58 (by simp)
                  have z10 := kH58.cl z10 (by simp)
                  have z17 := kH58.cl z17 (by simp)
                  have c4 := kH58.rd c4 (by simp)
                  have ha' := ha'.keep kH58 (by simp)
                  refine wN_sta (b := L4.next) (o := 0) rfl rfl c58 (by omega) rfl rfl (by simp) ?_
                  intro H59 kH59 nH59 sH59
                  have mH59 := kH59.1
                  have hk4 := hk4.new kH59 (fun b hb => by simp at hb ⊢; omega)
                  have hso := kH59.sc hso (by first | (simp; done) | (simp; omega))
                  have atT := atT.keep kH59 (fun x hx => by first | (simp at hx; done) | (simp at hx; omega))
                  have pf1 := pf1.keep kH59 (fun x hx => by first | (simp at hx; done) | (simp at hx; omega))
                  have pf2 := pf2.keep kH59 (fun x hx => by first | (simp at hx; done) | (simp at hx; omega))
                  have pf3 := pf3.keep kH59 (fun x hx => by first | (simp at hx; done) | (simp at hx; omega))
                  have pf4 := pf4.keep kH59 (fun x hx => by first | (simp at hx; done) | (simp at hx; omega))
                  have z10 := kH59.cl z10 (by first | (simp; done) | (simp; omega))
                  have z17 := kH59.cl z17 (by first | (simp; done) | (simp; omega))
                  have c4 := kH59.rd c4 (by first | (simp; done) | (simp; omega))
                  have ha' := ha'.keep kH59 (fun x hx => by first | (simp at hx; done) | (simp at hx; omega))
                  have c58 : Cl H59 L4.next [.slice g'.ba g'.bn g'.bcap, .slice g'.ra g'.rn g'.rcap, iv g'.inlet, iv g'.reserve, iv g'.winds] := sH59
                  refine wN_end ?_
                  refine wN_seq ?_
                  refine wN_lda (b := L4.next) (o := 0) rfl c58.rd (show row 5 _ _ = some [.slice g'.ba g'.bn g'.bcap, .slice g'.ra g'.rn g'.rcap, iv g'.inlet, iv g'.reserve, iv g'.winds] from rfl) ?_
                  obtain ⟨wH60, H60, fH60, kH60, hb⟩ := Best_ok (kn := kn) (lo := lo) (H := H59) (g := g') ha' (by omega)
                  obtain ⟨hbe', hok2, sb', o', rfl, hfst', hord'⟩ := hb.resolve_left (fun q => q.1 hbe0)
                  obtain ⟨hsbf', hso', ho1', ho2', ho3', hcan'⟩ := hord'
                  have lso' := hso'.lt
                  have hd2 := hdd o' hfst'
                  obtain ⟨_, _, hens'⟩ := Fh.bst_in (c := o') hfst'
                  have hens' : (g'.st o' (g'.bn - 1)).t2 ≤ g'.reserve := by unfold Fh.ens at hens'; simpa using hens'
                  have iso' := zi_ord ho1' ho2' ho3'
                  have good' : g'.Good (zi o') := ⟨hok', iso', by rw [no_zi]; exact hcan', by show (g'.st (no (zi o')) (g'.bn - 1)).t2 ≤ _; rw [no_zi]; exact hens'⟩
                  have mH60 := kH60.1
                  have hk4 := hk4.trans kH60
                  have hso := kH60.sc hso (by simp)
                  have atT := atT.keep kH60 (by simp)
                  have pf1 := pf1.keep kH60 (by simp)
                  have pf2 := pf2.keep kH60 (by simp)
                  have pf3 := pf3.keep kH60 (by simp)
                  have pf4 := pf4.keep kH60 (by simp)
                  have z10 := kH60.cl z10 (by simp)
                  have z17 := kH60.cl z17 (by simp)
                  have c4 := kH60.rd c4 (by simp)
                  have ha' := ha'.keep kH60 (by simp)
                  have c58 := kH60.cl c58 (by simp)
                  refine wN_callf (vs := [.agg g'.v.toArray]) rfl (callX_args fH60) ?_
                  refine wN_mov (v := .tuple #[.slice (some ⟨sb', 0, none⟩) g'.bn g'.bn, iv 0]) rfl ?_
                  refine wN_pur (v := .slice (some ⟨sb', 0, none⟩) g'.bn g'.bn) rfl (by kernel_rfl) ?_
                  refine wN_pur (v := iv 0) rfl (by kernel_rfl) ?_
                  refine wN_mov (v := .slice (some ⟨sb', 0, none⟩) g'.bn g'.bn) rfl ?_
                  refine wN_mov (v := iv 0) rfl ?_
                  refine wN_end ?_
                  refine wN_seq ?_
                  refine wN_lda (b := L4.next) (o := 0) rfl c58.rd (show row 5 _ _ = some [.slice g'.ba g'.bn g'.bcap, .slice g'.ra g'.rn g'.rcap, iv g'.inlet, iv g'.reserve, iv g'.winds] from rfl) ?_
                  refine wN_mov (v := .slice (some ⟨sb', 0, none⟩) g'.bn g'.bn) rfl ?_
                  have hlo2 : Lf H60 (some ⟨sb', 0, none⟩) g'.bn g'.bn (zi o') := ⟨hso'.cl.sl (Nat.le_refl _), by rw [zi_len]; exact ho1', fun b e => by cases e; exact hso'.fx⟩
                  obtain ⟨wH61, H61, fH61, kH61, la2, lc2, rfl, hl2⟩ := Times_v (kn := kn) (lo := lo) (H := H60) (g := g') ha' hlo2 (by omega)
                  have ero2 := Fh.er0 good'
                  obtain ⟨tw1, tw2⟩ := Fh.tv ero2
                  rw [tw1, tw2, ero2, Fh.fs_len, show g'.la (zi o') = g'.sl o' from by unfold Fh.la; rw [no_zi]] at fH61
                  rw [tw1, Fh.fs_len, no_zi] at hl2
                  have mH61 := kH61.1
                  have hk4 := hk4.trans kH61
                  have hso := kH61.sc hso (by simp)
                  have atT := atT.keep kH61 (by simp)
                  have pf1 := pf1.keep kH61 (by simp)
                  have pf2 := pf2.keep kH61 (by simp)
                  have pf3 := pf3.keep kH61 (by simp)
                  have pf4 := pf4.keep kH61 (by simp)
                  have z10 := kH61.cl z10 (by simp)
                  have z17 := kH61.cl z17 (by simp)
                  have c4 := kH61.rd c4 (by simp)
                  have ha' := ha'.keep kH61 (by simp)
                  have c58 := kH61.cl c58 (by simp)
                  have hso' := kH61.sc hso' (by simp)
                  have fl2 := hl2.old
                  refine wN_callf (vs := [.agg g'.v.toArray, slv sb' g'.bn g'.bn]) (v := .tuple #[.slice la2 g'.bn lc2, .agg (g'.sl o').u.toArray, iv 0]) rfl (callX_args fH61) ?_
                  refine wN_mov (v := .tuple #[.slice la2 g'.bn lc2, .agg (g'.sl o').u.toArray, iv 0]) rfl ?_
                  refine wN_pur (v := .slice la2 g'.bn lc2) rfl (by kernel_rfl) ?_
                  refine wN_pur (v := .agg (g'.sl o').u.toArray) rfl (by kernel_rfl) ?_
                  refine wN_pur (v := iv 0) rfl (by kernel_rfl) ?_
                  refine wN_alc ?_
                  intro H62 kH62 nH62 c62
                  have c62 : Cl H62 H61.next [iv 0, iv 0, iv 0, iv 0, iv 0, iv 0, iv 0, iv 0] := c62
                  have mH62 := kH62.1
                  have hk4 := hk4.trans kH62
                  have hso := kH62.sc hso (by simp)
                  have atT := atT.keep kH62 (by simp)
                  have pf1 := pf1.keep kH62 (by simp)
                  have pf2 := pf2.keep kH62 (by simp)
                  have pf3 := pf3.keep kH62 (by simp)
                  have pf4 := pf4.keep kH62 (by simp)
                  have z10 := kH62.cl z10 (by simp)
                  have z17 := kH62.cl z17 (by simp)
                  have c4 := kH62.rd c4 (by simp)
                  have ha' := ha'.keep kH62 (by simp)
                  have c58 := kH62.cl c58 (by simp)
                  have hso' := kH62.sc hso' (by simp)
                  have hl2 := kH62.sl0 hl2
                  refine wN_mov (v := .slice la2 g'.bn lc2) rfl ?_
                  refine wN_sta (b := H61.next) (o := 0) rfl rfl c62 (by omega) rfl rfl (by simp) ?_
                  intro H63 kH63 nH63 sH63
                  have mH63 := kH63.1
                  have hk4 := hk4.new kH63 (fun b hb => by simp at hb ⊢; omega)
                  have hso := kH63.sc hso (by first | (simp; done) | (simp; omega))
                  have atT := atT.keep kH63 (fun x hx => by first | (simp at hx; done) | (simp at hx; omega))
                  have pf1 := pf1.keep kH63 (fun x hx => by first | (simp at hx; done) | (simp at hx; omega))
                  have pf2 := pf2.keep kH63 (fun x hx => by first | (simp at hx; done) | (simp at hx; omega))
                  have pf3 := pf3.keep kH63 (fun x hx => by first | (simp at hx; done) | (simp at hx; omega))
                  have pf4 := pf4.keep kH63 (fun x hx => by first | (simp at hx; done) | (simp at hx; omega))
                  have z10 := kH63.cl z10 (by first | (simp; done) | (simp; omega))
                  have z17 := kH63.cl z17 (by first | (simp; done) | (simp; omega))
                  have c4 := kH63.rd c4 (by first | (simp; done) | (simp; omega))
                  have ha' := ha'.keep kH63 (fun x hx => by first | (simp at hx; done) | (simp at hx; omega))
                  have c58 := kH63.cl c58 (by first | (simp; done) | (simp; omega))
                  have hso' := kH63.sc hso' (by first | (simp; done) | (simp; omega))
                  have hl2 := kH63.sl hl2 (fun b e => by have := fl2 b e; first | (simp; done) | (simp; omega))
                  have c62 : Cl H63 H61.next [iv ((g'.sl o').t1), iv ((g'.sl o').t2), iv ((g'.sl o').l1), iv ((g'.sl o').l2), iv ((g'.sl o').s1), iv ((g'.sl o').s2), iv ((g'.sl o').r1), iv ((g'.sl o').r2)] := sH63
                  refine wN_mov (v := iv 0) rfl ?_
                  refine wN_end ?_
                  refine wN_seq ?_
                  refine wN_mov (v := iv 0) rfl ?_
                  refine wN_b_neq (a := 0) (b := 0) rfl rfl ?_
                  intro t22 g22; obtain rfl : t22 = false := by rw [← g22]; rfl
                  refine wN_mov (v := .bool false) rfl ?_
                  refine wN_g rfl (wN_mov (v := iv 0) rfl ?_)
                  refine wN_g rfl (wN_b_neq (a := 0) (b := 0) rfl rfl ?_)
                  intro t23 g23; obtain rfl : t23 = false := by rw [← g23]; rfl
                  refine wN_pur (v := .bool false) rfl rfl ?_
                  refine wN_mov (v := .bool false) rfl ?_
                  refine wN_g rfl (wN_mov (v := .slice la2 g'.bn lc2) rfl ?_)
                  refine wN_g rfl (wN_len (m := g'.bn) rfl ?_)
                  refine wN_g rfl (wN_mov (v := .slice la1 g.bn lc1) rfl ?_)
                  refine wN_g rfl (wN_len (m := g.bn) rfl ?_)
                  refine wN_g rfl (wN_b_neq (a := (g'.bn : Int)) (b := (g.bn : Int)) rfl rfl ?_)
                  intro t24 g24; cases t24
                  · have g24 : ¬ ((g'.bn : Int) ≠ (g.bn : Int)) := by simpa using g24
                    refine wN_pur (v := .bool false) rfl rfl ?_
                    refine wN_mov (v := .bool false) rfl ?_
                    refine wN_g rfl (wN_mov (v := .slice la2 g'.bn lc2) rfl ?_)
                    refine wN_g rfl (wN_mov (v := .slice la2 g'.bn lc2) rfl ?_)
                    refine wN_g rfl (wN_len (m := g'.bn) rfl ?_)
                    refine wN_g rfl (wN_sub (a := (g'.bn : Int)) (b := 1) rfl rfl ⟨by omega, by omega⟩ ?_)
                    rcases id hl2 with ⟨_, h0, _⟩ | ⟨xl2, el2, rl2, _⟩
                    · omega
                    have ll2 := rl2.lt
                    refine wN_g rfl (wN_idx (b := xl2) (o := 0) (k := g'.bn - 1) (j := (g'.bn : Int) - 1) (by rw [← el2]; rfl) rfl (by omega) (by omega) ?_)
                    refine wN_g rfl (wN_addo (b := xl2) (o := 0 + (g'.bn - 1) * 5) rfl ?_)
                    refine wN_g rfl (wN_addo (b := xl2) (o := 0 + (g'.bn - 1) * 5 + 3) rfl ?_)
                    refine wN_g rfl (wN_ld (b := xl2) (o := 0 + (g'.bn - 1) * 5 + 4) (v := iv ((g'.sl o').d2)) rfl rl2 (flc_at' (j := 4) (Fh.fs_at (by omega)) rfl) ?_)
                    refine wN_g rfl (wN_mov (v := iv ((g.sl o).d2)) rfl ?_)
                    refine wN_g rfl (wN_b_gtr (a := (g'.sl o').d2) (b := (g.sl o).d2) rfl rfl ?_)
                    intro t25 g25; cases t25
                    · have g25 : ¬ (((g'.sl o').d2) > ((g.sl o).d2)) := of_decide_eq_false g25
                      refine wN_pur (v := .bool false) rfl rfl ?_
                      refine wN_end ?_
                      refine condF ?_
                      first | refine wN_skip ?_ | skip
                      first | refine wN_reg ?_ | refine wN_blk ?_ | refine wN_bseq ?_ | (refine wOps_nil ?_; refine wN_reg ?_)
                      refine wN_add (a := (i4 : Int)) (b := 1) rfl rfl ⟨by omega, by omega⟩ ?_
                      refine wN_mov (v := iv ((i4 : Int) + 1)) rfl ?_
                      refine wN_end ?_
                      exact ⟨k4 - 1, i4 + 1, by omega, ⟨by omega, hk4⟩, rfl, rfl, rfl, rfl, rfl, rfl, rfl, rfl, rfl, trivial⟩
                    · have g25 : ((g'.sl o').d2) > ((g.sl o).d2) := of_decide_eq_true g25
                      exfalso; omega
                  · have g24 : (g'.bn : Int) ≠ (g.bn : Int) := by simpa using g24
                    exfalso; omega
                · have q21 : ¬ ((i4 : Int) < 4) := of_decide_eq_false q21
                  obtain ⟨gt, hgt⟩ : ∃ gt, gt = (g.wbs ba2 bc2 (g.bs.map (tg (m : Int)))) := ⟨_, rfl⟩
                  rw [← hgt] at atT leT okT wT hbdT
                  have hatt := atT
                  obtain ⟨td, tt, _⟩ := leT.st hbdT hbd hgo (g.bn - 1) (by omega) hcan
                  have t1 := (Fh.st1_le leT wT hbdT hbd hgo (g.bn - 1) (by omega)).1
                  have ntn := leT.n
                  have hct := leT.can hgo (show g.bn - 1 < g.bn by omega) hcan
                  have rst : gt.reserve = g.reserve := by rw [hgt]; rfl
                  have goodt : gt.Good (zi o) := ⟨okT, by rw [ntn]; exact iso, by rw [no_zi, ntn]; exact hct, by show (gt.st (no (zi o)) (gt.bn - 1)).t2 ≤ gt.reserve; rw [no_zi, ntn, rst]; omega⟩
                  have et1 : (gt.sl o).t1 = (gt.st o (g.bn - 1)).t1 := by show (gt.st o (gt.bn - 1)).t1 = _; rw [ntn]
                  have et2 : (gt.sl o).t2 = (gt.st o (g.bn - 1)).t2 := by show (gt.st o (gt.bn - 1)).t2 = _; rw [ntn]
                  have es1 : (g.sl o).t1 = (g.st o (g.bn - 1)).t1 := rfl
                  have es2 : (g.sl o).t2 = (g.st o (g.bn - 1)).t2 := rfl
                  first | (refine wN_exit ?_; show wC _ _ _ _ _ _ _ _ _) | skip
                  refine wN_seq ?_
                  refine wN_lda (b := H10.next) (o := 0) rfl z17.rd (show row 5 _ _ = some [.slice ba2 g.bn bc2, .slice g.ra g.rn g.rcap, iv g.inlet, iv g.reserve, iv g.winds] from rfl) ?_
                  refine wN_mov (v := .slice (some ⟨sb, 0, none⟩) g.bn g.bn) rfl ?_
                  have hlo3 : Lf L4 (some ⟨sb, 0, none⟩) g.bn g.bn (zi o) := ⟨hso.cl.sl (Nat.le_refl _), by rw [zi_len]; exact ho1, fun b e => by cases e; exact hso.fx⟩
                  obtain ⟨wH64, H64, fH64, kH64, la3, lc3, rfl, hl3⟩ := Times_v (kn := kn) (lo := lo) (H := L4) (g := gt) hatt hlo3 (by omega)
                  have ero3 := Fh.er0 goodt
                  obtain ⟨tw1, tw2⟩ := Fh.tv ero3
                  rw [tw1, tw2, ero3, Fh.fs_len, show gt.la (zi o) = gt.sl o from by unfold Fh.la; rw [no_zi]] at fH64
                  rw [tw1, Fh.fs_len, no_zi] at hl3
                  have mH64 := kH64.1
                  have hk4 := hk4.trans kH64
                  have hso := kH64.sc hso (by simp)
                  have atT := atT.keep kH64 (by simp)
                  have pf1 := pf1.keep kH64 (by simp)
                  have pf2 := pf2.keep kH64 (by simp)
                  have pf3 := pf3.keep kH64 (by simp)
                  have pf4 := pf4.keep kH64 (by simp)
                  have z10 := kH64.cl z10 (by simp)
                  have z17 := kH64.cl z17 (by simp)
                  have c4 := kH64.rd c4 (by simp)
                  have hatt := hatt.keep kH64 (by simp)
                  have fl3 := hl3.old
                  refine wN_callf (vs := [.agg gt.v.toArray, slv sb g.bn g.bn]) (v := .tuple #[.slice la3 gt.bn lc3, .agg (gt.sl o).u.toArray, iv 0]) (by rw [hgt]; rfl) (callX_args fH64) ?_
                  refine wN_mov (v := .tuple #[.slice la3 gt.bn lc3, .agg (gt.sl o).u.toArray, iv 0]) rfl ?_
                  refine wN_pur (v := .slice la3 gt.bn lc3) rfl (by kernel_rfl) ?_
                  refine wN_pur (v := .agg (gt.sl o).u.toArray) rfl (by kernel_rfl) ?_
                  refine wN_pur (v := iv 0) rfl (by kernel_rfl) ?_
                  refine wN_alc ?_
                  intro H65 kH65 nH65 c65
                  have c65 : Cl H65 H64.next [iv 0, iv 0, iv 0, iv 0, iv 0, iv 0, iv 0, iv 0] := c65
                  have mH65 := kH65.1
                  have hk4 := hk4.trans kH65
                  have hso := kH65.sc hso (by simp)
                  have atT := atT.keep kH65 (by simp)
                  have pf1 := pf1.keep kH65 (by simp)
                  have pf2 := pf2.keep kH65 (by simp)
                  have pf3 := pf3.keep kH65 (by simp)
                  have pf4 := pf4.keep kH65 (by simp)
                  have z10 := kH65.cl z10 (by simp)
                  have z17 := kH65.cl z17 (by simp)
                  have c4 := kH65.rd c4 (by simp)
                  have hatt := hatt.keep kH65 (by simp)
                  have hl3 := kH65.sl0 hl3
                  refine wN_mov (v := .slice la3 gt.bn lc3) rfl ?_
                  refine wN_sta (b := H64.next) (o := 0) rfl rfl c65 (by omega) rfl rfl (by simp) ?_
                  intro H66 kH66 nH66 sH66
                  have mH66 := kH66.1
                  have hk4 := hk4.new kH66 (fun b hb => by simp at hb ⊢; omega)
                  have hso := kH66.sc hso (by first | (simp; done) | (simp; omega))
                  have atT := atT.keep kH66 (fun x hx => by first | (simp at hx; done) | (simp at hx; omega))
                  have pf1 := pf1.keep kH66 (fun x hx => by first | (simp at hx; done) | (simp at hx; omega))
                  have pf2 := pf2.keep kH66 (fun x hx => by first | (simp at hx; done) | (simp at hx; omega))
                  have pf3 := pf3.keep kH66 (fun x hx => by first | (simp at hx; done) | (simp at hx; omega))
                  have pf4 := pf4.keep kH66 (fun x hx => by first | (simp at hx; done) | (simp at hx; omega))
                  have z10 := kH66.cl z10 (by first | (simp; done) | (simp; omega))
                  have z17 := kH66.cl z17 (by first | (simp; done) | (simp; omega))
                  have c4 := kH66.rd c4 (by first | (simp; done) | (simp; omega))
                  have hatt := hatt.keep kH66 (fun x hx => by first | (simp at hx; done) | (simp at hx; omega))
                  have hl3 := kH66.sl hl3 (fun b e => by have := fl3 b e; first | (simp; done) | (simp; omega))
                  have c65 : Cl H66 H64.next [iv ((gt.sl o).t1), iv ((gt.sl o).t2), iv ((gt.sl o).l1), iv ((gt.sl o).l2), iv ((gt.sl o).s1), iv ((gt.sl o).s2), iv ((gt.sl o).r1), iv ((gt.sl o).r2)] := sH66
                  refine wN_mov (v := iv 0) rfl ?_
                  refine wN_end ?_
                  refine wN_seq ?_
                  refine wN_mov (v := iv 0) rfl ?_
                  refine wN_b_eql (a := 0) (b := 0) rfl rfl ?_
                  intro t26 g26; obtain rfl : t26 = true := by rw [← g26]; rfl
                  refine wN_mov (v := .bool true) rfl ?_
                  refine wN_g rfl (wN_addo (b := H64.next) (o := 0) rfl ?_)
                  refine wN_g rfl (wN_addo (b := H64.next) (o := 0) rfl ?_)
                  refine wN_g rfl (wN_ld (b := H64.next) (o := 0) (v := iv ((gt.sl o).t1)) rfl c65.rd rfl ?_)
                  refine wN_g rfl (wN_addo (b := H4.next) (o := 0) rfl ?_)
                  refine wN_g rfl (wN_addo (b := H4.next) (o := 0) rfl ?_)
                  refine wN_g rfl (wN_ld (b := H4.next) (o := 0) (v := iv ((g.sl o).t1)) rfl z10.rd rfl ?_)
                  refine wN_g rfl (wN_b_leq (a := (gt.sl o).t1) (b := (g.sl o).t1) rfl rfl ?_)
                  intro t27 g27; cases t27
                  · have g27 : ¬ (((gt.sl o).t1) ≤ ((g.sl o).t1)) := of_decide_eq_false g27
                    exfalso; omega
                  · have g27 : ((gt.sl o).t1) ≤ ((g.sl o).t1) := of_decide_eq_true g27
                    refine wN_pur (v := .bool true) rfl rfl ?_
                    refine wN_mov (v := .bool true) rfl ?_
                    refine wN_g rfl (wN_addo (b := H64.next) (o := 0) rfl ?_)
                    refine wN_g rfl (wN_addo (b := H64.next) (o := 0) rfl ?_)
                    refine wN_g rfl (wN_ld (b := H64.next) (o := 1) (v := iv ((gt.sl o).t2)) rfl c65.rd rfl ?_)
                    refine wN_g rfl (wN_addo (b := H4.next) (o := 0) rfl ?_)
                    refine wN_g rfl (wN_addo (b := H4.next) (o := 0) rfl ?_)
                    refine wN_g rfl (wN_ld (b := H4.next) (o := 1) (v := iv ((g.sl o).t2)) rfl z10.rd rfl ?_)
                    refine wN_g rfl (wN_b_leq (a := (gt.sl o).t2) (b := (g.sl o).t2) rfl rfl ?_)
                    intro t28 g28; cases t28
                    · have g28 : ¬ (((gt.sl o).t2) ≤ ((g.sl o).t2)) := of_decide_eq_false g28
                      exfalso; omega
                    · have g28 : ((gt.sl o).t2) ≤ ((g.sl o).t2) := of_decide_eq_true g28
                      refine wN_pur (v := .bool true) rfl rfl ?_
                      refine wN_mov (v := .bool true) rfl ?_
                      refine wN_g rfl (wN_callf (vs := []) rfl (callX_known hkn) ?_)
                      refine wN_pur (v := .bool true) rfl rfl ?_
                      refine wN_mov (v := .bool true) rfl ?_
                      refine wN_end ?_
                      exact And.intro trivial (Exists.intro _ (And.intro rfl rfl))
        · have g5 : (g.bn : Int) = 0 := by simpa using g5
          exfalso; omega
      · have g4 : (g.bn : Int) ≠ (g.bn : Int) := by simpa using g4
        exfalso; omega
  · refine wN_end ?_
    refine condT ?_
    refine wN_seq ?_
    refine wN_callf (vs := []) rfl (callX_known hkn) ?_
    refine wN_mov (v := .bool true) rfl ?_
    refine wN_end ?_
    exact And.intro trivial (Exists.intro _ (And.intro rfl rfl))
theorem law_moreI (hkn : kn 13 = some true) {g : Fh} {f : Nat} {y z : Int} (hat : g.At f H) (hy : 0 ≤ y ∧ y ≤ 65535) (hz : 0 ≤ z ∧ z ≤ 255) (hlo : lo ≤ H.next) : ∃ H', FnX Try.prog kn lo 10 [.agg g.v.toArray, .int .u16 y, .int .u8 z] H (.bool true) H' := by
  obtain ⟨m, rfl⟩ : ∃ m : Nat, y = (m : Int) := ⟨y.toNat, by omega⟩
  obtain ⟨wq, rfl⟩ : ∃ m : Nat, z = (m : Int) := ⟨z.toNat, by omega⟩
  exact law_more hkn hat (by omega) (by omega) hlo
end
end Go.Ax

namespace Go.Ax
open Go Go.RowKit Go.Proofs Go.ChangeShapes Go.WideShapes Go.Deep

/-- A type whose cells are whole numbers. -/
def IntT (P : Program) (t : TypeId) : Prop := ∀ (H : Type) (enc : TypeId × Value → H) (w : World) (base : Nat) (spare : Nat → Bool) (held : Bool) (fuel : Nat) (cs : List Value) (x : DataW H × List MemPlace),
  DataW.trod enc P w base spare held fuel t cs = some x → cs.length = P.cellsOf t ∧ ∀ j, j < cs.length → ∃ n, cs[j]? = some (.int .i64 n)
theorem IntT.int {P : Program} {t : TypeId} (ht : P.underlying t = some (.int .i64)) (hc : P.cellsOf t = 1) : IntT P t := by
  intro H enc w base spare held fuel cs x h
  obtain ⟨n, rfl, _⟩ := DataW.trod_int ht h
  refine ⟨by rw [hc]; rfl, fun j hj => ⟨n, ?_⟩⟩
  have : j = 0 := by simp at hj; omega
  subst this; rfl
theorem IntT.struct {P : Program} {t : TypeId} {fs : Array Field} (ht : P.underlying t = some (.struct fs)) (hf : ∀ f ∈ fs.toList, IntT P f.type)
    (hcov : ((List.range (P.cellsOf t)).all fun j => fs.toList.any fun f => decide (f.offset ≤ j) && decide (j < f.offset + P.cellsOf f.type)) = true) : IntT P t := by
  intro H enc w base spare held fuel cs x h
  obtain ⟨xs, n, _, _, hlen, hxl, hg⟩ := DataW.trod_struct ht h
  refine ⟨hlen, fun j hj => ?_⟩
  have h1 := List.all_eq_true.1 hcov j (List.mem_range.2 (by omega))
  obtain ⟨f, hfm, h2⟩ := List.any_eq_true.1 h1
  simp only [Bool.and_eq_true, decide_eq_true_eq] at h2
  obtain ⟨i, hi, hfi⟩ := List.getElem_of_mem hfm
  have hfs : fs[i]? = some f := by
    rw [← Array.getElem?_toList, List.getElem?_eq_getElem hi, hfi]
  have hi2 : i < xs.length := by simpa [hxl] using hi
  have h3 := hg i f hfs
  rw [List.getElem?_eq_getElem hi2] at h3
  obtain ⟨h4, h5⟩ := hf f hfm _ _ _ _ _ _ _ _ _ h3
  obtain ⟨m, hm⟩ := h5 (j - f.offset) (by omega)
  refine ⟨m, ?_⟩
  rw [List.getElem?_take] at hm
  split at hm
  · rw [List.getElem?_drop, show f.offset + (j - f.offset) = j by omega] at hm; exact hm
  · cases hm

/-- A slice of rows of whole numbers, as it is given. -/
structure Given {α : Type} (w : World) (v : Value) (f : α → List Value) (l : List α) (x : Imp) : Prop where
  ok : ∀ (i : Nat) u, x.cs[i]? = some u → w.cell? ⟨x.blk, x.off + i, none⟩ = some u ∧ flat1 u = true
  cs : x.cs = l.flatMap f
  v : (v = .slice none 0 0 ∧ l = []) ∨ ∃ cap, v = .slice (some ⟨x.blk, x.off, none⟩) l.length cap ∧ l.length ≤ cap
theorem flat_get {α : Type} {f : α → List Value} {k : Nat} (hk : 0 < k) : ∀ {l : List α} (_ : ∀ x ∈ l, (f x).length = k) (i : Nat) (u : Value), (l.flatMap f)[i]? = some u → ∃ x, l[i / k]? = some x ∧ (f x)[i % k]? = some u
  | [], _, i, u, h => by simp at h
  | y :: r, hl, i, u, h => by
    have hy := hl y (List.mem_cons_self ..)
    rw [List.flatMap_cons, List.getElem?_append] at h
    split at h
    · rename_i q
      rw [hy] at q
      refine ⟨y, ?_, ?_⟩
      · rw [Nat.div_eq_of_lt q]; rfl
      · rw [Nat.mod_eq_of_lt q]; exact h
    · rename_i q
      rw [hy] at q h
      obtain ⟨x, h1, h2⟩ := flat_get hk (fun x hx => hl x (List.mem_cons_of_mem _ hx)) _ u h
      refine ⟨x, ?_, ?_⟩
      · rw [Nat.div_eq_sub_div hk (by omega)]; exact h1
      · rw [Nat.mod_eq_sub_mod (by omega)]; exact h2
theorem Given.rel {α : Type} {w : World} {v : Value} {f : α → List Value} {l : List α} {x : Imp} (g : Given w v f l x) {r : Ren} {H : Hp} {b : Nat} (hr : r b = some ⟨x.blk, x.off, none⟩) (hb : b < H.next) (hc : cellsOf H b = some x.cs) (hro : H.t.get b = some (.ro x.cs)) :
    ∃ a cap, VR r (.slice a l.length cap) v ∧ Sl H a l.length cap (l.flatMap f) ∧ ∀ b, a = some ⟨b, 0, none⟩ → H.t.get b = some (.ro (l.flatMap f)) := by
  rcases g.v with ⟨rfl, rfl⟩ | ⟨cap, rfl, hl⟩
  · exact ⟨none, 0, .nilSlice, .inl ⟨.inl rfl, rfl, rfl, rfl⟩, fun b e => by cases e⟩
  · refine ⟨some ⟨b, 0, none⟩, cap, ?_, .inr ⟨b, rfl, ⟨hb, by rw [hc, g.cs]⟩, hl⟩, fun b' e => by cases e; rw [hro, g.cs]⟩
    have := VR.slice (o := 0) (n := l.length) (c := cap) hr rfl hl
    simpa using this
theorem flat_ints (us : List Int) : us.flatMap (fun x => [iv x]) = ints us := by
  induction us with
  | nil => rfl
  | cons u us ih => rw [List.flatMap_cons, ih]; rfl
end Go.Ax

/-! Slices of rows of plain cells, as arguments. -/
namespace Go.Ax
open Go Go.RowKit Go.Proofs Go.ChangeShapes Go.WideShapes Go.Deep

theorem IntT.row {α : Type} {P : Program} {t : TypeId} {k : Nat} {f : α → List Value} {mk : (Nat → Int) → α} (h : IntT P t) (hc : P.cellsOf t = k) (hmk : ∀ N : Nat → Int, f (mk N) = (List.range k).map fun j => Value.int .i64 (N j))
    {H : Type} {enc : TypeId × Value → H} {w : World} {base : Nat} {spare : Nat → Bool} {held : Bool} (fuel : Nat) (cs : List Value) (x : DataW H × List MemPlace) (hx : DataW.trod enc P w base spare held fuel t cs = some x) : ∃ y : α, cs = f y ∧ True := by
  obtain ⟨h1, h2⟩ := h _ _ _ _ _ _ _ _ _ hx
  have : ∃ N : Nat → Int, ∀ j, j < cs.length → cs[j]? = some (.int .i64 (N j)) := by
    refine ⟨fun j => match cs[j]? with | some (.int _ n) => n | _ => 0, fun j hj => ?_⟩
    obtain ⟨n, hn⟩ := h2 j hj
    simp [hn]
  obtain ⟨N, hN⟩ := this
  refine ⟨mk N, ?_, trivial⟩
  rw [hmk]
  apply List.ext_getElem?
  intro j
  by_cases hj : j < k
  · rw [hN j (by omega), List.getElem?_map, List.getElem?_range hj]; rfl
  · rw [List.getElem?_eq_none (by omega), List.getElem?_eq_none (by simp; omega)]
theorem spot_of {w : World} {a : Addr} {v : Value} (h : w.cell? a = some v) : a.spot = none := by
  unfold World.cell? at h
  split at h
  · cases hs : a.spot with
    | none => rfl
    | some x => rw [hs] at h; simp at h
  · cases h
theorem add_zero' (a : Addr) : a.add 0 = a := by unfold Addr.add; simp
theorem add_plain (b o n : Nat) : (⟨b, o, none⟩ : Addr).add n = ⟨b, o + n, none⟩ := by
  unfold Addr.add
  by_cases q : n = 0
  · simp [q]
  · simp [q]
/-- A slice of rows, as it is read; Q: what else is known of a row. -/
theorem rows_read {H : Type} {enc : TypeId × Value → H} {P : Program} {w : World} {base : Nat} {held : Bool} {α : Type} {f : α → List Value} {Q : α → Prop} {k : Nat} {t e : TypeId} {fuel : Nat} {v : Value} {x : DataW H × List MemPlace}
    (ht : P.underlying t = some (.slice e)) (hR : ∀ (fuel : Nat) (cs : List Value) (x : DataW H × List MemPlace), DataW.trod enc P w base (fun _ => true) held fuel e cs = some x → ∃ y : α, cs = f y ∧ Q y) (hc : P.cellsOf e = k) (hk : 0 < k) (hfk : ∀ y, (f y).length = k)
    (h : DataW.trod enc P w base (fun _ => true) held fuel t [v] = some x) : ∃ (l : List α), l.length ≤ maxLen ∧ (∀ y ∈ l, Q y) ∧
      (((v = .slice none 0 0 ∨ ∃ a', v = .slice (some a') 0 0) ∧ l = []) ∨ ∃ blk off cap, v = .slice (some ⟨blk, off, none⟩) l.length cap ∧ l.length ≤ cap ∧ ∀ (i : Nat) u, (l.flatMap f)[i]? = some u → w.cell? ⟨blk, off + i, none⟩ = some u) := by
  rcases open_slice ht h with ⟨h0, _⟩ | ⟨a, len, cap, m, n, D, Pl, hcs, hb, hl, hm, hmm, hx, hi⟩
  · cases h0
    exact ⟨[], by simp, fun y hy => by simp at hy, .inl ⟨.inl rfl, rfl⟩⟩
  cases hcs
  simp only [if_true] at hmm
  subst hmm
  rcases Nat.eq_zero_or_pos m with h0 | h0
  · subst h0
    have : len = 0 := by omega
    subst this
    exact ⟨[], by simp, fun y hy => by simp at hy, .inl ⟨.inr ⟨_, rfl⟩, rfl⟩⟩
  obtain ⟨blk, off, spot⟩ := a
  have hs : spot = none := by
    obtain ⟨cs', h1, h2⟩ := hi 0 h0
    obtain ⟨y, hy, _⟩ := hR _ _ _ h2
    obtain ⟨_, h5, h6⟩ := World.cells?_some h1
    have h7 := h6 0 (by omega)
    rw [Nat.zero_mul, add_zero', add_zero'] at h7
    have h8 : cs'[0]? = some (cs'[0]'(by omega)) := List.getElem?_eq_getElem _
    rw [h8] at h7
    exact spot_of h7
  subst hs
  have hrow : ∀ i, i < len → ∃ y : α, Q y ∧ ∀ j, j < k → ∃ u, (f y)[j]? = some u ∧ w.cell? ⟨blk, off + (i * k + j), none⟩ = some u := by
    intro i hil
    obtain ⟨cs', h1, h2⟩ := hi i (by omega)
    obtain ⟨y, rfl, hq⟩ := hR _ _ _ h2
    obtain ⟨_, h5, h6⟩ := World.cells?_some h1
    refine ⟨y, hq, fun j hj => ?_⟩
    have h7 := h6 j (by omega)
    have h8 : (f y)[j]? = some ((f y)[j]'(by rw [hfk]; exact hj)) := List.getElem?_eq_getElem _
    rw [h8, hc, add_plain, add_plain, Nat.add_assoc] at h7
    exact ⟨_, h8, h7⟩
  have key : ∀ n, n ≤ len → ∃ l : List α, l.length = n ∧ (∀ y ∈ l, Q y) ∧ ∀ (i : Nat) y, l[i]? = some y → ∀ j, j < k → ∃ u, (f y)[j]? = some u ∧ w.cell? ⟨blk, off + (i * k + j), none⟩ = some u := by
    intro n
    induction n with
    | zero => intro _; exact ⟨[], rfl, fun y hy => by simp at hy, fun i y e => by simp at e⟩
    | succ n ih =>
      intro hn
      obtain ⟨l, h1, hq, h2⟩ := ih (by omega)
      obtain ⟨y, hyq, hy⟩ := hrow n (by omega)
      refine ⟨l ++ [y], by simp [h1], fun z hz => ?_, fun i z e => ?_⟩
      · simp only [List.mem_append, List.mem_singleton] at hz
        rcases hz with hz | rfl
        · exact hq z hz
        · exact hyq
      rw [List.getElem?_append] at e
      split at e
      · exact h2 i z e
      · rename_i q
        have : i = n := by have := get_lt e; simp at this; omega
        subst this
        rw [h1, Nat.sub_self] at e
        simp at e; subst e
        exact hy
  obtain ⟨l, hl1, hq, hl2⟩ := key len (Nat.le_refl _)
  refine ⟨l, by omega, hq, .inr ⟨blk, off, m, by rw [hl1], by omega, fun i u hu => ?_⟩⟩
  obtain ⟨y, h1, h2⟩ := flat_get hk (fun y _ => hfk y) i u hu
  have hj : i % k < k := Nat.mod_lt _ hk
  obtain ⟨u', e1, e2⟩ := hl2 _ y h1 _ hj
  rw [h2] at e1; cases e1
  rw [Nat.div_add_mod'] at e2
  exact e2
end Go.Ax


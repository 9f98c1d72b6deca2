import Derived.Test.YtkdgngdnmgelnaaMc
import Derived.Test.YtkdgngdnmgelnaaChecked
import Derived.Test.YtkdgngdnmgelnaaAxO
import Derived.Deep.Slices
import Derived.Deep.Fields
import Derived.ChangeSame
set_option linter.all false
/-
  Flood: Best (21), Least (23) (written by program).
-/
namespace Go.Ax
open Go Go.RowKit Go.Proofs

def Ord (g : Fh) (f : Nat) (sb : Nat) (o : List Nat) (H : Hp) : Prop := f ≤ sb ∧ Sc H sb (ints (zi o)) ∧ o.length = g.bn ∧ (∀ x ∈ o, x < g.bn) ∧ o.Nodup ∧ g.can o (g.bn - 1) = true
def RB (g : Fh) (f : Nat) (w : Value) (H : Hp) : Prop := (g.be ≠ 0 ∧ w = .tuple #[.slice none 0 0, iv g.be]) ∨ (g.be = 0 ∧ g.ok = true ∧ ∃ sb o, w = .tuple #[slv sb g.bn g.bn, iv 0] ∧ g.fst = some o ∧ Ord g f sb o H)
def RL (g : Fh) (f : Nat) (w : Value) (H : Hp) : Prop := (g.le ≠ 0 ∧ w = .tuple #[iv 0, .slice none 0 0, iv g.le]) ∨ (g.le = 0 ∧ g.ok = true ∧ ∃ sb o, w = .tuple #[iv (g.sl o).t2, slv sb g.bn g.bn, iv 0] ∧ g.lst = some o ∧ Ord g f sb o H)
theorem Fh.be1 {g : Fh} (h : g.ok = false) : g.be = 1 := by unfold Fh.be; rw [h]; rfl
theorem Fh.be4 {g : Fh} (h : g.ok = true) (e : g.lst = none) : g.be = 4 := by unfold Fh.be; rw [h, e]; rfl
theorem Fh.be10 {g : Fh} {o : List Nat} (h : g.ok = true) (e : g.lst = some o) (q : g.ens o = false) : g.be = 10 := by unfold Fh.be; rw [h, e]; simp only [q]; rfl
theorem Fh.be0 {g : Fh} {o : List Nat} (h : g.ok = true) (e : g.lst = some o) (q : g.ens o = true) : g.be = 0 := by unfold Fh.be; rw [h, e]; simp only [q]; rfl
theorem Fh.le1 {g : Fh} (h : g.ok = false) : g.le = 1 := by unfold Fh.le; rw [h]; rfl
theorem Fh.le4 {g : Fh} (h : g.ok = true) (e : g.lst = none) : g.le = 4 := by unfold Fh.le; rw [h, e]; rfl
theorem Fh.le0 {g : Fh} {o : List Nat} (h : g.ok = true) (e : g.lst = some o) : g.le = 0 := by unfold Fh.le; rw [h, e]; rfl
section
variable {kn : FuncId → Option Bool} {lo : Nat} {H : Hp}
set_option maxRecDepth 100000 in
theorem Best_ok {g : Fh} {f : Nat} (hat : g.At f H) (hlo : lo ≤ H.next) : ∃ w H', FnX Try.prog kn lo 21 [.agg g.v.toArray] H w H' ∧ Keep H H' [] ∧ RB g H.next w H' := by
  refine fnX_low (kn := kn) (lo := lo) (H := H) (args := [.agg g.v.toArray]) (Q := fun w H' => Keep H H' [] ∧ RB g H.next w H') Try.func21 B21 N21 Z21 L21 (by simp) ?_
  have hfl := hat.le
  refine wN_seq ?_
  refine wN_box (v := .agg g.v.toArray) rfl ?_
  intro H1 k1 n1 c1
  have c1 : Cl H1 H.next g.v := c1
  refine wN_mov (v := .slice none 0 0) rfl ?_
  refine wN_mov (v := iv 0) rfl ?_
  refine wN_end ?_
  refine wN_seq ?_
  refine wN_lda (b := H.next) (o := 0) rfl c1.rd (show row 5 _ 0 = some g.v from rfl) ?_
  obtain ⟨w2, H2, f2, k2, hc⟩ := new_ok (kn := kn) (lo := lo) (H := H1) (hat.keep k1 (by simp)) (by omega)
  refine wN_callf (vs := [.agg g.v.toArray]) rfl (callX_args f2) ?_
  have m2 := k2.1
  have k02 : Keep H H2 [] := k1.trans k2
  rcases hc with ⟨hok, rfl⟩ | ⟨hok, ka, kc, rfl, hks, hkf⟩
  · refine wN_mov (v := .tuple #[.agg #[.slice none 0 0, .slice none 0 0, iv 0, iv 0, iv 0, .slice none 0 0], iv 1]) rfl ?_
    refine wN_pur (v := .agg #[.slice none 0 0, .slice none 0 0, iv 0, iv 0, iv 0, .slice none 0 0]) rfl (by kernel_rfl) ?_
    refine wN_pur (v := iv 1) rfl (by kernel_rfl) ?_
    refine wN_alc ?_
    intro H3 k3 n3 c3
    refine wN_sta (b := H2.next) (o := 0) (v := .agg #[.slice none 0 0, .slice none 0 0, iv 0, iv 0, iv 0, .slice none 0 0]) rfl rfl c3 (by omega) rfl rfl (by simp) ?_
    intro H4 k4 n4 c4
    have c4 : Cl H4 H2.next ([.slice none 0 0, .slice none 0 0, iv 0, iv 0, iv 0, .slice none 0 0]) := c4
    refine wN_mov (v := iv 1) rfl ?_
    refine wN_end ?_
    have k24 : Keep H2 H4 [] := k3.new k4 (fun b q => by simp at q; omega)
    have k04 : Keep H H4 [] := k02.trans k24
    have m4 := k24.1
    refine wN_seq ?_
    refine wN_mov (v := iv 1) rfl ?_
    refine wN_c_neq (a := 1) (b := 0) rfl rfl ?_
    refine wN_end ?_
    refine And.intro (fun q1 => ?_) (fun q1 => ?_)
    · refine wN_seq ?_
      refine wN_mov (v := iv 1) rfl ?_
      refine wN_mov (v := .slice none 0 0) rfl ?_
      refine wN_mov (v := iv 1) rfl ?_
      refine wN_end ?_
      exact And.intro trivial (Exists.intro _ (And.intro rfl ⟨k04, Or.inl ⟨by rw [Fh.be1 hok]; decide, by rw [Fh.be1 hok]; rfl⟩⟩))
    · exact absurd q1 (by decide)
  · have v := Fh.vd hok hat
    refine wN_mov (v := .tuple #[.agg (g.vw ka kc).toArray, iv 0]) rfl ?_
    refine wN_pur (v := .agg (g.vw ka kc).toArray) rfl (by kernel_rfl) ?_
    refine wN_pur (v := iv 0) rfl (by kernel_rfl) ?_
    refine wN_alc ?_
    intro H3 k3 n3 c3
    refine wN_sta (b := H2.next) (o := 0) (v := .agg (g.vw ka kc).toArray) rfl rfl c3 (by omega) rfl rfl (by simp) ?_
    intro H4 k4 n4 c4
    have c4 : Cl H4 H2.next (g.vw ka kc) := c4
    refine wN_mov (v := iv 0) rfl ?_
    refine wN_end ?_
    have k24 : Keep H2 H4 [] := k3.new k4 (fun b q => by simp at q; omega)
    have k04 : Keep H H4 [] := k02.trans k24
    have m4 := k24.1
    refine wN_seq ?_
    refine wN_mov (v := iv 0) rfl ?_
    refine wN_c_neq (a := 0) (b := 0) rfl rfl ?_
    refine wN_end ?_
    refine And.intro (fun q1 => ?_) (fun q1 => ?_)
    · exact absurd q1 (by decide)
    · first | refine wN_skip ?_ | skip
      refine wN_seq ?_
      refine wN_lda (b := H2.next) (o := 0) rfl c4.rd (show row 6 _ 0 = some (g.vw ka kc) from rfl) ?_
      obtain ⟨w5, H5, f5, k5, hb⟩ := least_ok (kn := kn) (lo := lo) (H := H4) v (hat.keep k04 (by simp)) (k24.sl0 hks) (by omega)
      refine wN_callf (vs := [.agg (g.vw ka kc).toArray]) rfl (callX_args f5) ?_
      have m5 := k5.1
      have k05 : Keep H H5 [] := k04.trans k5
      have c4 := k5.cl c4 (by simp)
      cases e : g.lst with
      | none =>
        rw [e] at hb
        have hb : w5 = .tuple #[.agg zc78.toArray, .bool false] := hb
        subst hb
        refine wN_mov (v := .tuple #[.agg zc78.toArray, .bool false]) rfl ?_
        refine wN_pur (v := .agg zc78.toArray) rfl (by kernel_rfl) ?_
        refine wN_pur (v := .bool false) rfl (by kernel_rfl) ?_
        refine wN_alc ?_
        intro H6 k6 n6 c6
        refine wN_sta (b := H5.next) (o := 0) (v := .agg zc78.toArray) rfl rfl c6 (by omega) rfl rfl (by simp) ?_
        intro H7 k7 n7 c7
        have c7 : Cl H7 H5.next (zc78) := c7
        refine wN_mov (v := .bool false) rfl ?_
        refine wN_end ?_
        have k57 : Keep H5 H7 [] := k6.new k7 (fun b q => by simp at q; omega)
        have k07 : Keep H H7 [] := k05.trans k57
        have m7 := k57.1
        refine wN_seq ?_
        refine wN_mov (v := .bool false) rfl ?_
        refine wN_pur (v := .bool true) rfl rfl ?_
        refine wN_end ?_
        refine condT ?_
        refine wN_seq ?_
        refine wN_mov (v := .slice none 0 0) rfl ?_
        refine wN_mov (v := iv 4) rfl ?_
        refine wN_end ?_
        exact And.intro trivial (Exists.intro _ (And.intro rfl ⟨k07, Or.inl ⟨by rw [Fh.be4 hok e]; decide, by rw [Fh.be4 hok e]; rfl⟩⟩))
      | some o =>
        rw [e] at hb
        obtain ⟨sb, bb, rfl, q1, q2, cq, rest⟩ := hb
        refine wN_mov (v := .tuple #[cvv sb g.bn bb g.bn (g.sl o), .bool true]) rfl ?_
        refine wN_pur (v := cvv sb g.bn bb g.bn (g.sl o)) rfl (by kernel_rfl) ?_
        refine wN_pur (v := .bool true) rfl (by kernel_rfl) ?_
        refine wN_alc ?_
        intro H6 k6 n6 c6
        refine wN_sta (b := H5.next) (o := 0) (v := cvv sb g.bn bb g.bn (g.sl o)) rfl rfl c6 (by omega) rfl rfl (by simp) ?_
        intro H7 k7 n7 c7
        have c7 : Cl H7 H5.next (cvc sb g.bn bb g.bn (g.sl o)) := c7
        refine wN_mov (v := .bool true) rfl ?_
        refine wN_end ?_
        have k57 : Keep H5 H7 [] := k6.new k7 (fun b q => by simp at q; omega)
        have k07 : Keep H H7 [] := k05.trans k57
        have m7 := k57.1
        refine wN_seq ?_
        refine wN_mov (v := .bool true) rfl ?_
        refine wN_pur (v := .bool false) rfl rfl ?_
        refine wN_end ?_
        refine condF ?_
        first | refine wN_skip ?_ | skip
        have c4 := k57.cl c4 (by simp)
        refine wN_seq ?_
        refine wN_lda (b := H2.next) (o := 0) rfl c4.rd (show row 6 _ 0 = some (g.vw ka kc) from rfl) ?_
        refine wN_lda (b := H5.next) (o := 0) rfl c7.rd (show row 10 _ 0 = some (cvc sb g.bn bb g.bn (g.sl o)) from rfl) ?_
        obtain ⟨H8, f8, k8⟩ := enough_ok (kn := kn) (lo := lo) (H := H7) (g := g) (kv := .slice ka g.bn kc) (v1 := slv sb g.bn g.bn) (v2 := slv bb g.bn g.bn) (t1 := (g.sl o).t1) (t2 := (g.sl o).t2) (l1 := (g.sl o).l1) (l2 := (g.sl o).l2) (s1 := (g.sl o).s1) (s2 := (g.sl o).s2) (r1 := (g.sl o).r1) (r2 := (g.sl o).r2)
        refine wN_callf (vs := [.agg (g.vw ka kc).toArray, cvv sb g.bn bb g.bn (g.sl o)]) rfl (callX_args f8) ?_
        have m8 := k8.1
        have k08 : Keep H H8 [] := k07.trans k8
        have c4 := k8.cl c4 (by simp)
        cases hq : decide ((g.sl o).t2 ≤ g.reserve)
        · have he : g.ens o = false := hq
          refine wN_pur (v := .bool true) rfl rfl ?_
          refine wN_end ?_
          refine condT ?_
          refine wN_seq ?_
          refine wN_mov (v := .slice none 0 0) rfl ?_
          refine wN_mov (v := iv 10) rfl ?_
          refine wN_end ?_
          exact And.intro trivial (Exists.intro _ (And.intro rfl ⟨k08, Or.inl ⟨by rw [Fh.be10 hok e he]; decide, by rw [Fh.be10 hok e he]; rfl⟩⟩))
        · have he : g.ens o = true := hq
          obtain ⟨o2, e2⟩ := Fh.fst_some e he
          refine wN_pur (v := .bool false) rfl rfl ?_
          refine wN_end ?_
          refine condF ?_
          first | refine wN_skip ?_ | skip
          refine wD_seq ?_
          refine wD_lda (b := H2.next) (o := 0) (q := g.vw ka kc) rfl c4.rd rfl ?_
          obtain ⟨H9, f9, k9, n9, r9⟩ := courses_ok (kn := kn) (lo := H8.next) (H := H8) (g := g) (ka := ka) (kc := kc)
          refine wD_callh (vs := [.agg (g.vw ka kc).toArray]) rfl (by kernel_rfl) (callX_args f9) ?_
          have k09 : Keep H H9 [] := k08.trans k9
          have m9 := k9.1
          have c4 := k9.cl c4 (by simp)
          refine wD_lda (b := H2.next) (o := 0) (q := g.vw ka kc) rfl c4.rd rfl ?_
          refine wD_pur (v := .func (.func 44) #[.agg (g.vw ka kc).toArray] #[]) rfl (by kernel_rfl) ?_
          obtain ⟨w10, H10, f10, k10, hb⟩ := best_ok (kn := kn) (lo := H9.next) (H := H9) (p := g.ens) (cf := g.cp) v (hat.keep k09 (by simp)) ((k24.trans ((k5.trans k57).trans (k8.trans k9))).sl0 hks) r9 (Nat.le_refl _) fits44 (cmps47 v)
          refine wD_callh (vs := [.func (.func 60) #[] #[pt H8.next], .func (.func 44) #[.agg (g.vw ka kc).toArray] #[], .func (.func 47) #[] #[]]) rfl (by kernel_rfl) (callX_args f10) ?_
          have m10 := k10.1
          have k010 : Keep H H10 [] := k09.trans k10
          have hb : Bq g H9.next w10 H10 g.fst := hb
          rw [e2] at hb
          obtain ⟨sb2, bb2, rfl, q3, q4, cq2, rest2⟩ := hb
          refine wD_mov (v := .tuple #[cvv sb2 g.bn bb2 g.bn (g.sl o2), .bool true]) rfl ?_
          refine wD_pur (v := cvv sb2 g.bn bb2 g.bn (g.sl o2)) rfl (by kernel_rfl) ?_
          refine wD_pur (v := .bool true) rfl (by kernel_rfl) ?_
          refine wD_alc ?_
          intro H11 k11 n11 c11
          refine wD_sta (b := H10.next) (o := 0) (v := cvv sb2 g.bn bb2 g.bn (g.sl o2)) rfl rfl c11 (by omega) rfl rfl (by simp) ?_
          intro H12 k12 n12 c12
          have c12 : Cl H12 H10.next (cvc sb2 g.bn bb2 g.bn (g.sl o2)) := c12
          refine wD_mov (v := .bool true) rfl ?_
          refine wD_end (by repeat' first | exact True.intro | exact (fun h => h) | refine And.intro ?_ ?_ | (intro h; have h : (_ : Nat) = _ := h; omega)) ?_
          have k1012 : Keep H10 H12 [] := k11.new k12 (fun b q => by simp at q; omega)
          refine wN_seq ?_
          refine wN_addo (b := H10.next) (o := 0) rfl ?_
          refine wN_ld (b := H10.next) (o := 0 + 0) (v := slv sb2 g.bn g.bn) rfl c12.rd rfl ?_
          refine wN_mov (v := slv sb2 g.bn g.bn) rfl ?_
          refine wN_mov (v := iv 0) rfl ?_
          refine wN_end ?_
          exact And.intro trivial (Exists.intro _ (And.intro rfl ⟨k010.trans k1012, Or.inr ⟨Fh.be0 hok e he, hok, sb2, o2, rfl, e2, by omega, k1012.sc cq2.ro (by simp), rest2⟩⟩))
set_option maxRecDepth 100000 in
theorem Least_ok {g : Fh} {f : Nat} (hat : g.At f H) (hlo : lo ≤ H.next) : ∃ w H', FnX Try.prog kn lo 23 [.agg g.v.toArray] H w H' ∧ Keep H H' [] ∧ RL g H.next w H' := by
  refine fnX_low (kn := kn) (lo := lo) (H := H) (args := [.agg g.v.toArray]) (Q := fun w H' => Keep H H' [] ∧ RL g H.next w H') Try.func23 B23 N23 Z23 L23 (by simp) ?_
  have hfl := hat.le
  refine wN_seq ?_
  refine wN_box (v := .agg g.v.toArray) rfl ?_
  intro H1 k1 n1 c1
  have c1 : Cl H1 H.next g.v := c1
  refine wN_mov (v := iv 0) rfl ?_
  refine wN_mov (v := .slice none 0 0) rfl ?_
  refine wN_mov (v := iv 0) rfl ?_
  refine wN_end ?_
  refine wN_seq ?_
  refine wN_lda (b := H.next) (o := 0) rfl c1.rd (show row 5 _ 0 = some g.v from rfl) ?_
  obtain ⟨w2, H2, f2, k2, hc⟩ := new_ok (kn := kn) (lo := lo) (H := H1) (hat.keep k1 (by simp)) (by omega)
  refine wN_callf (vs := [.agg g.v.toArray]) rfl (callX_args f2) ?_
  have m2 := k2.1
  have k02 : Keep H H2 [] := k1.trans k2
  rcases hc with ⟨hok, rfl⟩ | ⟨hok, ka, kc, rfl, hks, hkf⟩
  · refine wN_mov (v := .tuple #[.agg #[.slice none 0 0, .slice none 0 0, iv 0, iv 0, iv 0, .slice none 0 0], iv 1]) rfl ?_
    refine wN_pur (v := .agg #[.slice none 0 0, .slice none 0 0, iv 0, iv 0, iv 0, .slice none 0 0]) rfl (by kernel_rfl) ?_
    refine wN_pur (v := iv 1) rfl (by kernel_rfl) ?_
    refine wN_alc ?_
    intro H3 k3 n3 c3
    refine wN_sta (b := H2.next) (o := 0) (v := .agg #[.slice none 0 0, .slice none 0 0, iv 0, iv 0, iv 0, .slice none 0 0]) rfl rfl c3 (by omega) rfl rfl (by simp) ?_
    intro H4 k4 n4 c4
    have c4 : Cl H4 H2.next ([.slice none 0 0, .slice none 0 0, iv 0, iv 0, iv 0, .slice none 0 0]) := c4
    refine wN_mov (v := iv 1) rfl ?_
    refine wN_end ?_
    have k24 : Keep H2 H4 [] := k3.new k4 (fun b q => by simp at q; omega)
    have k04 : Keep H H4 [] := k02.trans k24
    have m4 := k24.1
    refine wN_seq ?_
    refine wN_mov (v := iv 1) rfl ?_
    refine wN_c_neq (a := 1) (b := 0) rfl rfl ?_
    refine wN_end ?_
    refine And.intro (fun q1 => ?_) (fun q1 => ?_)
    · refine wN_seq ?_
      refine wN_mov (v := iv 1) rfl ?_
      refine wN_mov (v := iv 0) rfl ?_
      refine wN_mov (v := .slice none 0 0) rfl ?_
      refine wN_mov (v := iv 1) rfl ?_
      refine wN_end ?_
      exact And.intro trivial (Exists.intro _ (And.intro rfl ⟨k04, Or.inl ⟨by rw [Fh.le1 hok]; decide, by rw [Fh.le1 hok]; rfl⟩⟩))
    · exact absurd q1 (by decide)
  · have v := Fh.vd hok hat
    refine wN_mov (v := .tuple #[.agg (g.vw ka kc).toArray, iv 0]) rfl ?_
    refine wN_pur (v := .agg (g.vw ka kc).toArray) rfl (by kernel_rfl) ?_
    refine wN_pur (v := iv 0) rfl (by kernel_rfl) ?_
    refine wN_alc ?_
    intro H3 k3 n3 c3
    refine wN_sta (b := H2.next) (o := 0) (v := .agg (g.vw ka kc).toArray) rfl rfl c3 (by omega) rfl rfl (by simp) ?_
    intro H4 k4 n4 c4
    have c4 : Cl H4 H2.next (g.vw ka kc) := c4
    refine wN_mov (v := iv 0) rfl ?_
    refine wN_end ?_
    have k24 : Keep H2 H4 [] := k3.new k4 (fun b q => by simp at q; omega)
    have k04 : Keep H H4 [] := k02.trans k24
    have m4 := k24.1
    refine wN_seq ?_
    refine wN_mov (v := iv 0) rfl ?_
    refine wN_c_neq (a := 0) (b := 0) rfl rfl ?_
    refine wN_end ?_
    refine And.intro (fun q1 => ?_) (fun q1 => ?_)
    · exact absurd q1 (by decide)
    · first | refine wN_skip ?_ | skip
      refine wN_seq ?_
      refine wN_lda (b := H2.next) (o := 0) rfl c4.rd (show row 6 _ 0 = some (g.vw ka kc) from rfl) ?_
      obtain ⟨w5, H5, f5, k5, hb⟩ := least_ok (kn := kn) (lo := lo) (H := H4) v (hat.keep k04 (by simp)) (k24.sl0 hks) (by omega)
      refine wN_callf (vs := [.agg (g.vw ka kc).toArray]) rfl (callX_args f5) ?_
      have m5 := k5.1
      have k05 : Keep H H5 [] := k04.trans k5
      have c4 := k5.cl c4 (by simp)
      cases e : g.lst with
      | none =>
        rw [e] at hb
        have hb : w5 = .tuple #[.agg zc78.toArray, .bool false] := hb
        subst hb
        refine wN_mov (v := .tuple #[.agg zc78.toArray, .bool false]) rfl ?_
        refine wN_pur (v := .agg zc78.toArray) rfl (by kernel_rfl) ?_
        refine wN_pur (v := .bool false) rfl (by kernel_rfl) ?_
        refine wN_alc ?_
        intro H6 k6 n6 c6
        refine wN_sta (b := H5.next) (o := 0) (v := .agg zc78.toArray) rfl rfl c6 (by omega) rfl rfl (by simp) ?_
        intro H7 k7 n7 c7
        have c7 : Cl H7 H5.next (zc78) := c7
        refine wN_mov (v := .bool false) rfl ?_
        refine wN_end ?_
        have k57 : Keep H5 H7 [] := k6.new k7 (fun b q => by simp at q; omega)
        have k07 : Keep H H7 [] := k05.trans k57
        have m7 := k57.1
        refine wN_seq ?_
        refine wN_mov (v := .bool false) rfl ?_
        refine wN_pur (v := .bool true) rfl rfl ?_
        refine wN_end ?_
        refine condT ?_
        refine wN_seq ?_
        refine wN_mov (v := iv 0) rfl ?_
        refine wN_mov (v := .slice none 0 0) rfl ?_
        refine wN_mov (v := iv 4) rfl ?_
        refine wN_end ?_
        exact And.intro trivial (Exists.intro _ (And.intro rfl ⟨k07, Or.inl ⟨by rw [Fh.le4 hok e]; decide, by rw [Fh.le4 hok e]; rfl⟩⟩))
      | some o =>
        rw [e] at hb
        obtain ⟨sb, bb, rfl, q1, q2, cq, rest⟩ := hb
        refine wN_mov (v := .tuple #[cvv sb g.bn bb g.bn (g.sl o), .bool true]) rfl ?_
        refine wN_pur (v := cvv sb g.bn bb g.bn (g.sl o)) rfl (by kernel_rfl) ?_
        refine wN_pur (v := .bool true) rfl (by kernel_rfl) ?_
        refine wN_alc ?_
        intro H6 k6 n6 c6
        refine wN_sta (b := H5.next) (o := 0) (v := cvv sb g.bn bb g.bn (g.sl o)) rfl rfl c6 (by omega) rfl rfl (by simp) ?_
        intro H7 k7 n7 c7
        have c7 : Cl H7 H5.next (cvc sb g.bn bb g.bn (g.sl o)) := c7
        refine wN_mov (v := .bool true) rfl ?_
        refine wN_end ?_
        have k57 : Keep H5 H7 [] := k6.new k7 (fun b q => by simp at q; omega)
        have k07 : Keep H H7 [] := k05.trans k57
        have m7 := k57.1
        refine wN_seq ?_
        refine wN_mov (v := .bool true) rfl ?_
        refine wN_pur (v := .bool false) rfl rfl ?_
        refine wN_end ?_
        refine condF ?_
        first | refine wN_skip ?_ | skip
        refine wD_seq ?_
        refine wD_addo (b := H5.next) (o := 0) rfl ?_
        refine wD_addo (b := H5.next) (o := 0 + 2) rfl ?_
        refine wD_addo (b := H5.next) (o := 0 + 2 + 0) rfl ?_
        refine wD_ld (b := H5.next) (o := 0 + 2 + 0 + 1) (v := iv (g.sl o).t2) rfl c7.rd rfl ?_
        refine wD_addo (b := H5.next) (o := 0) rfl ?_
        refine wD_ld (b := H5.next) (o := 0 + 0) (v := slv sb g.bn g.bn) rfl c7.rd rfl ?_
        refine wD_mov (v := iv (g.sl o).t2) rfl ?_
        refine wD_mov (v := slv sb g.bn g.bn) rfl ?_
        refine wD_mov (v := iv 0) rfl ?_
        refine wD_end (by repeat' first | exact True.intro | exact (fun h => h) | refine And.intro ?_ ?_ | (intro h; have h : (_ : Nat) = _ := h; omega)) ?_
        exact And.intro trivial (Exists.intro _ (And.intro rfl ⟨k07, Or.inr ⟨Fh.le0 hok e, hok, sb, o, rfl, e, by omega, k57.sc cq.ro (by simp), rest⟩⟩))
end
end Go.Ax

/-
  Flood: the best one is the best: maths; Ints (25) (written by program).
-/
namespace Go.Ax
open Go Go.RowKit Go.Proofs

/-- what an order is measured by -/
def Fh.kp (g : Fh) (o : List Nat) : List Int := (g.sl o).d2 :: (g.sl o).t2 :: zi o
section
variable {kn : FuncId → Option Bool} {lo : Nat} {H : Hp}
set_option maxRecDepth 100000 in
/-- Ints of lists that are the same -/
theorem Ints_ok {sa sb : Option Addr} {m cap cap2 : Nat} {us : List Int} (ha : Sl H sa m cap (ints us)) (hb : Sl H sb m cap2 (ints us)) (hl : us.length = m) (hm : m ≤ 1000) : ∃ H', FnX Try.prog kn lo 25 [.slice sa m cap, .slice sb m cap2] H (.bool true) H' ∧ Keep H H' [] := by
  have key := fnX_low (kn := kn) (lo := lo) (H := H) (args := [.slice sa m cap, .slice sb m cap2]) (Q := fun w H' => w = .bool true ∧ Keep H H' []) Try.func25 B25 N25 Z25 L25 (by simp) ?_
  · obtain ⟨w, H', h, rfl, q⟩ := key; exact ⟨H', h, q⟩
  have hk := Keep.refl H []
  refine wN_seq ?_
  refine wN_mov (v := .bool false) rfl ?_
  refine wN_end ?_
  refine wN_seq ?_
  refine wN_mov (v := .slice sa m cap) rfl ?_
  refine wN_len (m := m) rfl ?_
  refine wN_mov (v := .slice sb m cap2) rfl ?_
  refine wN_len (m := m) rfl ?_
  refine wN_c_neq (a := (m : Int)) (b := (m : Int)) rfl rfl ?_
  refine wN_end ?_
  refine And.intro (fun q1 => ?_) (fun q1 => ?_)
  · simp at q1
  · first | refine wN_skip ?_ | skip
    refine wN_seq ?_
    refine wN_mov (v := iv 0) rfl ?_
    refine wN_end ?_
    refine loop_low (fn := Try.f25) E25_1 N25 L25x1 (fun i : Nat => [(0, .slice sa m cap), (1, .slice sb m cap2), (5, iv (i : Int))])
      (fun q i H' => i + q = m ∧ Keep H H' []) m 0 ⟨by omega, hk⟩ ⟨rfl, rfl, rfl, trivial⟩ ?_
    rintro q i L1 ⟨hiq, hk⟩
    have ha := hk.sl0 ha
    have hb := hk.sl0 hb
    refine wN_seq ?_
    refine wN_mov (v := iv (i : Int)) rfl ?_
    refine wN_mov (v := .slice sa m cap) rfl ?_
    refine wN_len (m := m) rfl ?_
    refine wN_c_lss (a := (i : Int)) (b := (m : Int)) rfl rfl ?_
    refine wN_end ?_
    refine And.intro (fun q1 => ?_) (fun q1 => ?_)
    · have q1 : (i : Int) < (m : Int) := of_decide_eq_true q1
      obtain ⟨x, hx⟩ := get_some (l := us) (i := i) (by omega)
      rcases ha with ⟨_, h0, _⟩ | ⟨b1, rfl, r1, _⟩
      · omega
      rcases hb with ⟨_, h0, _⟩ | ⟨b2, rfl, r2, _⟩
      · omega
      first | refine wN_skip ?_ | skip
      refine wD_seq ?_
      refine wD_mov (v := .slice (some ⟨b1, 0, none⟩) m cap) rfl ?_
      refine wD_mov (v := iv (i : Int)) rfl ?_
      refine wD_idx (b := b1) (o := 0) (k := i) (j := (i : Int)) rfl rfl rfl (by omega) ?_
      refine wD_ld (b := b1) (o := 0 + i * 1) (v := iv x) rfl r1 (ints_at hx) ?_
      refine wD_mov (v := .slice (some ⟨b2, 0, none⟩) m cap2) rfl ?_
      refine wD_mov (v := iv (i : Int)) rfl ?_
      refine wD_idx (b := b2) (o := 0) (k := i) (j := (i : Int)) rfl rfl rfl (by omega) ?_
      refine wD_ld (b := b2) (o := 0 + i * 1) (v := iv x) rfl r2 (ints_at hx) ?_
      refine wD_c_neq (a := x) (b := x) rfl rfl ?_
      refine wD_end (by repeat' first | exact True.intro | exact (fun h => h) | refine And.intro ?_ ?_ | (intro h; have h : (_ : Nat) = _ := h; omega)) ?_
      refine And.intro (fun q2 => ?_) (fun q2 => ?_)
      · simp at q2
      · first | refine wN_skip ?_ | skip
        first | refine wN_reg ?_ | refine wN_blk ?_ | (refine wOps_nil ?_; refine wN_reg ?_)
        refine wN_mov (v := iv (i : Int)) rfl ?_
        refine wN_add (a := (i : Int)) (b := 1) rfl rfl ⟨by omega, by omega⟩ ?_
        refine wN_mov (v := iv ((i : Int) + 1)) rfl ?_
        refine wN_end ?_
        exact ⟨q - 1, i + 1, by omega, ⟨by omega, hk⟩, rfl, rfl, rfl, trivial⟩
    · refine wN_seq ?_
      refine wN_mov (v := .bool true) rfl ?_
      refine wN_end ?_
      exact And.intro trivial (Exists.intro _ (And.intro rfl ⟨rfl, hk⟩))
end
end Go.Ax

/-
  Flood: the law FloodLeast, whatever the input (written by program).
-/
namespace Go.Ax
open Go Go.RowKit Go.Proofs

section
variable {kn : FuncId → Option Bool} {lo : Nat} {H : Hp}
end
end Go.Ax

/-
  Flood: great, in full (12); append of several elements; what FloodOwns keeps (34) (written by program).
-/
namespace Go.Ax
open Go Go.RowKit Go.Proofs

structure Fh.GG (g : Fh) (q : Nat) : Prop where
  b : g.bn ≤ 10
  r : g.rn ≤ 10
  m : g.bn ≤ 7 → g.bn ≤ q
  w : ∀ x, x < g.bn → (g.B x).wn ≤ 8
  n : ∀ x, x < g.rn → (g.R x).n ≤ 10
theorem step_le {p : Nat → Nat} {i m : Nat} (h : ∀ x, x < i → p x ≤ m) (hi : p i ≤ m) : ∀ x, x < i + 1 → p x ≤ m := fun x hx => by
  rcases Nat.lt_or_ge x i with q | q
  · exact h x q
  · have : x = i := by omega
    subst this; exact hi
/-- append of any number of elements to what append made -/
theorem heap_append_many {P : Program} {lo : Nat} {H : Hp} {t0 t1 e ep : TypeId} {size k m cap2 f b0 : Nat} {a : Option Addr} {v : Value} {cs news : List Value} (he : sliceElem P t0 = some (e, size)) (ht : P.underlying t1 = some (.slice ep))
    (hs : Sl H a m cap2 news) (hl : news.length = m * size) (hz : 0 < size) (hone : news.all one = true) (hcl : cs.length = k * size) (hk : k + m ≤ 2000) (ha : AccB b0 lo f e H v k cs) (hlo : lo ≤ H.next) (hf : f ≤ H.next) :
    ∃ v1 H1 kd, (∀ (n : Nat) (S : Rg) (d : Option Tmp) (x y : Operand) (ty : TypeId) (p : String), evS S x = some v → evS S y = some (.slice a m cap2) → heapOp P lo (frS n S) H ⟨d, .call ⟨.builtin .append, #[x, y], #[t0, t1]⟩, ty, p, #[], none⟩ = some (.val v1 H1, kd)) ∧ (∀ b, kd ≠ .read b) ∧
      AccB b0 lo f e H1 v1 (k + m) (cs ++ news) ∧ KeepB f H H1 ∧ ∀ c cs', Cl H c cs' → (∀ b n, v = .slice (some ⟨b, 0, none⟩) n n → b ≠ c) → Cl H1 c cs' := by
  rcases Nat.eq_zero_or_pos m with rfl | hp
  · have hn : news = [] := by cases news with | nil => rfl | cons _ _ => simp at hl
    subst hn
    refine ⟨v, H, .pure, ?_, fun b e => (by cases e), by simpa using ha, ⟨Nat.le_refl _, fun _ _ => rfl⟩, fun _ _ h _ => h⟩
    intro n S d x y ty p hx hy
    have h3 : Nat.ble (k + 0) 1048576 = true := Nat.ble_eq_true_of_le (by omega)
    rcases ha with ⟨rfl, _, rfl, _⟩ | ⟨b, rfl, _⟩
    · exact heap_append_none he ht hx hy hs (by simp)
    · unfold heapOp
      simp only [evs, ev_frS, hx, hy, builtinV, List.getElem?_toArray, List.getElem?_cons_zero, List.getElem?_cons_succ, he, ht, src_of hs hl, appendV, h3, Nat.beq_refl, cond_true]
  · rcases ha with ⟨rfl, rfl, rfl, hb, e0, h0⟩ | ⟨b, rfl, h0, hb, hlb, hn, hg⟩
    · refine ⟨_, _, .heavy, fun n S d x y ty p hx hy => heap_append_empty he ht h0 hx hy hs hl (by omega) hp, fun b e => (by cases e), .inr ⟨H.next, by rw [Nat.zero_add], by omega, hf, hlo, (new_facts rfl).2.2.1, new_get rfl⟩, ?_⟩
      exact ⟨⟨(new_facts rfl).1.1, fun b hb => (new_facts rfl).1.2 b (by omega) (by simp)⟩, fun c cs' h _ => (new_facts rfl).1.cl h (by simp)⟩
    · have hmz : 1 ≤ m * size := Nat.mul_pos hp hz
      have h1 : Nat.ble (0 + (k + m) * size) cs.length = false := by
        cases h : Nat.ble (0 + (k + m) * size) cs.length with
        | false => rfl
        | true => have := Nat.le_of_ble_eq_true h; rw [hcl, Nat.add_mul] at this; omega
      have h2 : Nat.beq (0 + k * size) cs.length = true := by rw [hcl, Nat.zero_add]; exact Nat.beq_refl _
      have h3 : Nat.ble (k + m) 1048576 = true := Nat.ble_eq_true_of_le (by omega)
      have h4 : Nat.beq e e = true := Nat.beq_refl e
      have h5 : Nat.beq m 0 = false := by rw [beq_eq]; simp; omega
      refine ⟨.slice (some ⟨H.next, 0, none⟩) (k + m) (k + m), ({ H with t := H.t.set b .dead } : Hp).new (.cells (cs ++ news) e true), .store b, ?_, fun b e => (by cases e), ?_, ?_, ?_⟩
      · intro n S d x y ty p hx hy
        unfold heapOp
        simp only [evs, ev_frS, hx, hy, builtinV, List.getElem?_toArray, List.getElem?_cons_zero, List.getElem?_cons_succ, he, ht, src_of hs hl, appendV, hg, h1, h2, h3, h4, h5, hone, Nat.ble_eq_true_of_le hlb, Bool.and_self, cond_true, cond_false, List.drop_zero]
      · refine .inr ⟨H.next, rfl, by omega, hf, hlo, Nat.lt_succ_self _, ?_⟩
        show ((H.t.set b .dead).set H.next _).get H.next = _
        rw [Tr.get_set, if_pos rfl]
      · refine ⟨Nat.le_succ _, fun c hc => ?_⟩
        show ((H.t.set b .dead).set H.next _).get c = _
        rw [Tr.get_set, if_neg (by omega), Tr.get_set, if_neg (by omega)]
      · intro c cs' h hne
        have hne := hne b k rfl
        obtain ⟨q1, q2, q3, q4⟩ := h
        refine ⟨Nat.lt_succ_of_lt q1, q2, q3, ?_⟩
        show ((H.t.set b .dead).set H.next _).get c = _
        rw [Tr.get_set, if_neg (by omega), Tr.get_set, if_neg (by omega)]
        exact q4
theorem AccB.ne {b0 lo f : Nat} {e : TypeId} {H : Hp} {v : Value} {n c : Nat} {cs : List Value} (h : AccB b0 lo f e H v n cs) (hc : H.next ≤ c) : ∀ b n', v = .slice (some ⟨b, 0, none⟩) n' n' → b ≠ c := by
  intro b n' ev
  rcases h with ⟨_, _, rfl, hb, _⟩ | ⟨b1, rfl, _, _, _, hb, _⟩
  · cases ev; omega
  · cases ev; omega
theorem KeepB.to {H H1 H2 : Hp} (h : Keep H H1 []) (k : KeepB H.next H1 H2) : Keep H H2 [] :=
  ⟨Nat.le_trans h.1 k.1, fun b hb _ => by rw [k.2 b hb]; exact h.2 b hb (by simp)⟩
/-- the numbers of a bed; what the law keeps -/
def Bg.nums (b : Bg) : List Int := b.need :: b.l1 :: b.l2 :: b.ws.flatMap fun s => [s.1, s.2]
def Fh.fl (g : Fh) (us : List Int) : List Int := us ++ g.rs.flatMap Rw.l ++ g.bs.flatMap Bg.nums
theorem ints_app (a b : List Int) : ints (a ++ b) = ints a ++ ints b := by unfold ints; rw [List.map_append]
theorem ints_one (l : List Int) : (ints l).all one = true := by
  unfold ints; rw [List.all_eq_true]
  intro v hv
  obtain ⟨x, _, rfl⟩ := List.mem_map.mp hv
  rfl
theorem flat_take {α : Type} {f : α → List Int} {l : List α} {i : Nat} {x : α} (h : l[i]? = some x) : (l.take (i + 1)).flatMap f = (l.take i).flatMap f ++ f x := by
  rw [List.take_add_one, h]; simp
theorem flat_lenI {α : Type} {f : α → List Int} {l : List α} {m : Nat} : ∀ (i : Nat), (∀ j x, j < i → l[j]? = some x → (f x).length ≤ m) → ((l.take i).flatMap f).length ≤ i * m
  | 0, _ => by simp
  | i + 1, h => by
    have ih := flat_lenI (f := f) (l := l) i (fun j x hj => h j x (by omega))
    cases e : l[i]? with
    | none =>
      have hl : l.length ≤ i := by simpa using e
      rw [List.take_of_length_le (by omega)]; rw [List.take_of_length_le hl] at ih
      have : i * m ≤ (i + 1) * m := Nat.mul_le_mul_right m (by omega)
      omega
    | some x =>
      rw [flat_take e, List.length_append, Nat.add_mul]
      have := h i x (by omega) e
      omega
section
variable {kn : FuncId → Option Bool} {lo : Nat} {H : Hp}
set_option maxRecDepth 100000 in
theorem great2_ok {g : Fh} {f q : Nat} (hat : g.At f H) (hlo : lo ≤ H.next) : ∃ w H', FnX Try.prog kn lo 12 [.agg g.v.toArray, iv (q : Int)] H w H' ∧ ∃ t, w = .bool t ∧ Keep H H' [] ∧ (t = false → g.GG q) := by
  refine fnX_low (kn := kn) (lo := lo) (H := H) (args := [.agg g.v.toArray, iv (q : Int)]) (Q := fun w H' => ∃ t, w = .bool t ∧ Keep H H' [] ∧ (t = false → g.GG q)) Try.func12 B12 N12 Z12 L12 (by simp) ?_
  have hk := Keep.refl H []
  have hfl := hat.le
  refine wN_seq ?_
  refine wN_box (v := .agg g.v.toArray) rfl ?_
  intro H1 kH1 nH1 c1
  have c1 : Cl H1 H.next [.slice g.ba g.bn g.bcap, .slice g.ra g.rn g.rcap, iv g.inlet, iv g.reserve, iv g.winds] := c1
  have mH1 := kH1.1
  have hk := hk.trans kH1
  have hat := hat.keep kH1 (by simp)
  refine wN_mov (v := .bool false) rfl ?_
  refine wN_end ?_
  refine wN_seq ?_
  refine wN_addo (b := H.next) (o := 0) rfl ?_
  refine wN_ld (b := H.next) (o := 0) (v := .slice g.ba g.bn g.bcap) rfl c1.rd rfl ?_
  refine wN_len (m := g.bn) rfl ?_
  refine wN_mov (v := iv (q : Int)) rfl ?_
  refine wN_b_gtr (a := (g.bn : Int)) (b := (q : Int)) rfl rfl ?_
  intro t1 g1; cases t1
  · have g1 : ¬ ((g.bn : Int) > (q : Int)) := of_decide_eq_false g1
    refine wN_mov (v := .bool false) rfl ?_
    refine wN_gs rfl ?_
    refine wN_gs rfl ?_
    refine wN_gs rfl ?_
    refine wN_gs rfl ?_
    refine wN_pur (v := .bool false) rfl rfl ?_
    refine wN_mov (v := .bool false) rfl ?_
    refine wN_g rfl (wN_addo (b := H.next) (o := 0) rfl ?_)
    refine wN_g rfl (wN_ld (b := H.next) (o := 0) (v := .slice g.ba g.bn g.bcap) rfl c1.rd rfl ?_)
    refine wN_g rfl (wN_len (m := g.bn) rfl ?_)
    refine wN_g rfl (wN_b_gtr (a := (g.bn : Int)) (b := 10) rfl rfl ?_)
    intro t2 g2; cases t2
    · have g2 : ¬ ((g.bn : Int) > 10) := of_decide_eq_false g2
      refine wN_pur (v := .bool false) rfl rfl ?_
      refine wN_mov (v := .bool false) rfl ?_
      refine wN_g rfl (wN_addo (b := H.next) (o := 0) rfl ?_)
      refine wN_g rfl (wN_ld (b := H.next) (o := 1) (v := .slice g.ra g.rn g.rcap) rfl c1.rd rfl ?_)
      refine wN_g rfl (wN_len (m := g.rn) rfl ?_)
      refine wN_g rfl (wN_b_gtr (a := (g.rn : Int)) (b := 10) rfl rfl ?_)
      intro t3 g3; cases t3
      · have g3 : ¬ ((g.rn : Int) > 10) := of_decide_eq_false g3
        refine wN_pur (v := .bool false) rfl rfl ?_
        refine wN_end ?_
        refine condF ?_
        first | refine wN_skip ?_ | skip
        refine wN_seq ?_
        refine wN_addo (b := H.next) (o := 0) rfl ?_
        refine wN_ld (b := H.next) (o := 0) (v := .slice g.ba g.bn g.bcap) rfl c1.rd rfl ?_
        refine wN_len (m := g.bn) rfl ?_
        refine wN_mov (v := iv 0) rfl ?_
        refine wN_end ?_
        refine loop_low (fn := Try.f12) E12_1 N12 L12x1 (fun i : Nat => [(2, pt H.next), (33, .slice g.ba g.bn g.bcap), (34, iv (g.bn : Int)), (35, iv (i : Int))])
          (fun k i H' => i + k = g.bn ∧ Keep H1 H' [] ∧ ∀ x, x < i → (g.B x).wn ≤ 8) g.bn 0 ⟨by omega, Keep.refl _ _, fun x hx => by omega⟩ ⟨rfl, rfl, rfl, rfl, trivial⟩ ?_
        rintro k i L1 ⟨hik, hki, hws⟩
        have hk := hk.trans hki
        have hat := hat.keep hki (by simp)
        have c1 := hki.cl c1 (by simp)
        have kb := hki
        have mi := hki.1
        refine wN_seq ?_
        refine wN_c_lss (a := (i : Int)) (b := (g.bn : Int)) rfl rfl ?_
        refine wN_end ?_
        refine And.intro (fun q4 => ?_) (fun q4 => ?_)
        · have q4 : (i : Int) < (g.bn : Int) := of_decide_eq_true q4
          have hi : i < g.bn := by omega
          have hbi := getB (g := g) (i := i) (by rw [hat.bl]; exact hi)
          obtain ⟨xb, eb, rb, lb⟩ := hat.bog (by omega)
          rw [eb]
          first | refine wN_skip ?_ | skip
          refine wN_seq ?_
          refine wN_idx (b := xb) (o := 0) (k := i) (j := (i : Int)) rfl rfl rfl hi ?_
          refine wN_lda (b := xb) (o := 0 + i * 4) rfl rb (bgc_row hbi) ?_
          refine wN_alc ?_
          intro H2 kH2 nH2 c2
          have c2 : Cl H2 L1.next [iv 0, iv 0, iv 0, .slice none 0 0] := c2
          have mH2 := kH2.1
          have hk := hk.trans kH2
          have hat := hat.keep kH2 (by simp)
          have c1 := kH2.cl c1 (by simp)
          have kb := kb.trans kH2
          have rb := kH2.rd rb (by simp)
          refine wN_sta (b := L1.next) (o := 0) rfl rfl c2 (by omega) rfl rfl (by simp) ?_
          intro H3 kH3 nH3 sH3
          have mH3 := kH3.1
          have hk := hk.new kH3 (fun b hb => by simp at hb ⊢; omega)
          have hat := hat.keep kH3 (fun x hx => by first | (simp at hx; done) | (simp at hx; omega))
          have c1 := kH3.cl c1 (by first | (simp; done) | (simp; omega))
          have kb := kb.new kH3 (fun b hb => by simp at hb ⊢; omega)
          have rb := kH3.rd rb (by first | (simp; done) | (simp; omega))
          have c2 : Cl H3 L1.next [iv ((g.B i).need), iv ((g.B i).l1), iv ((g.B i).l2), .slice ((g.B i).wa) ((g.B i).wn) ((g.B i).wcap)] := sH3
          refine wN_end ?_
          refine wN_seq ?_
          refine wN_addo (b := L1.next) (o := 0) rfl ?_
          refine wN_ld (b := L1.next) (o := 3) (v := .slice ((g.B i).wa) ((g.B i).wn) ((g.B i).wcap)) rfl c2.rd rfl ?_
          refine wN_len (m := (g.B i).wn) rfl ?_
          refine wN_c_gtr (a := ((g.B i).wn : Int)) (b := 8) rfl rfl ?_
          refine wN_end ?_
          refine And.intro (fun q5 => ?_) (fun q5 => ?_)
          · have q5 : ((g.B i).wn : Int) > 8 := of_decide_eq_true q5
            refine wN_seq ?_
            refine wN_mov (v := .bool true) rfl ?_
            refine wN_end ?_
            exact And.intro trivial (Exists.intro _ (And.intro rfl ⟨true, rfl, hk, fun e => by cases e⟩))
          · have q5 : ¬ (((g.B i).wn : Int) > 8) := of_decide_eq_false q5
            first | refine wN_skip ?_ | skip
            first | refine wN_reg ?_ | (refine wOps_nil ?_; refine wN_reg ?_)
            refine wN_add (a := (i : Int)) (b := 1) rfl rfl ⟨by omega, by omega⟩ ?_
            refine wN_mov (v := iv ((i : Int) + 1)) rfl ?_
            refine wN_end ?_
            exact ⟨k - 1, i + 1, by omega, ⟨by omega, kb, step_le (p := fun x => (g.B x).wn) hws (by show (g.B i).wn ≤ 8; omega)⟩, rfl, by first | rfl | (rw [eb]; rfl), rfl, rfl, trivial⟩
        · have q4 : ¬ ((i : Int) < (g.bn : Int)) := of_decide_eq_false q4
          refine wN_seq ?_
          refine wN_addo (b := H.next) (o := 0) rfl ?_
          refine wN_ld (b := H.next) (o := 1) (v := .slice g.ra g.rn g.rcap) rfl c1.rd rfl ?_
          refine wN_len (m := g.rn) rfl ?_
          refine wN_mov (v := iv 0) rfl ?_
          refine wN_end ?_
          refine loop_low (fn := Try.f12) E12_2 N12 L12x2 (fun j : Nat => [(2, pt H.next), (45, .slice g.ra g.rn g.rcap), (46, iv (g.rn : Int)), (47, iv (j : Int))])
            (fun k j H' => j + k = g.rn ∧ Keep L1 H' [] ∧ ∀ x, x < j → (g.R x).n ≤ 10) g.rn 0 ⟨by omega, Keep.refl _ _, fun x hx => by omega⟩ ⟨rfl, rfl, rfl, rfl, trivial⟩ ?_
          rintro k2 j L2 ⟨hjk, hkj, hrs⟩
          have hk := hk.trans hkj
          have hat := hat.keep hkj (by simp)
          have c1 := hkj.cl c1 (by simp)
          have kc := hkj
          have mj := hkj.1
          refine wN_seq ?_
          refine wN_c_lss (a := (j : Int)) (b := (g.rn : Int)) rfl rfl ?_
          refine wN_end ?_
          refine And.intro (fun q6 => ?_) (fun q6 => ?_)
          · have q6 : (j : Int) < (g.rn : Int) := of_decide_eq_true q6
            have hj : j < g.rn := by omega
            have hrj := getR (g := g) (i := j) (by rw [hat.rl]; exact hj)
            obtain ⟨xr, er, rr, lr⟩ := hat.rts (by omega)
            rw [er]
            first | refine wN_skip ?_ | skip
            refine wN_seq ?_
            refine wN_idx (b := xr) (o := 0) (k := j) (j := (j : Int)) rfl rfl rfl hj ?_
            refine wN_ld (b := xr) (o := 0 + j * 1) (v := .slice ((g.R j).ra) ((g.R j).n) ((g.R j).cap)) rfl rr (rwc_row hrj) ?_
            refine wN_mov (v := .slice ((g.R j).ra) ((g.R j).n) ((g.R j).cap)) rfl ?_
            refine wN_end ?_
            refine wN_seq ?_
            refine wN_mov (v := .slice ((g.R j).ra) ((g.R j).n) ((g.R j).cap)) rfl ?_
            refine wN_len (m := (g.R j).n) rfl ?_
            refine wN_c_gtr (a := ((g.R j).n : Int)) (b := 10) rfl rfl ?_
            refine wN_end ?_
            refine And.intro (fun q7 => ?_) (fun q7 => ?_)
            · have q7 : ((g.R j).n : Int) > 10 := of_decide_eq_true q7
              refine wN_seq ?_
              refine wN_mov (v := .bool true) rfl ?_
              refine wN_end ?_
              exact And.intro trivial (Exists.intro _ (And.intro rfl ⟨true, rfl, hk, fun e => by cases e⟩))
            · have q7 : ¬ (((g.R j).n : Int) > 10) := of_decide_eq_false q7
              first | refine wN_skip ?_ | skip
              first | refine wN_reg ?_ | (refine wOps_nil ?_; refine wN_reg ?_)
              refine wN_add (a := (j : Int)) (b := 1) rfl rfl ⟨by omega, by omega⟩ ?_
              refine wN_mov (v := iv ((j : Int) + 1)) rfl ?_
              refine wN_end ?_
              exact ⟨k2 - 1, j + 1, by omega, ⟨by omega, kc, step_le (p := fun x => (g.R x).n) hrs (by show (g.R j).n ≤ 10; omega)⟩, rfl, by first | rfl | (rw [er]; rfl), rfl, rfl, trivial⟩
          · have q6 : ¬ ((j : Int) < (g.rn : Int)) := of_decide_eq_false q6
            refine wN_seq ?_
            refine wN_mov (v := .bool false) rfl ?_
            refine wN_end ?_
            exact And.intro trivial (Exists.intro _ (And.intro rfl ⟨false, rfl, hk, fun _ => ⟨by omega, by omega, fun h => by omega, fun x hx => hws x (by omega), fun x hx => hrs x (by omega)⟩⟩))
      · have g3 : (g.rn : Int) > 10 := of_decide_eq_true g3
        refine wN_pur (v := .bool true) rfl rfl ?_
        refine wN_end ?_
        refine condT ?_
        refine wN_seq ?_
        refine wN_mov (v := .bool true) rfl ?_
        refine wN_end ?_
        exact And.intro trivial (Exists.intro _ (And.intro rfl ⟨true, rfl, hk, fun e => by cases e⟩))
    · have g2 : (g.bn : Int) > 10 := of_decide_eq_true g2
      refine wN_pur (v := .bool true) rfl rfl ?_
      refine wN_mov (v := .bool true) rfl ?_
      refine wN_gs rfl ?_
      refine wN_gs rfl ?_
      refine wN_gs rfl ?_
      refine wN_gs rfl ?_
      refine wN_pur (v := .bool true) rfl rfl ?_
      refine wN_end ?_
      refine condT ?_
      refine wN_seq ?_
      refine wN_mov (v := .bool true) rfl ?_
      refine wN_end ?_
      exact And.intro trivial (Exists.intro _ (And.intro rfl ⟨true, rfl, hk, fun e => by cases e⟩))
  · have g1 : (g.bn : Int) > (q : Int) := of_decide_eq_true g1
    refine wN_mov (v := .bool true) rfl ?_
    refine wN_g rfl (wN_addo (b := H.next) (o := 0) rfl ?_)
    refine wN_g rfl (wN_ld (b := H.next) (o := 0) (v := .slice g.ba g.bn g.bcap) rfl c1.rd rfl ?_)
    refine wN_g rfl (wN_len (m := g.bn) rfl ?_)
    refine wN_g rfl (wN_b_leq (a := (g.bn : Int)) (b := 7) rfl rfl ?_)
    intro t8 g8; cases t8
    · have g8 : ¬ ((g.bn : Int) ≤ 7) := of_decide_eq_false g8
      refine wN_pur (v := .bool false) rfl rfl ?_
      refine wN_mov (v := .bool false) rfl ?_
      refine wN_g rfl (wN_addo (b := H.next) (o := 0) rfl ?_)
      refine wN_g rfl (wN_ld (b := H.next) (o := 0) (v := .slice g.ba g.bn g.bcap) rfl c1.rd rfl ?_)
      refine wN_g rfl (wN_len (m := g.bn) rfl ?_)
      refine wN_g rfl (wN_b_gtr (a := (g.bn : Int)) (b := 10) rfl rfl ?_)
      intro t9 g9; cases t9
      · have g9 : ¬ ((g.bn : Int) > 10) := of_decide_eq_false g9
        refine wN_pur (v := .bool false) rfl rfl ?_
        refine wN_mov (v := .bool false) rfl ?_
        refine wN_g rfl (wN_addo (b := H.next) (o := 0) rfl ?_)
        refine wN_g rfl (wN_ld (b := H.next) (o := 1) (v := .slice g.ra g.rn g.rcap) rfl c1.rd rfl ?_)
        refine wN_g rfl (wN_len (m := g.rn) rfl ?_)
        refine wN_g rfl (wN_b_gtr (a := (g.rn : Int)) (b := 10) rfl rfl ?_)
        intro t10 g10; cases t10
        · have g10 : ¬ ((g.rn : Int) > 10) := of_decide_eq_false g10
          refine wN_pur (v := .bool false) rfl rfl ?_
          refine wN_end ?_
          refine condF ?_
          first | refine wN_skip ?_ | skip
          refine wN_seq ?_
          refine wN_addo (b := H.next) (o := 0) rfl ?_
          refine wN_ld (b := H.next) (o := 0) (v := .slice g.ba g.bn g.bcap) rfl c1.rd rfl ?_
          refine wN_len (m := g.bn) rfl ?_
          refine wN_mov (v := iv 0) rfl ?_
          refine wN_end ?_
          refine loop_low (fn := Try.f12) E12_1 N12 L12x1 (fun i : Nat => [(2, pt H.next), (33, .slice g.ba g.bn g.bcap), (34, iv (g.bn : Int)), (35, iv (i : Int))])
            (fun k i H' => i + k = g.bn ∧ Keep H1 H' [] ∧ ∀ x, x < i → (g.B x).wn ≤ 8) g.bn 0 ⟨by omega, Keep.refl _ _, fun x hx => by omega⟩ ⟨rfl, rfl, rfl, rfl, trivial⟩ ?_
          rintro k i L1 ⟨hik, hki, hws⟩
          have hk := hk.trans hki
          have hat := hat.keep hki (by simp)
          have c1 := hki.cl c1 (by simp)
          have kb := hki
          have mi := hki.1
          refine wN_seq ?_
          refine wN_c_lss (a := (i : Int)) (b := (g.bn : Int)) rfl rfl ?_
          refine wN_end ?_
          refine And.intro (fun q11 => ?_) (fun q11 => ?_)
          · have q11 : (i : Int) < (g.bn : Int) := of_decide_eq_true q11
            have hi : i < g.bn := by omega
            have hbi := getB (g := g) (i := i) (by rw [hat.bl]; exact hi)
            obtain ⟨xb, eb, rb, lb⟩ := hat.bog (by omega)
            rw [eb]
            first | refine wN_skip ?_ | skip
            refine wN_seq ?_
            refine wN_idx (b := xb) (o := 0) (k := i) (j := (i : Int)) rfl rfl rfl hi ?_
            refine wN_lda (b := xb) (o := 0 + i * 4) rfl rb (bgc_row hbi) ?_
            refine wN_alc ?_
            intro H4 kH4 nH4 c4
            have c4 : Cl H4 L1.next [iv 0, iv 0, iv 0, .slice none 0 0] := c4
            have mH4 := kH4.1
            have hk := hk.trans kH4
            have hat := hat.keep kH4 (by simp)
            have c1 := kH4.cl c1 (by simp)
            have kb := kb.trans kH4
            have rb := kH4.rd rb (by simp)
            refine wN_sta (b := L1.next) (o := 0) rfl rfl c4 (by omega) rfl rfl (by simp) ?_
            intro H5 kH5 nH5 sH5
            have mH5 := kH5.1
            have hk := hk.new kH5 (fun b hb => by simp at hb ⊢; omega)
            have hat := hat.keep kH5 (fun x hx => by first | (simp at hx; done) | (simp at hx; omega))
            have c1 := kH5.cl c1 (by first | (simp; done) | (simp; omega))
            have kb := kb.new kH5 (fun b hb => by simp at hb ⊢; omega)
            have rb := kH5.rd rb (by first | (simp; done) | (simp; omega))
            have c4 : Cl H5 L1.next [iv ((g.B i).need), iv ((g.B i).l1), iv ((g.B i).l2), .slice ((g.B i).wa) ((g.B i).wn) ((g.B i).wcap)] := sH5
            refine wN_end ?_
            refine wN_seq ?_
            refine wN_addo (b := L1.next) (o := 0) rfl ?_
            refine wN_ld (b := L1.next) (o := 3) (v := .slice ((g.B i).wa) ((g.B i).wn) ((g.B i).wcap)) rfl c4.rd rfl ?_
            refine wN_len (m := (g.B i).wn) rfl ?_
            refine wN_c_gtr (a := ((g.B i).wn : Int)) (b := 8) rfl rfl ?_
            refine wN_end ?_
            refine And.intro (fun q12 => ?_) (fun q12 => ?_)
            · have q12 : ((g.B i).wn : Int) > 8 := of_decide_eq_true q12
              refine wN_seq ?_
              refine wN_mov (v := .bool true) rfl ?_
              refine wN_end ?_
              exact And.intro trivial (Exists.intro _ (And.intro rfl ⟨true, rfl, hk, fun e => by cases e⟩))
            · have q12 : ¬ (((g.B i).wn : Int) > 8) := of_decide_eq_false q12
              first | refine wN_skip ?_ | skip
              first | refine wN_reg ?_ | (refine wOps_nil ?_; refine wN_reg ?_)
              refine wN_add (a := (i : Int)) (b := 1) rfl rfl ⟨by omega, by omega⟩ ?_
              refine wN_mov (v := iv ((i : Int) + 1)) rfl ?_
              refine wN_end ?_
              exact ⟨k - 1, i + 1, by omega, ⟨by omega, kb, step_le (p := fun x => (g.B x).wn) hws (by show (g.B i).wn ≤ 8; omega)⟩, rfl, by first | rfl | (rw [eb]; rfl), rfl, rfl, trivial⟩
          · have q11 : ¬ ((i : Int) < (g.bn : Int)) := of_decide_eq_false q11
            refine wN_seq ?_
            refine wN_addo (b := H.next) (o := 0) rfl ?_
            refine wN_ld (b := H.next) (o := 1) (v := .slice g.ra g.rn g.rcap) rfl c1.rd rfl ?_
            refine wN_len (m := g.rn) rfl ?_
            refine wN_mov (v := iv 0) rfl ?_
            refine wN_end ?_
            refine loop_low (fn := Try.f12) E12_2 N12 L12x2 (fun j : Nat => [(2, pt H.next), (45, .slice g.ra g.rn g.rcap), (46, iv (g.rn : Int)), (47, iv (j : Int))])
              (fun k j H' => j + k = g.rn ∧ Keep L1 H' [] ∧ ∀ x, x < j → (g.R x).n ≤ 10) g.rn 0 ⟨by omega, Keep.refl _ _, fun x hx => by omega⟩ ⟨rfl, rfl, rfl, rfl, trivial⟩ ?_
            rintro k2 j L2 ⟨hjk, hkj, hrs⟩
            have hk := hk.trans hkj
            have hat := hat.keep hkj (by simp)
            have c1 := hkj.cl c1 (by simp)
            have kc := hkj
            have mj := hkj.1
            refine wN_seq ?_
            refine wN_c_lss (a := (j : Int)) (b := (g.rn : Int)) rfl rfl ?_
            refine wN_end ?_
            refine And.intro (fun q13 => ?_) (fun q13 => ?_)
            · have q13 : (j : Int) < (g.rn : Int) := of_decide_eq_true q13
              have hj : j < g.rn := by omega
              have hrj := getR (g := g) (i := j) (by rw [hat.rl]; exact hj)
              obtain ⟨xr, er, rr, lr⟩ := hat.rts (by omega)
              rw [er]
              first | refine wN_skip ?_ | skip
              refine wN_seq ?_
              refine wN_idx (b := xr) (o := 0) (k := j) (j := (j : Int)) rfl rfl rfl hj ?_
              refine wN_ld (b := xr) (o := 0 + j * 1) (v := .slice ((g.R j).ra) ((g.R j).n) ((g.R j).cap)) rfl rr (rwc_row hrj) ?_
              refine wN_mov (v := .slice ((g.R j).ra) ((g.R j).n) ((g.R j).cap)) rfl ?_
              refine wN_end ?_
              refine wN_seq ?_
              refine wN_mov (v := .slice ((g.R j).ra) ((g.R j).n) ((g.R j).cap)) rfl ?_
              refine wN_len (m := (g.R j).n) rfl ?_
              refine wN_c_gtr (a := ((g.R j).n : Int)) (b := 10) rfl rfl ?_
              refine wN_end ?_
              refine And.intro (fun q14 => ?_) (fun q14 => ?_)
              · have q14 : ((g.R j).n : Int) > 10 := of_decide_eq_true q14
                refine wN_seq ?_
                refine wN_mov (v := .bool true) rfl ?_
                refine wN_end ?_
                exact And.intro trivial (Exists.intro _ (And.intro rfl ⟨true, rfl, hk, fun e => by cases e⟩))
              · have q14 : ¬ (((g.R j).n : Int) > 10) := of_decide_eq_false q14
                first | refine wN_skip ?_ | skip
                first | refine wN_reg ?_ | (refine wOps_nil ?_; refine wN_reg ?_)
                refine wN_add (a := (j : Int)) (b := 1) rfl rfl ⟨by omega, by omega⟩ ?_
                refine wN_mov (v := iv ((j : Int) + 1)) rfl ?_
                refine wN_end ?_
                exact ⟨k2 - 1, j + 1, by omega, ⟨by omega, kc, step_le (p := fun x => (g.R x).n) hrs (by show (g.R j).n ≤ 10; omega)⟩, rfl, by first | rfl | (rw [er]; rfl), rfl, rfl, trivial⟩
            · have q13 : ¬ ((j : Int) < (g.rn : Int)) := of_decide_eq_false q13
              refine wN_seq ?_
              refine wN_mov (v := .bool false) rfl ?_
              refine wN_end ?_
              exact And.intro trivial (Exists.intro _ (And.intro rfl ⟨false, rfl, hk, fun _ => ⟨by omega, by omega, fun h => by omega, fun x hx => hws x (by omega), fun x hx => hrs x (by omega)⟩⟩))
        · have g10 : (g.rn : Int) > 10 := of_decide_eq_true g10
          refine wN_pur (v := .bool true) rfl rfl ?_
          refine wN_end ?_
          refine condT ?_
          refine wN_seq ?_
          refine wN_mov (v := .bool true) rfl ?_
          refine wN_end ?_
          exact And.intro trivial (Exists.intro _ (And.intro rfl ⟨true, rfl, hk, fun e => by cases e⟩))
      · have g9 : (g.bn : Int) > 10 := of_decide_eq_true g9
        refine wN_pur (v := .bool true) rfl rfl ?_
        refine wN_mov (v := .bool true) rfl ?_
        refine wN_gs rfl ?_
        refine wN_gs rfl ?_
        refine wN_gs rfl ?_
        refine wN_gs rfl ?_
        refine wN_pur (v := .bool true) rfl rfl ?_
        refine wN_end ?_
        refine condT ?_
        refine wN_seq ?_
        refine wN_mov (v := .bool true) rfl ?_
        refine wN_end ?_
        exact And.intro trivial (Exists.intro _ (And.intro rfl ⟨true, rfl, hk, fun e => by cases e⟩))
    · have g8 : (g.bn : Int) ≤ 7 := of_decide_eq_true g8
      refine wN_pur (v := .bool true) rfl rfl ?_
      refine wN_mov (v := .bool true) rfl ?_
      refine wN_gs rfl ?_
      refine wN_gs rfl ?_
      refine wN_gs rfl ?_
      refine wN_gs rfl ?_
      refine wN_pur (v := .bool true) rfl rfl ?_
      refine wN_mov (v := .bool true) rfl ?_
      refine wN_gs rfl ?_
      refine wN_gs rfl ?_
      refine wN_gs rfl ?_
      refine wN_gs rfl ?_
      refine wN_pur (v := .bool true) rfl rfl ?_
      refine wN_end ?_
      refine condT ?_
      refine wN_seq ?_
      refine wN_mov (v := .bool true) rfl ?_
      refine wN_end ?_
      exact And.intro trivial (Exists.intro _ (And.intro rfl ⟨true, rfl, hk, fun e => by cases e⟩))
end
end Go.Ax

/-
  Flood: what FloodOwns keeps (34) (written by program).
-/
namespace Go.Ax
open Go Go.RowKit Go.Proofs

theorem acc_app {b0 lo f : Nat} {H : Hp} {v : Value} {a b c : List Int} {k m : Nat} (h : AccB b0 lo f 3 H v (k + m) (ints a ++ ints b)) (hk : k = a.length) (hm : m = b.length) (e : c = a ++ b) : AccB b0 lo f 3 H v c.length (ints c) := by
  subst e hk hm
  rw [List.length_append, ints_app]; exact h
section
variable {kn : FuncId → Option Bool} {lo : Nat} {H : Hp}
set_option maxRecDepth 100000 in
theorem flat_ok {g : Fh} {f b2 b3 m cap q : Nat} {sa : Option Addr} {us : List Int} (hat : g.At f H) (gg : g.GG q) (c2 : Rd H b2 g.v) (c3 : Rd H b3 [.slice sa m cap]) (hlf : Lf H sa m cap us) (hm : m ≤ 12) (hlo : lo ≤ H.next) :
    ∃ w H', FnX Try.prog kn lo 34 [pt b3, pt b2] H w H' ∧ Keep H H' [] ∧ AccB H.next lo H.next 3 H' w (g.fl us).length (ints (g.fl us)) := by
  refine fnX_low (kn := kn) (lo := lo) (H := H) (args := [pt b3, pt b2]) (Q := fun w H' => Keep H H' [] ∧ AccB H.next lo H.next 3 H' w (g.fl us).length (ints (g.fl us))) Try.func34 B34 N34 Z34 L34 (by simp) ?_
  have hfl := hat.le
  have hus := hlf.len
  have hbl := hat.bl
  have hrl := hat.rl
  have g1 := gg.b
  have g2 := gg.r
  have rowlen : ∀ j, j ≤ g.rn → ((g.rs.take j).flatMap Rw.l).length ≤ j * 10 := fun j hj => flat_lenI (f := Rw.l) j (fun x r hx e => by
    have h1 : x < g.rn := by omega
    have h2 := getR (g := g) (i := x) (by omega)
    rw [h2] at e; cases e
    have h3 := (hat.row h1).2.1
    have h4 := gg.n x h1
    omega)
  have worklen : ∀ x, x < g.bn → ∀ k, (((g.B x).ws.take k).flatMap fun s : Int × Int => [s.1, s.2]).length ≤ 16 := fun x hx k => by
    have h3 := (hat.wrk hx).2.1
    have h4 := gg.w x hx
    have h5 : ∀ (l : List (Int × Int)), (l.flatMap fun s : Int × Int => [s.1, s.2]).length = l.length * 2 := fun l => by
      induction l with
      | nil => rfl
      | cons a r ih => simp only [List.flatMap_cons, List.length_append, ih, List.length_cons, List.length_nil]; omega
    rw [h5]
    have : ((g.B x).ws.take k).length ≤ (g.B x).ws.length := by rw [List.length_take]; omega
    omega
  have bedlen : ∀ i, i ≤ g.bn → ((g.bs.take i).flatMap Bg.nums).length ≤ i * 19 := fun i hi => flat_lenI (f := Bg.nums) i (fun x r hx e => by
    have h1 : x < g.bn := by omega
    have h2 := getB (g := g) (i := x) (by omega)
    rw [h2] at e; cases e
    have h3 := worklen x h1 (g.B x).ws.length
    rw [List.take_of_length_le (Nat.le_refl _)] at h3
    unfold Bg.nums
    simp only [List.length_cons]
    omega)
  refine wN_seq ?_
  refine wN_mov (v := .slice none 0 0) rfl ?_
  refine wN_end ?_
  refine wN_seq ?_
  obtain ⟨H1, hH1⟩ : ∃ H1, H.new (.cells [] 3 false) = H1 := ⟨_, rfl⟩
  refine wN_memh (H' := H1) (k := .heavy) rfl (by kernel_rfl) ((heap_build0 se26 zo3).trans (by rw [← hH1])) (fun b e => by cases e) ?_
  have gH1 := new_get hH1
  obtain ⟨k1, n1, _⟩ := new_facts hH1
  refine wN_ld (b := b3) (o := 0) (v := .slice sa m cap) rfl (k1.rd c3 (by simp)) rfl ?_
  obtain ⟨v2, H2, kd2, e2, d2, a2, k2⟩ := heap_append_first (P := Try.prog) (lo := lo) (f := H.next) (t1 := 26) se26 u26 (k1.sl0 hlf.sl) (by rw [ints_len]; omega) (by omega) (by decide) gH1 (by omega) (by omega) (by omega) (Nat.le_refl _)
  refine wN_memh (k := kd2) rfl (by kernel_rfl) (e2 _ _ _ _ _ _ _ rfl rfl) (fun b e => by rcases d2 with h | h <;> exact Kd.noConfusion (h.symm.trans e)) ?_
  refine wN_mov (v := v2) rfl ?_
  refine wN_end ?_
  have k02 := k1.trans k2
  have a2 : AccB H.next lo H.next 3 H2 v2 (us ++ (g.rs.take 0).flatMap Rw.l).length (ints (us ++ (g.rs.take 0).flatMap Rw.l)) := by
    simp only [List.take_zero, List.flatMap_nil, List.append_nil]; rw [hus]; exact a2
  refine wN_seq ?_
  refine wN_addo (b := b2) (o := 0) rfl ?_
  refine wN_ld (b := b2) (o := 0 + 1) (v := .slice g.ra g.rn g.rcap) rfl (k02.rd c2 (by simp)) rfl ?_
  refine wN_len (m := g.rn) rfl ?_
  refine wN_mov (v := iv 0) rfl ?_
  refine wN_end ?_
  refine loop_low (fn := Try.f34) E34_1 N34 L34x1 (fun x : Nat × Value => [(0, pt b3), (1, pt b2), (3, x.2), (14, .slice g.ra g.rn g.rcap), (15, iv (g.rn : Int)), (16, iv (x.1 : Int))])
    (fun q x H' => x.1 + q = g.rn ∧ Keep H H' [] ∧ AccB H.next lo H.next 3 H' x.2 (us ++ (g.rs.take x.1).flatMap Rw.l).length (ints (us ++ (g.rs.take x.1).flatMap Rw.l))) g.rn (0, v2) ⟨by show 0 + g.rn = g.rn; omega, k02, a2⟩ ⟨rfl, rfl, rfl, rfl, rfl, rfl, trivial⟩ ?_
  rintro p ⟨j, v⟩ L1 ⟨hjp, hk, ac⟩
  simp only at hjp ac
  have hat1 := hat.keep hk (by simp)
  have m1 := hk.1
  refine wN_seq ?_
  refine wN_c_lss (a := (j : Int)) (b := (g.rn : Int)) rfl rfl ?_
  refine wN_end ?_
  refine And.intro (fun q1 => ?_) (fun q1 => ?_)
  · have q1 : (j : Int) < (g.rn : Int) := of_decide_eq_true q1
    have hj : j < g.rn := by omega
    have hrj := getR (g := g) (i := j) (by omega)
    obtain ⟨xr, er, rr, _⟩ := hat1.rts (by omega)
    obtain ⟨hsr, hlr, _⟩ := hat1.row hj
    rw [er]
    first | refine wN_skip ?_ | skip
    refine wN_seq ?_
    refine wN_idx (b := xr) (o := 0) (k := j) (j := (j : Int)) rfl rfl rfl hj ?_
    refine wN_ld (b := xr) (o := 0 + j * 1) (v := .slice ((g.R j).ra) ((g.R j).n) ((g.R j).cap)) rfl rr (rwc_row hrj) ?_
    refine wN_mov (v := .slice ((g.R j).ra) ((g.R j).n) ((g.R j).cap)) rfl ?_
    refine wN_end ?_
    first | refine wN_reg ?_ | refine wN_blk ?_ | (refine wOps_nil ?_; refine wN_reg ?_)
    refine wN_mov (v := v) rfl ?_
    refine wN_mov (v := .slice ((g.R j).ra) ((g.R j).n) ((g.R j).cap)) rfl ?_
    have hb := rowlen j (by omega)
    have hn := gg.n j hj
    obtain ⟨v3, H3, kd3, e3, d3, a3, k3, _⟩ := heap_append_many (P := Try.prog) (lo := lo) (t1 := 26) se26 u26 hsr (by rw [ints_len]; omega) (by decide) (ints_one _) (by rw [ints_len, Nat.mul_one]) (by rw [List.length_append]; omega) ac (by omega) (by omega)
    refine wN_memh (k := kd3) rfl (by kernel_rfl) (e3 _ _ _ _ _ _ _ rfl rfl) (fun b e => absurd e (d3 b)) ?_
    refine wN_mov (v := v3) rfl ?_
    refine wN_end ?_
    first | refine wN_reg ?_ | refine wN_blk ?_ | (refine wOps_nil ?_; refine wN_reg ?_)
    refine wN_add (a := (j : Int)) (b := 1) rfl rfl ⟨by omega, by omega⟩ ?_
    refine wN_mov (v := iv ((j : Int) + 1)) rfl ?_
    refine wN_end ?_
    exact ⟨p - 1, (j + 1, v3), by omega, ⟨by show j + 1 + (p - 1) = g.rn; omega, KeepB.to hk k3, acc_app a3 rfl hlr.symm (by rw [flat_take hrj, List.append_assoc])⟩, rfl, rfl, rfl, by first | rfl | (rw [er]; rfl), rfl, rfl, trivial⟩
  · have q1 : ¬ ((j : Int) < (g.rn : Int)) := of_decide_eq_false q1
    rw [show j = g.rn by omega, List.take_of_length_le (by omega)] at ac
    have hR := rowlen g.rn (Nat.le_refl _)
    rw [List.take_of_length_le (by omega)] at hR
    refine wN_seq ?_
    refine wN_addo (b := b2) (o := 0) rfl ?_
    refine wN_ld (b := b2) (o := 0 + 0) (v := .slice g.ba g.bn g.bcap) rfl (hk.rd c2 (by simp)) rfl ?_
    refine wN_len (m := g.bn) rfl ?_
    refine wN_mov (v := iv 0) rfl ?_
    refine wN_end ?_
    refine loop_low (fn := Try.f34) E34_2 N34 L34x2 (fun x : Nat × Value => [(0, pt b3), (1, pt b2), (3, x.2), (25, .slice g.ba g.bn g.bcap), (26, iv (g.bn : Int)), (27, iv (x.1 : Int))])
      (fun q x H' => x.1 + q = g.bn ∧ Keep H H' [] ∧ AccB H.next lo H.next 3 H' x.2 (us ++ g.rs.flatMap Rw.l ++ (g.bs.take x.1).flatMap Bg.nums).length (ints (us ++ g.rs.flatMap Rw.l ++ (g.bs.take x.1).flatMap Bg.nums))) g.bn (0, v) ⟨by show 0 + g.bn = g.bn; omega, hk, by simp only [List.take_zero, List.flatMap_nil, List.append_nil]; exact ac⟩ ⟨rfl, rfl, rfl, rfl, rfl, rfl, trivial⟩ ?_
    rintro p ⟨i, v⟩ L2 ⟨hip, hk, ac⟩
    simp only at hip ac
    have hat2 := hat.keep hk (by simp)
    have m2 := hk.1
    refine wN_seq ?_
    refine wN_c_lss (a := (i : Int)) (b := (g.bn : Int)) rfl rfl ?_
    refine wN_end ?_
    refine And.intro (fun q2 => ?_) (fun q2 => ?_)
    · have q2 : (i : Int) < (g.bn : Int) := of_decide_eq_true q2
      have hi : i < g.bn := by omega
      have hbi := getB (g := g) (i := i) (by omega)
      have hbd := bedlen i (by omega)
      obtain ⟨xb, eb, rb, _⟩ := hat2.bog (by omega)
      rw [eb]
      first | refine wN_skip ?_ | skip
      refine wN_seq ?_
      refine wN_idx (b := xb) (o := 0) (k := i) (j := (i : Int)) rfl rfl rfl hi ?_
      refine wN_lda (b := xb) (o := 0 + i * 4) rfl rb (bgc_row hbi) ?_
      refine wN_alc ?_
      intro H3 k3 n3 c3'
      refine wN_sta (b := L2.next) (o := 0) (v := .agg (g.B i).f.toArray) rfl rfl c3' (by omega) rfl rfl (by simp) ?_
      intro H4 k4 n4 c4
      have c4 : Cl H4 L2.next (g.B i).f := c4
      have k24 : Keep L2 H4 [] := k3.new k4 (fun b q => by simp at q; omega)
      have m4 := k24.1
      have ac4 := ac.keep k24
      refine wN_end ?_
      refine wN_seq ?_
      refine wN_mov (v := v) rfl ?_
      refine wN_addo (b := L2.next) (o := 0) rfl ?_
      refine wN_ld (b := L2.next) (o := 0 + 0) (v := iv (g.B i).need) rfl c4.rd rfl ?_
      refine wN_addo (b := L2.next) (o := 0) rfl ?_
      refine wN_addo (b := L2.next) (o := 0 + 1) rfl ?_
      refine wN_ld (b := L2.next) (o := 0 + 1 + 0) (v := iv (g.B i).l1) rfl c4.rd rfl ?_
      refine wN_addo (b := L2.next) (o := 0) rfl ?_
      refine wN_addo (b := L2.next) (o := 0 + 1) rfl ?_
      refine wN_ld (b := L2.next) (o := 0 + 1 + 1) (v := iv (g.B i).l2) rfl c4.rd rfl ?_
      have e5 := fun (m : Nat) (S : Rg) (d : Option Tmp) (p q r : Operand) (ty : TypeId) (s : String) => heap_build3 (lo := lo) (n := m) (S := S) (H := H4) (d := d) (x := p) (y := q) (z := r) (ty := ty) (p := s) (a := (g.B i).need) (b := (g.B i).l1) (c := (g.B i).l2)
      refine wN_memh (k := .heavy) rfl (by kernel_rfl) (e5 _ _ _ _ _ _ _ _ rfl rfl rfl) (fun x e => by cases e) ?_
      generalize hH5 : H4.new _ = H5
      obtain ⟨k5, n5, c5⟩ := new_facts hH5
      have m5 := k5.1
      obtain ⟨v6, H6, kd6, e6, d6, a6, k6, o6⟩ := heap_append_many (P := Try.prog) (lo := lo) (t1 := 26) se26 u26 (c5.sl (Nat.le_refl 3)) rfl (by decide) (ints_one _) (by rw [ints_len, Nat.mul_one]) (by rw [List.length_append, List.length_append]; omega) (ac4.keep k5) (by omega) (by omega)
      refine wN_memh (k := kd6) rfl (by kernel_rfl) (e6 _ _ _ _ _ _ _ rfl rfl) (fun b e => absurd e (d6 b)) ?_
      refine wN_mov (v := v6) rfl ?_
      refine wN_end ?_
      have k06 : Keep H H6 [] := KeepB.to ((hk.trans k24).trans k5) k6
      have c6 : Cl H6 L2.next (g.B i).f := o6 _ _ (k5.cl c4 (by simp)) (ac.ne (Nat.le_refl _))
      have ac6 : AccB H.next lo H.next 3 H6 v6 (us ++ g.rs.flatMap Rw.l ++ (g.bs.take i).flatMap Bg.nums ++ [(g.B i).need, (g.B i).l1, (g.B i).l2] ++ (((g.B i).ws.take 0).flatMap fun s => [s.1, s.2])).length (ints (us ++ g.rs.flatMap Rw.l ++ (g.bs.take i).flatMap Bg.nums ++ [(g.B i).need, (g.B i).l1, (g.B i).l2] ++ (((g.B i).ws.take 0).flatMap fun s => [s.1, s.2]))) := acc_app a6 rfl rfl (by simp only [List.take_zero, List.flatMap_nil, List.append_nil])
      refine wN_seq ?_
      refine wN_addo (b := L2.next) (o := 0) rfl ?_
      refine wN_ld (b := L2.next) (o := 0 + 3) (v := .slice ((g.B i).wa) ((g.B i).wn) ((g.B i).wcap)) rfl c6.rd rfl ?_
      refine wN_len (m := (g.B i).wn) rfl ?_
      refine wN_mov (v := iv 0) rfl ?_
      refine wN_end ?_
      refine loop_low (fn := Try.f34) E34_3 N34 L34x3 (fun x : Nat × Value => [(0, pt b3), (1, pt b2), (3, x.2), (25, .slice g.ba g.bn g.bcap), (26, iv (g.bn : Int)), (27, iv (i : Int)), (43, .slice ((g.B i).wa) ((g.B i).wn) ((g.B i).wcap)), (44, iv ((g.B i).wn : Int)), (45, iv (x.1 : Int))])
        (fun q x H' => x.1 + q = (g.B i).wn ∧ Keep H H' [] ∧ AccB H.next lo H.next 3 H' x.2 (us ++ g.rs.flatMap Rw.l ++ (g.bs.take i).flatMap Bg.nums ++ [(g.B i).need, (g.B i).l1, (g.B i).l2] ++ (((g.B i).ws.take x.1).flatMap fun s => [s.1, s.2])).length (ints (us ++ g.rs.flatMap Rw.l ++ (g.bs.take i).flatMap Bg.nums ++ [(g.B i).need, (g.B i).l1, (g.B i).l2] ++ (((g.B i).ws.take x.1).flatMap fun s => [s.1, s.2])))) (g.B i).wn (0, v6) ⟨by show 0 + (g.B i).wn = _; omega, k06, ac6⟩ ⟨rfl, rfl, rfl, by first | rfl | (rw [eb]; rfl), rfl, rfl, rfl, rfl, rfl, trivial⟩ ?_
      rintro p2 ⟨k, v⟩ L3 ⟨hkp, hk, ac⟩
      simp only at hkp ac
      have hat3 := hat.keep hk (by simp)
      have m3 := hk.1
      refine wN_seq ?_
      refine wN_c_lss (a := (k : Int)) (b := ((g.B i).wn : Int)) rfl rfl ?_
      refine wN_end ?_
      refine And.intro (fun q3 => ?_) (fun q3 => ?_)
      · have q3 : (k : Int) < ((g.B i).wn : Int) := of_decide_eq_true q3
        have hki : k < (g.B i).wn := by omega
        obtain ⟨hsw, hlw, _⟩ := hat3.wrk hi
        have hsk := getS (b := g.B i) (i := k) (by omega)
        have hw := worklen i hi k
        have hw8 := gg.w i hi
        rcases hsw with ⟨_, h0, _⟩ | ⟨xw, ew, rw_, _⟩
        · omega
        rw [ew]
        first | refine wN_skip ?_ | skip
        refine wN_seq ?_
        refine wN_idx (b := xw) (o := 0) (k := k) (j := (k : Int)) rfl rfl rfl hki ?_
        refine wN_lda (b := xw) (o := 0 + k * 2) rfl rw_ (spc_row hsk) ?_
        refine wN_alc ?_
        intro H7 k7 n7 c7
        refine wN_sta (b := L3.next) (o := 0) (v := .agg #[iv ((g.B i).S k).1, iv ((g.B i).S k).2]) rfl rfl c7 (by omega) rfl rfl (by simp) ?_
        intro H8 k8 n8 c8
        have c8 : Cl H8 L3.next [iv ((g.B i).S k).1, iv ((g.B i).S k).2] := c8
        have k38 : Keep L3 H8 [] := k7.new k8 (fun b q => by simp at q; omega)
        have m8 := k38.1
        refine wN_end ?_
        first | refine wN_reg ?_ | refine wN_blk ?_ | (refine wOps_nil ?_; refine wN_reg ?_)
        refine wN_mov (v := v) rfl ?_
        refine wN_addo (b := L3.next) (o := 0) rfl ?_
        refine wN_ld (b := L3.next) (o := 0 + 0) (v := iv ((g.B i).S k).1) rfl c8.rd rfl ?_
        refine wN_addo (b := L3.next) (o := 0) rfl ?_
        refine wN_ld (b := L3.next) (o := 0 + 1) (v := iv ((g.B i).S k).2) rfl c8.rd rfl ?_
        have e9 := fun (m : Nat) (S : Rg) (d : Option Tmp) (p q : Operand) (ty : TypeId) (s : String) => heap_build2 (lo := lo) (n := m) (S := S) (H := H8) (d := d) (x := p) (y := q) (ty := ty) (p := s) (a := ((g.B i).S k).1) (b := ((g.B i).S k).2)
        refine wN_memh (k := .heavy) rfl (by kernel_rfl) (e9 _ _ _ _ _ _ _ rfl rfl) (fun x e => by cases e) ?_
        generalize hH9 : H8.new _ = H9
        obtain ⟨k9, n9, c9⟩ := new_facts hH9
        have m9 := k9.1
        obtain ⟨v10, H10, kd10, e10, d10, a10, k10, _⟩ := heap_append_many (P := Try.prog) (lo := lo) (t1 := 26) se26 u26 (c9.sl (Nat.le_refl 2)) rfl (by decide) (ints_one _) (by rw [ints_len, Nat.mul_one]) (by simp only [List.length_append, List.length_cons, List.length_nil]; omega) ((ac.keep k38).keep k9) (by omega) (by omega)
        refine wN_memh (k := kd10) rfl (by kernel_rfl) (e10 _ _ _ _ _ _ _ rfl rfl) (fun b e => absurd e (d10 b)) ?_
        refine wN_mov (v := v10) rfl ?_
        refine wN_end ?_
        first | refine wN_reg ?_ | refine wN_blk ?_ | (refine wOps_nil ?_; refine wN_reg ?_)
        refine wN_add (a := (k : Int)) (b := 1) rfl rfl ⟨by omega, by omega⟩ ?_
        refine wN_mov (v := iv ((k : Int) + 1)) rfl ?_
        refine wN_end ?_
        exact ⟨p2 - 1, (k + 1, v10), by omega, ⟨by show k + 1 + (p2 - 1) = (g.B i).wn; omega, KeepB.to ((hk.trans k38).trans k9) k10, acc_app a10 rfl rfl (by rw [flat_take hsk, List.append_assoc]; simp only [List.append_assoc])⟩, rfl, rfl, rfl, rfl, rfl, rfl, by first | rfl | (rw [ew]; rfl), rfl, rfl, trivial⟩
      · have q3 : ¬ ((k : Int) < ((g.B i).wn : Int)) := of_decide_eq_false q3
        have hlw := (hat3.wrk hi).2.1
        rw [show k = (g.B i).wn by omega, List.take_of_length_le (l := (g.B i).ws) (by omega)] at ac
        change wOps _ _ _ _ _ _ _ _
        refine wN_add (a := (i : Int)) (b := 1) rfl rfl ⟨by omega, by omega⟩ ?_
        refine wN_mov (v := iv ((i : Int) + 1)) rfl ?_
        refine wN_end ?_
        exact ⟨p - 1, (i + 1, v), by omega, ⟨by show i + 1 + (p - 1) = g.bn; omega, hk, by
          have e : us ++ g.rs.flatMap Rw.l ++ (g.bs.take (i + 1)).flatMap Bg.nums = us ++ g.rs.flatMap Rw.l ++ (g.bs.take i).flatMap Bg.nums ++ [(g.B i).need, (g.B i).l1, (g.B i).l2] ++ ((g.B i).ws.flatMap fun s => [s.1, s.2]) := by
            rw [flat_take hbi]; simp only [List.append_assoc]; rfl
          show AccB H.next lo H.next 3 L3 v (us ++ g.rs.flatMap Rw.l ++ (g.bs.take (i + 1)).flatMap Bg.nums).length (ints (us ++ g.rs.flatMap Rw.l ++ (g.bs.take (i + 1)).flatMap Bg.nums))
          rw [e]; exact ac⟩, rfl, rfl, rfl, by first | rfl | (rw [eb]; rfl), rfl, rfl, trivial⟩
    · have q2 : ¬ ((i : Int) < (g.bn : Int)) := of_decide_eq_false q2
      rw [show i = g.bn by omega, List.take_of_length_le (by omega)] at ac
      refine wN_seq ?_
      refine wN_mov (v := v) rfl ?_
      refine wN_mov (v := v) rfl ?_
      refine wN_end ?_
      exact And.intro trivial (Exists.intro _ (And.intro rfl ⟨hk, ac⟩))
end
end Go.Ax

/-
  Flood: the law FloodOwns, whatever the input (written by program).
-/
namespace Go.Ax
open Go Go.RowKit Go.Proofs

theorem AccB.sl {b0 lo f : Nat} {e : TypeId} {H : Hp} {v : Value} {n : Nat} {cs : List Value} (h : AccB b0 lo f e H v n cs) (hf : f ≤ b0) : ∃ a c, v = .slice a n c ∧ Sl H a n c cs ∧ ∀ b, a = some ⟨b, 0, none⟩ → f ≤ b := by
  rcases h with ⟨rfl, rfl, rfl, hb, e0, hg⟩ | ⟨b, rfl, h0, hf, hl, hn, hg⟩
  · exact ⟨_, _, rfl, .inr ⟨b0, rfl, ⟨hb, by unfold cellsOf; rw [hg]⟩, Nat.le_refl _⟩, fun b e => by cases e; exact hf⟩
  · exact ⟨_, _, rfl, .inr ⟨b, rfl, ⟨hn, by unfold cellsOf; rw [hg]⟩, Nat.le_refl _⟩, fun b e => by cases e; exact hf⟩
/-- the list that Best returns -/
def Fh.bo (g : Fh) : List Int := if g.be = 0 then (match g.fst with | some o => zi o | none => []) else []
theorem RB_v {g : Fh} {f f0 : Nat} {w : Value} {H H0 : Hp} (hat : g.At f0 H0) (h : RB g f w H) : ∃ bs, w = .tuple #[.slice bs g.bo.length g.bo.length, iv g.be] ∧ g.bo.length ≤ 7 ∧ ((bs = none ∧ g.bo = []) ∨ ∃ sb, bs = some ⟨sb, 0, none⟩ ∧ f ≤ sb ∧ Sc H sb (ints g.bo)) := by
  rcases h with ⟨h1, rfl⟩ | ⟨h1, hok, sb, o, rfl, h2, h3, h4, h5, _⟩
  · have e : g.bo = [] := by unfold Fh.bo; rw [if_neg h1]
    exact ⟨none, by rw [e]; rfl, by rw [e]; decide, .inl ⟨rfl, e⟩⟩
  · have e : g.bo = zi o := by unfold Fh.bo; rw [if_pos h1, h2]
    have v := (Fh.vd hok hat).n
    exact ⟨some ⟨sb, 0, none⟩, by rw [e, zi_len, h5, h1], by rw [e, zi_len, h5]; omega, .inr ⟨sb, rfl, h3, by rw [e]; exact h4⟩⟩
section
variable {kn : FuncId → Option Bool} {lo : Nat} {H : Hp}
theorem fl_len {g : Fh} {f m cap : Nat} {sa : Option Addr} {us : List Int} {q : Nat} (gg : g.GG q) (hat : g.At f H) (hlf : Lf H sa m cap us) (hm : m ≤ 12) : (g.fl us).length ≤ 1000 := by
  have hbl := hat.bl
  have hrl := hat.rl
  have g1 := gg.b
  have g2 := gg.r
  have h1 := flat_lenI (f := Rw.l) (l := g.rs) (m := 10) g.rn (fun x r hx e => by
    have h2 := getR (g := g) (i := x) (by omega)
    rw [h2] at e; cases e
    have h3 := (hat.row hx).2.1
    have h4 := gg.n x hx
    omega)
  have h2 := flat_lenI (f := Bg.nums) (l := g.bs) (m := 19) g.bn (fun x r hx e => by
    have h2 := getB (g := g) (i := x) (by omega)
    rw [h2] at e; cases e
    have h3 := (hat.wrk hx).2.1
    have h4 := gg.w x hx
    have h5 : ∀ (l : List (Int × Int)), (l.flatMap fun s : Int × Int => [s.1, s.2]).length = l.length * 2 := fun l => by
      induction l with
      | nil => rfl
      | cons a r ih => simp only [List.flatMap_cons, List.length_append, ih, List.length_cons, List.length_nil]; omega
    unfold Bg.nums
    simp only [List.length_cons, h5]
    omega)
  rw [List.take_of_length_le (by omega)] at h1 h2
  have := hlf.len
  unfold Fh.fl
  simp only [List.length_append]
  omega
set_option maxRecDepth 100000 in
set_option maxHeartbeats 4000000 in
theorem law_owns (hkn : kn 13 = some true) {g : Fh} {f m cap : Nat} {sa : Option Addr} {us : List Int} (hat : g.At f H) (hlf : Lf H sa m cap us) (hlo : lo ≤ H.next) : ∃ H', FnX Try.prog kn lo 11 [.agg g.v.toArray, .slice sa m cap] H (.bool true) H' := by
  have key := fnX_low (kn := kn) (lo := lo) (H := H) (args := [.agg g.v.toArray, .slice sa m cap]) (Q := fun w H' => w = .bool true) Try.func11 B11 N11 Z11 L11 (by simp) ?_
  · obtain ⟨w, H', h, rfl⟩ := key; exact ⟨H', h⟩
  have hfl := hat.le
  have flf : ∀ b, sa = some ⟨b, 0, none⟩ → b < H.next := hlf.old
  refine wN_seq ?_
  refine wN_box (v := .agg g.v.toArray) rfl ?_
  intro H1 k1 n1 c1
  have c1 : Cl H1 H.next g.v := c1
  refine wN_box (v := .slice sa m cap) rfl ?_
  intro H2 k2 n2 c2
  have c2 : Cl H2 H1.next [.slice sa m cap] := c2
  have c1 := k2.cl c1 (by simp)
  have kk := k1.trans k2
  have hat := hat.keep kk (by simp)
  have hlf := kk.lf hlf (fun _ _ => by simp)
  refine wN_mov (v := .bool false) rfl ?_
  refine wN_end ?_
  refine wN_seq ?_
  refine wN_lda (b := H.next) (o := 0) rfl c1.rd (show row 5 _ 0 = some g.v from rfl) ?_
  obtain ⟨_, H3, f3, tg, rfl, k3, hgr⟩ := great2_ok (kn := kn) (lo := lo) (H := H2) (q := 5) hat (by omega)
  refine wN_callf rfl (callX_args f3) ?_
  have mk3 := k3.1
  have hat := hat.keep k3 (by simp)
  have hlf := k3.lf hlf (fun _ _ => by simp)
  have c1 := k3.cl c1 (by simp)
  have c2 := k3.cl c2 (by simp)
  cases tg
  rotate_left
  · refine wN_mov (v := .bool true) rfl ?_
    refine wN_gs rfl ?_
    refine wN_gs rfl ?_
    refine wN_gs rfl ?_
    refine wN_pur (v := .bool true) rfl rfl ?_
    refine wN_end ?_
    refine condT ?_
    refine wN_seq ?_
    refine wN_callf (vs := []) rfl (callX_known hkn) ?_
    refine wN_mov (v := .bool true) rfl ?_
    refine wN_end ?_
    exact And.intro trivial (Exists.intro _ (And.intro rfl rfl))
  have gg := hgr rfl
  refine wN_mov (v := .bool false) rfl ?_
  refine wN_g rfl (wN_ld (b := H1.next) (o := 0) (v := .slice sa m cap) rfl c2.rd rfl ?_)
  refine wN_g rfl (wN_len (m := m) rfl ?_)
  refine wN_g rfl (wN_b_gtr (a := (m : Int)) (b := 12) rfl rfl ?_)
  intro tq hq; cases tq
  rotate_left
  · refine wN_pur (v := .bool true) rfl rfl ?_
    refine wN_end ?_
    refine condT ?_
    refine wN_seq ?_
    refine wN_callf (vs := []) rfl (callX_known hkn) ?_
    refine wN_mov (v := .bool true) rfl ?_
    refine wN_end ?_
    exact And.intro trivial (Exists.intro _ (And.intro rfl rfl))
  have hm : ¬ (m : Int) > 12 := of_decide_eq_false hq
  refine wN_pur (v := .bool false) rfl (rfl) ?_
  refine wN_end ?_
  refine condF ?_
  first | refine wN_skip ?_ | skip
  refine wN_seq ?_
  refine wN_pur (v := .func (.func 34) #[] #[pt H1.next, pt H.next]) rfl (by kernel_rfl) ?_
  refine wN_mov (v := .func (.func 34) #[] #[pt H1.next, pt H.next]) rfl ?_
  refine wN_end ?_
  refine wN_seq ?_
  refine wN_mov (v := .func (.func 34) #[] #[pt H1.next, pt H.next]) rfl ?_
  obtain ⟨w4, H4, f4, k4, ac⟩ := flat_ok (kn := kn) (lo := lo) (H := H3) hat gg c1.rd c2.rd hlf (by omega) (by omega)
  refine wN_callf (vs := []) rfl (callX_func rfl (by simpa using f4)) ?_
  have mk4 := k4.1
  have hat := hat.keep k4 (by simp)
  have hlf := k4.lf hlf (fun _ _ => by simp)
  have c1 := k4.cl c1 (by simp)
  have c2 := k4.cl c2 (by simp)
  obtain ⟨a4, z4, rfl, s4, _⟩ := ac.sl (Nat.le_refl _)
  have u4 : ∀ b, a4 = some ⟨b, 0, none⟩ → b < H4.next := s4.old
  have hL : (g.fl us).length ≤ 1000 := fl_len gg hat hlf (by omega)
  refine wN_mov (v := .slice a4 (g.fl us).length z4) rfl ?_
  refine wN_end ?_
  refine wN_seq ?_
  refine wN_lda (b := H.next) (o := 0) rfl c1.rd (show row 5 _ 0 = some g.v from rfl) ?_
  obtain ⟨w5, H5, f5, k5, hb⟩ := Best_ok (kn := kn) (lo := lo) (H := H4) hat (by omega)
  refine wN_callf (vs := [.agg g.v.toArray]) rfl (callX_args f5) ?_
  obtain ⟨bs, rfl, hbn, hS⟩ := RB_v hat hb
  have mk5 := k5.1
  have hat := hat.keep k5 (by simp)
  have hlf := k5.lf hlf (fun _ _ => by simp)
  have c1 := k5.cl c1 (by simp)
  have c2 := k5.cl c2 (by simp)
  have s4 := k5.sl0 s4
  obtain ⟨nb, hnb⟩ : ∃ nb, nb = g.bo.length := ⟨_, rfl⟩
  rw [← hnb]
  refine wN_mov (v := .tuple #[.slice bs nb nb, iv g.be]) rfl ?_
  refine wN_pur (v := .slice bs nb nb) rfl (by kernel_rfl) ?_
  refine wN_pur (v := iv g.be) rfl (by kernel_rfl) ?_
  refine wN_mov (v := .slice bs nb nb) rfl ?_
  refine wN_mov (v := iv g.be) rfl ?_
  refine wN_end ?_
  have hSl : Sl H5 bs nb nb (ints g.bo) := by
    rcases hS with ⟨rfl, e⟩ | ⟨sb, rfl, _, hc⟩
    · rw [hnb, e]; exact .inl ⟨.inl rfl, rfl, rfl, rfl⟩
    · exact hc.cl.sl (Nat.le_refl _)
  obtain ⟨W, hW, hS⟩ : ∃ W : List Nat, (∀ b ∈ W, H4.next ≤ b ∧ b < H5.next) ∧ ((bs = none ∧ nb = 0) ∨ ∃ sb, bs = some ⟨sb, 0, none⟩ ∧ W = [sb] ∧ Sc H5 sb (ints g.bo)) := by
    rcases hS with ⟨rfl, e⟩ | ⟨sb, rfl, h1, hc⟩
    · exact ⟨[], fun b q => by simp at q, .inl ⟨rfl, by rw [hnb, e]; rfl⟩⟩
    · exact ⟨[sb], fun b q => by simp at q; subst q; exact ⟨h1, hc.lt⟩, .inr ⟨sb, rfl, rfl, hc⟩⟩
  refine wN_seq ?_
  obtain ⟨H6, hH6⟩ : ∃ H6, H5.new (.cells [] 3 false) = H6 := ⟨_, rfl⟩
  refine wN_memh (H' := H6) (k := .heavy) rfl (by kernel_rfl) ((heap_build0 se26 zo3).trans (by rw [← hH6])) (fun b e => by cases e) ?_
  have gH6 := new_get hH6
  obtain ⟨k6, n6, _⟩ := new_facts hH6
  refine wN_mov (v := .slice bs nb nb) rfl ?_
  obtain ⟨v7, H7, kd7, e7, d7, a7, k7⟩ := heap_append_first (P := Try.prog) (lo := lo) (f := H5.next) (t1 := 26) se26 u26 (k6.sl0 hSl) (by rw [ints_len, Nat.mul_one]; exact hnb.symm) (by omega) (by decide) gH6 (by omega) (by omega) (by omega) (Nat.le_refl _)
  refine wN_memh (k := kd7) rfl (by kernel_rfl) (e7 _ _ _ _ _ _ _ rfl rfl) (fun b e => by rcases d7 with h | h <;> exact Kd.noConfusion (h.symm.trans e)) ?_
  have k57 := k6.trans k7
  have mk57 := k57.1
  have hat := hat.keep k57 (by simp)
  have hlf := k57.lf hlf (fun _ _ => by simp)
  have c1 := k57.cl c1 (by simp)
  have c2 := k57.cl c2 (by simp)
  have s4 := k57.sl0 s4
  obtain ⟨a8, z8, rfl, s8, l8⟩ := a7.sl (Nat.le_refl _)
  have u8 : ∀ b, a8 = some ⟨b, 0, none⟩ → b < H7.next := s8.old
  refine wN_mov (v := .slice a8 nb z8) rfl ?_
  refine wN_end ?_
  refine wN_seq ?_
  refine wN_mov (v := .slice bs nb nb) rfl ?_
  refine wN_len (m := nb) rfl ?_
  refine wN_mov (v := iv 0) rfl ?_
  refine wN_end ?_
  refine loop_low (fn := Try.f11) E11_1 N11 L11x1 (fun i : Nat => [(2, pt H.next), (3, pt H1.next), (5, .func (.func 34) #[] #[pt H1.next, pt H.next]), (6, .slice a4 (g.fl us).length z4), (7, .slice bs nb nb), (8, iv g.be), (9, .slice a8 nb z8), (33, iv (nb : Int)), (34, iv (i : Int))])
    (fun q i H' => i + q = nb ∧ Keep H7 H' W ∧ ∀ sb, bs = some ⟨sb, 0, none⟩ → ∃ cs, Cl H' sb cs ∧ cs.length = nb) nb 0 ⟨by omega, Keep.refl _ _, fun sb e => by
      rcases hS with ⟨h0, _⟩ | ⟨sb2, e2, _, hc⟩
      · rw [h0] at e; cases e
      · rw [e2] at e; cases e; exact ⟨_, k57.cl hc.cl (by simp), by rw [ints_len]; exact hnb.symm⟩⟩ ⟨rfl, rfl, rfl, rfl, rfl, rfl, rfl, rfl, rfl, trivial⟩ ?_
  rintro q i L1 ⟨hiq, hkW, hcs⟩
  refine wN_seq ?_
  refine wN_c_lss (a := (i : Int)) (b := (nb : Int)) rfl rfl ?_
  refine wN_end ?_
  refine And.intro (fun q1 => ?_) (fun q1 => ?_)
  · have q1 : (i : Int) < (nb : Int) := of_decide_eq_true q1
    rcases hS with ⟨_, h0⟩ | ⟨sb, rfl, rfl, hc⟩
    · omega
    obtain ⟨cs, hcl, hln⟩ := hcs sb rfl
    have lsb := hW sb (by simp)
    first | refine wN_skip ?_ | skip
    refine wN_seq ?_
    refine wN_mov (v := iv (i : Int)) rfl ?_
    refine wN_mov (v := iv (i : Int)) rfl ?_
    refine wN_end ?_
    first | refine wN_reg ?_ | refine wN_blk ?_ | (refine wOps_nil ?_; refine wN_reg ?_)
    refine wN_mov (v := .slice (some ⟨sb, 0, none⟩) nb nb) rfl ?_
    refine wN_mov (v := iv (i : Int)) rfl ?_
    refine wN_idx (b := sb) (o := 0) (k := i) (j := (i : Int)) rfl rfl rfl (by omega) ?_
    refine wN_st (b := sb) (o := 0 + i * 1) (v := iv (-1)) rfl rfl hcl (by omega) rfl rfl (by omega) ?_
    intro H8 k8 n8 c8
    refine wN_end ?_
    first | refine wN_reg ?_ | refine wN_blk ?_ | (refine wOps_nil ?_; refine wN_reg ?_)
    refine wN_add (a := (i : Int)) (b := 1) rfl rfl ⟨by omega, by omega⟩ ?_
    refine wN_mov (v := iv ((i : Int) + 1)) rfl ?_
    refine wN_end ?_
    exact ⟨q - 1, i + 1, by omega, ⟨by omega, hkW.trans k8, fun sb2 e => by cases e; exact ⟨_, c8, by rw [List.length_set]; exact hln⟩⟩, rfl, rfl, rfl, rfl, rfl, rfl, rfl, rfl, rfl, trivial⟩
  have mW := hkW.1
  have hat := hat.keep hkW (fun x q => by have := hW x q; omega)
  have hlf := hkW.lf hlf (fun b e q => by have := hW b q; have := flf b e; omega)
  have c1 := hkW.cl c1 (fun q => by have := hW _ q; omega)
  have c2 := hkW.cl c2 (fun q => by have := hW _ q; omega)
  have s4 := hkW.sl s4 (fun b e q => by have := hW b q; have := u4 b e; omega)
  have s8 := hkW.sl s8 (fun b e q => by have := hW b q; have := l8 b e; omega)
  refine wN_seq ?_
  refine wN_lda (b := H.next) (o := 0) rfl c1.rd (show row 5 _ 0 = some g.v from rfl) ?_
  refine wN_ld (b := H1.next) (o := 0) (v := .slice sa m cap) rfl c2.rd rfl ?_
  obtain ⟨w9, H9, f9, k9, _⟩ := Times_v (kn := kn) (lo := lo) (H := L1) hat hlf (by omega)
  refine wN_callf (vs := [.agg g.v.toArray, .slice sa m cap]) rfl (callX_args f9) ?_
  have mk9 := k9.1
  have hat := hat.keep k9 (by simp)
  have hlf := k9.lf hlf (fun _ _ => by simp)
  have c1 := k9.cl c1 (by simp)
  have c2 := k9.cl c2 (by simp)
  have s4 := k9.sl0 s4
  have s8 := k9.sl0 s8
  refine wN_end ?_
  refine wN_seq ?_
  refine wN_lda (b := H.next) (o := 0) rfl c1.rd (show row 5 _ 0 = some g.v from rfl) ?_
  obtain ⟨w10, H10, f10, k10, _⟩ := Least_ok (kn := kn) (lo := lo) (H := H9) hat (by omega)
  refine wN_callf (vs := [.agg g.v.toArray]) rfl (callX_args f10) ?_
  have mk10 := k10.1
  have hat := hat.keep k10 (by simp)
  have hlf := k10.lf hlf (fun _ _ => by simp)
  have c1 := k10.cl c1 (by simp)
  have c2 := k10.cl c2 (by simp)
  have s4 := k10.sl0 s4
  have s8 := k10.sl0 s8
  refine wN_end ?_
  refine wN_seq ?_
  refine wN_lda (b := H.next) (o := 0) rfl c1.rd (show row 5 _ 0 = some g.v from rfl) ?_
  obtain ⟨w11, H11, f11, k11, hb2⟩ := Best_ok (kn := kn) (lo := lo) (H := H10) hat (by omega)
  refine wN_callf (vs := [.agg g.v.toArray]) rfl (callX_args f11) ?_
  obtain ⟨bs2, rfl, _, hS2⟩ := RB_v hat hb2
  have mk11 := k11.1
  have hat := hat.keep k11 (by simp)
  have hlf := k11.lf hlf (fun _ _ => by simp)
  have c1 := k11.cl c1 (by simp)
  have c2 := k11.cl c2 (by simp)
  have s4 := k11.sl0 s4
  have s8 := k11.sl0 s8
  rw [← hnb]
  have s12 : Sl H11 bs2 nb nb (ints g.bo) := by
    rcases hS2 with ⟨rfl, e⟩ | ⟨sb, rfl, _, hc⟩
    · rw [hnb, e]; exact .inl ⟨.inl rfl, rfl, rfl, rfl⟩
    · exact hc.cl.sl (Nat.le_refl _)
  refine wN_mov (v := .tuple #[.slice bs2 nb nb, iv g.be]) rfl ?_
  refine wN_pur (v := .slice bs2 nb nb) rfl (by kernel_rfl) ?_
  refine wN_pur (v := iv g.be) rfl (by kernel_rfl) ?_
  refine wN_mov (v := .slice bs2 nb nb) rfl ?_
  refine wN_mov (v := iv g.be) rfl ?_
  refine wN_end ?_
  refine wN_seq ?_
  refine wN_mov (v := .slice a4 (g.fl us).length z4) rfl ?_
  refine wN_mov (v := .func (.func 34) #[] #[pt H1.next, pt H.next]) rfl ?_
  obtain ⟨w13, H13, f13, k13, ac2⟩ := flat_ok (kn := kn) (lo := lo) (H := H11) hat gg c1.rd c2.rd hlf (by omega) (by omega)
  refine wN_callf (vs := []) rfl (callX_func rfl (by simpa using f13)) ?_
  have mk13 := k13.1
  have hat := hat.keep k13 (by simp)
  have hlf := k13.lf hlf (fun _ _ => by simp)
  have c1 := k13.cl c1 (by simp)
  have c2 := k13.cl c2 (by simp)
  have s4 := k13.sl0 s4
  have s8 := k13.sl0 s8
  have s12 := k13.sl0 s12
  obtain ⟨a14, z14, rfl, s14, _⟩ := ac2.sl (Nat.le_refl _)
  obtain ⟨H15, f15, k15⟩ := Ints_ok (kn := kn) (lo := lo) (H := H13) s4 s14 rfl hL
  refine wN_callf (vs := [.slice a4 (g.fl us).length z4, .slice a14 (g.fl us).length z14]) rfl (callX_args f15) ?_
  have s8 := k15.sl0 s8
  have s12 := k15.sl0 s12
  refine wN_mov (v := .bool true) rfl ?_
  refine wN_g rfl (wN_mov (v := .slice bs2 nb nb) rfl ?_)
  refine wN_g rfl (wN_mov (v := .slice a8 nb z8) rfl ?_)
  obtain ⟨H16, f16, k16⟩ := Ints_ok (kn := kn) (lo := lo) (H := H15) s12 s8 hnb.symm (by omega)
  refine wN_g rfl (wN_callf (vs := [.slice bs2 nb nb, .slice a8 nb z8]) rfl (callX_args f16) ?_)
  refine wN_pur (v := .bool true) rfl (rfl) ?_
  refine wN_mov (v := .bool true) rfl ?_
  refine wN_g rfl (wN_mov (v := iv g.be) rfl ?_)
  refine wN_g rfl (wN_mov (v := iv g.be) rfl ?_)
  refine wN_g rfl (wN_b_eql (a := g.be) (b := g.be) rfl rfl ?_)
  intro t22 ht22
  have ht22 : t22 = true := by rw [← ht22]; simp
  subst ht22
  refine wN_pur (v := .bool true) rfl (rfl) ?_
  refine wN_mov (v := .bool true) rfl ?_
  refine wN_g rfl (wN_callf (vs := []) rfl (callX_known hkn) ?_)
  refine wN_pur (v := .bool true) rfl (rfl) ?_
  refine wN_mov (v := .bool true) rfl ?_
  refine wN_end ?_
  exact And.intro trivial (Exists.intro _ (And.intro rfl rfl))
end
end Go.Ax

namespace Go.Ax
open Go Go.RowKit Go.Proofs Go.ChangeShapes Go.WideShapes Go.Deep

/-- A type whose cells are whole numbers. -/
def IntT (P : Program) (t : TypeId) : Prop := ∀ (H : Type) (enc : TypeId × Value → H) (w : World) (base : Nat) (spare : Nat → Bool) (held : Bool) (fuel : Nat) (cs : List Value) (x : DataW H × List MemPlace),
  DataW.trod enc P w base spare held fuel t cs = some x → cs.length = P.cellsOf t ∧ ∀ j, j < cs.length → ∃ n, cs[j]? = some (.int .i64 n)
theorem IntT.int {P : Program} {t : TypeId} (ht : P.underlying t = some (.int .i64)) (hc : P.cellsOf t = 1) : IntT P t := by
  intro H enc w base spare held fuel cs x h
  obtain ⟨n, rfl, _⟩ := DataW.trod_int ht h
  refine ⟨by rw [hc]; rfl, fun j hj => ⟨n, ?_⟩⟩
  have : j = 0 := by simp at hj; omega
  subst this; rfl
theorem IntT.struct {P : Program} {t : TypeId} {fs : Array Field} (ht : P.underlying t = some (.struct fs)) (hf : ∀ f ∈ fs.toList, IntT P f.type)
    (hcov : ((List.range (P.cellsOf t)).all fun j => fs.toList.any fun f => decide (f.offset ≤ j) && decide (j < f.offset + P.cellsOf f.type)) = true) : IntT P t := by
  intro H enc w base spare held fuel cs x h
  obtain ⟨xs, n, _, _, hlen, hxl, hg⟩ := DataW.trod_struct ht h
  refine ⟨hlen, fun j hj => ?_⟩
  have h1 := List.all_eq_true.1 hcov j (List.mem_range.2 (by omega))
  obtain ⟨f, hfm, h2⟩ := List.any_eq_true.1 h1
  simp only [Bool.and_eq_true, decide_eq_true_eq] at h2
  obtain ⟨i, hi, hfi⟩ := List.getElem_of_mem hfm
  have hfs : fs[i]? = some f := by
    rw [← Array.getElem?_toList, List.getElem?_eq_getElem hi, hfi]
  have hi2 : i < xs.length := by simpa [hxl] using hi
  have h3 := hg i f hfs
  rw [List.getElem?_eq_getElem hi2] at h3
  obtain ⟨h4, h5⟩ := hf f hfm _ _ _ _ _ _ _ _ _ h3
  obtain ⟨m, hm⟩ := h5 (j - f.offset) (by omega)
  refine ⟨m, ?_⟩
  rw [List.getElem?_take] at hm
  split at hm
  · rw [List.getElem?_drop, show f.offset + (j - f.offset) = j by omega] at hm; exact hm
  · cases hm

/-- A slice of rows of whole numbers, as it is given. -/
structure Given {α : Type} (w : World) (v : Value) (f : α → List Value) (l : List α) (x : Imp) : Prop where
  ok : ∀ (i : Nat) u, x.cs[i]? = some u → w.cell? ⟨x.blk, x.off + i, none⟩ = some u ∧ flat1 u = true
  cs : x.cs = l.flatMap f
  v : (v = .slice none 0 0 ∧ l = []) ∨ ∃ cap, v = .slice (some ⟨x.blk, x.off, none⟩) l.length cap ∧ l.length ≤ cap
theorem flat_get {α : Type} {f : α → List Value} {k : Nat} (hk : 0 < k) : ∀ {l : List α} (_ : ∀ x ∈ l, (f x).length = k) (i : Nat) (u : Value), (l.flatMap f)[i]? = some u → ∃ x, l[i / k]? = some x ∧ (f x)[i % k]? = some u
  | [], _, i, u, h => by simp at h
  | y :: r, hl, i, u, h => by
    have hy := hl y (List.mem_cons_self ..)
    rw [List.flatMap_cons, List.getElem?_append] at h
    split at h
    · rename_i q
      rw [hy] at q
      refine ⟨y, ?_, ?_⟩
      · rw [Nat.div_eq_of_lt q]; rfl
      · rw [Nat.mod_eq_of_lt q]; exact h
    · rename_i q
      rw [hy] at q h
      obtain ⟨x, h1, h2⟩ := flat_get hk (fun x hx => hl x (List.mem_cons_of_mem _ hx)) _ u h
      refine ⟨x, ?_, ?_⟩
      · rw [Nat.div_eq_sub_div hk (by omega)]; exact h1
      · rw [Nat.mod_eq_sub_mod (by omega)]; exact h2
theorem slice_given {H : Type} {enc : TypeId × Value → H} {P : Program} {w : World} {base b0 : Nat} {r : Reach} {held : Bool} {α : Type} (f : α → List Value) (mk : (Nat → Int) → α) (k : Nat) {t e : TypeId} {fuel : Nat} {v : Value} {x : DataW H × List MemPlace}
    (ht : P.underlying t = some (.slice e)) (hI : IntT P e) (hc : P.cellsOf e = k) (hk : 0 < k) (hmk : ∀ N : Nat → Int, f (mk N) = (List.range k).map fun j => Value.int .i64 (N j))
    (hok : Cell.okWide P w r b0 t v) (h : DataW.trod enc P w base (fun _ => true) held fuel t [v] = some x) : ∃ (l : List α) (y : Imp), Given w v f l y := by
  rcases open_slice ht h with ⟨h0, _⟩ | ⟨a, len, cap, m, n, D, Pl, hcs, hb, hl, hm, hmm, hx, hi⟩
  · cases h0
    exact ⟨[], ⟨0, 0, []⟩, fun i u e => by simp at e, rfl, .inl ⟨rfl, rfl⟩⟩
  · cases hcs
    obtain ⟨blk, off, spot⟩ := a
    have hs : spot = none := by
      unfold Cell.okWide at hok
      rw [ht] at hok
      unfold Cell.ok at hok
      simp only [ht] at hok
      exact hok.2.2.2.1
    subst hs
    simp only [if_true] at hmm
    subst hmm
    have hcell : ∀ i, i < len → ∀ j, j < k → ∃ n, w.cell? ⟨blk, off + (i * k + j), none⟩ = some (.int .i64 n) := by
      intro i hil j hj
      obtain ⟨cs', h1, h2⟩ := hi i (by omega)
      obtain ⟨h3, h4⟩ := hI _ _ _ _ _ _ _ _ _ h2
      obtain ⟨_, h5, h6⟩ := World.cells?_some h1
      obtain ⟨n, hn⟩ := h4 j (by omega)
      refine ⟨n, ?_⟩
      have h7 := h6 j (by omega)
      rw [hn, hc, add_add] at h7
      have e : (⟨blk, off, none⟩ : Addr).add (i * k + j) = ⟨blk, off + (i * k + j), none⟩ := by
        unfold Addr.add
        by_cases q : i * k + j = 0
        · simp [q]
        · simp
      rw [e] at h7
      exact h7
    refine ⟨(List.range len).map fun i => mk fun j => match w.cell? ⟨blk, off + (i * k + j), none⟩ with | some (.int _ n) => n | _ => 0, ⟨blk, off, _⟩, ?_, rfl, .inr ⟨m, by simp, by simpa using hl⟩⟩
    intro i u hu
    obtain ⟨y, h1, h2⟩ := flat_get hk (fun y hy => by
      obtain ⟨i, _, rfl⟩ := List.mem_map.1 hy
      rw [hmk]; simp) i u hu
    have hlt : i / k < len := by
      have := get_lt h1
      simpa using this
    rw [List.getElem?_map, List.getElem?_range hlt] at h1
    simp only [Option.map_some, Option.some.injEq] at h1
    subst h1
    have hj : i % k < k := Nat.mod_lt _ hk
    rw [hmk, List.getElem?_map, List.getElem?_range hj] at h2
    simp only [Option.map_some, Option.some.injEq] at h2
    obtain ⟨n, hn⟩ := hcell _ hlt _ hj
    rw [hn] at h2
    subst h2
    rw [Nat.div_add_mod' ] at hn
    exact ⟨hn, rfl⟩
theorem Given.rel {α : Type} {w : World} {v : Value} {f : α → List Value} {l : List α} {x : Imp} (g : Given w v f l x) {r : Ren} {H : Hp} {b : Nat} (hr : r b = some ⟨x.blk, x.off, none⟩) (hb : b < H.next) (hc : cellsOf H b = some x.cs) (hro : H.t.get b = some (.ro x.cs)) :
    ∃ a cap, VR r (.slice a l.length cap) v ∧ Sl H a l.length cap (l.flatMap f) ∧ ∀ b, a = some ⟨b, 0, none⟩ → H.t.get b = some (.ro (l.flatMap f)) := by
  rcases g.v with ⟨rfl, rfl⟩ | ⟨cap, rfl, hl⟩
  · exact ⟨none, 0, .nilSlice, .inl ⟨.inl rfl, rfl, rfl, rfl⟩, fun b e => by cases e⟩
  · refine ⟨some ⟨b, 0, none⟩, cap, ?_, .inr ⟨b, rfl, ⟨hb, by rw [hc, g.cs]⟩, hl⟩, fun b' e => by cases e; rw [hro, g.cs]⟩
    have := VR.slice (o := 0) (n := l.length) (c := cap) hr rfl hl
    simpa using this
theorem flat_ints (us : List Int) : us.flatMap (fun x => [iv x]) = ints us := by
  induction us with
  | nil => rfl
  | cons u us ih => rw [List.flatMap_cons, ih]; rfl
end Go.Ax

/-! Slices of rows of plain cells, as arguments. -/
namespace Go.Ax
open Go Go.RowKit Go.Proofs Go.ChangeShapes Go.WideShapes Go.Deep

theorem IntT.row {α : Type} {P : Program} {t : TypeId} {k : Nat} {f : α → List Value} {mk : (Nat → Int) → α} (h : IntT P t) (hc : P.cellsOf t = k) (hmk : ∀ N : Nat → Int, f (mk N) = (List.range k).map fun j => Value.int .i64 (N j))
    {H : Type} {enc : TypeId × Value → H} {w : World} {base : Nat} {spare : Nat → Bool} {held : Bool} (fuel : Nat) (cs : List Value) (x : DataW H × List MemPlace) (hx : DataW.trod enc P w base spare held fuel t cs = some x) : ∃ y : α, cs = f y ∧ True := by
  obtain ⟨h1, h2⟩ := h _ _ _ _ _ _ _ _ _ hx
  have : ∃ N : Nat → Int, ∀ j, j < cs.length → cs[j]? = some (.int .i64 (N j)) := by
    refine ⟨fun j => match cs[j]? with | some (.int _ n) => n | _ => 0, fun j hj => ?_⟩
    obtain ⟨n, hn⟩ := h2 j hj
    simp [hn]
  obtain ⟨N, hN⟩ := this
  refine ⟨mk N, ?_, trivial⟩
  rw [hmk]
  apply List.ext_getElem?
  intro j
  by_cases hj : j < k
  · rw [hN j (by omega), List.getElem?_map, List.getElem?_range hj]; rfl
  · rw [List.getElem?_eq_none (by omega), List.getElem?_eq_none (by simp; omega)]
theorem spot_of {w : World} {a : Addr} {v : Value} (h : w.cell? a = some v) : a.spot = none := by
  unfold World.cell? at h
  split at h
  · cases hs : a.spot with
    | none => rfl
    | some x => rw [hs] at h; simp at h
  · cases h
theorem add_zero' (a : Addr) : a.add 0 = a := by unfold Addr.add; simp
theorem add_plain (b o n : Nat) : (⟨b, o, none⟩ : Addr).add n = ⟨b, o + n, none⟩ := by
  unfold Addr.add
  by_cases q : n = 0
  · simp [q]
  · simp [q]
/-- A slice of rows, as it is read; Q: what else is known of a row. -/
theorem rows_read {H : Type} {enc : TypeId × Value → H} {P : Program} {w : World} {base : Nat} {held : Bool} {α : Type} {f : α → List Value} {Q : α → Prop} {k : Nat} {t e : TypeId} {fuel : Nat} {v : Value} {x : DataW H × List MemPlace}
    (ht : P.underlying t = some (.slice e)) (hR : ∀ (fuel : Nat) (cs : List Value) (x : DataW H × List MemPlace), DataW.trod enc P w base (fun _ => true) held fuel e cs = some x → ∃ y : α, cs = f y ∧ Q y) (hc : P.cellsOf e = k) (hk : 0 < k) (hfk : ∀ y, (f y).length = k)
    (h : DataW.trod enc P w base (fun _ => true) held fuel t [v] = some x) : ∃ (l : List α), l.length ≤ maxLen ∧ (∀ y ∈ l, Q y) ∧
      (((v = .slice none 0 0 ∨ ∃ a', v = .slice (some a') 0 0) ∧ l = []) ∨ ∃ blk off cap, v = .slice (some ⟨blk, off, none⟩) l.length cap ∧ l.length ≤ cap ∧ ∀ (i : Nat) u, (l.flatMap f)[i]? = some u → w.cell? ⟨blk, off + i, none⟩ = some u) := by
  rcases open_slice ht h with ⟨h0, _⟩ | ⟨a, len, cap, m, n, D, Pl, hcs, hb, hl, hm, hmm, hx, hi⟩
  · cases h0
    exact ⟨[], by simp, fun y hy => by simp at hy, .inl ⟨.inl rfl, rfl⟩⟩
  cases hcs
  simp only [if_true] at hmm
  subst hmm
  rcases Nat.eq_zero_or_pos m with h0 | h0
  · subst h0
    have : len = 0 := by omega
    subst this
    exact ⟨[], by simp, fun y hy => by simp at hy, .inl ⟨.inr ⟨_, rfl⟩, rfl⟩⟩
  obtain ⟨blk, off, spot⟩ := a
  have hs : spot = none := by
    obtain ⟨cs', h1, h2⟩ := hi 0 h0
    obtain ⟨y, hy, _⟩ := hR _ _ _ h2
    obtain ⟨_, h5, h6⟩ := World.cells?_some h1
    have h7 := h6 0 (by omega)
    rw [Nat.zero_mul, add_zero', add_zero'] at h7
    have h8 : cs'[0]? = some (cs'[0]'(by omega)) := List.getElem?_eq_getElem _
    rw [h8] at h7
    exact spot_of h7
  subst hs
  have hrow : ∀ i, i < len → ∃ y : α, Q y ∧ ∀ j, j < k → ∃ u, (f y)[j]? = some u ∧ w.cell? ⟨blk, off + (i * k + j), none⟩ = some u := by
    intro i hil
    obtain ⟨cs', h1, h2⟩ := hi i (by omega)
    obtain ⟨y, rfl, hq⟩ := hR _ _ _ h2
    obtain ⟨_, h5, h6⟩ := World.cells?_some h1
    refine ⟨y, hq, fun j hj => ?_⟩
    have h7 := h6 j (by omega)
    have h8 : (f y)[j]? = some ((f y)[j]'(by rw [hfk]; exact hj)) := List.getElem?_eq_getElem _
    rw [h8, hc, add_plain, add_plain, Nat.add_assoc] at h7
    exact ⟨_, h8, h7⟩
  have key : ∀ n, n ≤ len → ∃ l : List α, l.length = n ∧ (∀ y ∈ l, Q y) ∧ ∀ (i : Nat) y, l[i]? = some y → ∀ j, j < k → ∃ u, (f y)[j]? = some u ∧ w.cell? ⟨blk, off + (i * k + j), none⟩ = some u := by
    intro n
    induction n with
    | zero => intro _; exact ⟨[], rfl, fun y hy => by simp at hy, fun i y e => by simp at e⟩
    | succ n ih =>
      intro hn
      obtain ⟨l, h1, hq, h2⟩ := ih (by omega)
      obtain ⟨y, hyq, hy⟩ := hrow n (by omega)
      refine ⟨l ++ [y], by simp [h1], fun z hz => ?_, fun i z e => ?_⟩
      · simp only [List.mem_append, List.mem_singleton] at hz
        rcases hz with hz | rfl
        · exact hq z hz
        · exact hyq
      rw [List.getElem?_append] at e
      split at e
      · exact h2 i z e
      · rename_i q
        have : i = n := by have := get_lt e; simp at this; omega
        subst this
        rw [h1, Nat.sub_self] at e
        simp at e; subst e
        exact hy
  obtain ⟨l, hl1, hq, hl2⟩ := key len (Nat.le_refl _)
  refine ⟨l, by omega, hq, .inr ⟨blk, off, m, by rw [hl1], by omega, fun i u hu => ?_⟩⟩
  obtain ⟨y, h1, h2⟩ := flat_get hk (fun y _ => hfk y) i u hu
  have hj : i % k < k := Nat.mod_lt _ hk
  obtain ⟨u', e1, e2⟩ := hl2 _ y h1 _ hj
  rw [h2] at e1; cases e1
  rw [Nat.div_add_mod'] at e2
  exact e2
end Go.Ax

/-! A harvest as an argument: its beds and its rates, and what they hold. -/
namespace Go.Ax
open Go Go.RowKit Go.Proofs Go.ChangeShapes Go.WideShapes Go.Deep

def renOf (imps : List Imp) : Ren := fun b => (imps[b]?).map fun x => ⟨x.blk, x.off, none⟩
theorem imports3 {P : Program} (imps outs : List Imp) (w : World) (h : ∀ x ∈ imps, ∀ (i : Nat) v, x.cs[i]? = some v → w.cell? ⟨x.blk, x.off + i, none⟩ = some v ∧ flat1 v = true)
    (hcs : ∀ x ∈ outs, ∀ (i : Nat) v, x.cs[i]? = some v → ∃ v', w.cell? ⟨x.blk, x.off + i, none⟩ = some v' ∧ VR (renOf imps) v v') :
    ∃ (r : Ren) (H : Hp), Rel P r w.heap.size H w ∧ H.next = (imps ++ outs).length ∧ (∀ b loc, r b = some loc → b < H.next) ∧ Ren.Le (renOf imps) r ∧ ∀ (b : Nat) x, (imps ++ outs)[b]? = some x → r b = some ⟨x.blk, x.off, none⟩ ∧ H.t.get b = some (.ro x.cs) := by
  have hall : ∀ x ∈ imps ++ outs, ∀ (i : Nat) v, x.cs[i]? = some v → ∃ v', w.cell? ⟨x.blk, x.off + i, none⟩ = some v' ∧ VR (renOf imps) v v' := by
    intro x hx i v hv
    rcases List.mem_append.1 hx with hx | hx
    · obtain ⟨h1, h2⟩ := h x hx i v hv
      exact ⟨v, h1, flat1_vr h2⟩
    · exact hcs x hx i v hv
  obtain ⟨t, ht⟩ := tr_of (fun b => ((imps ++ outs)[b]?).map fun x => .ro x.cs) (imps ++ outs).length
  have hle : Ren.Le (renOf imps) (fun b => ((imps ++ outs)[b]?).map fun x => ⟨x.blk, x.off, none⟩) := fun b loc e => by
    unfold renOf at e
    have hlt : b < imps.length := by
      rcases Nat.lt_or_ge b imps.length with q | q
      · exact q
      · rw [List.getElem?_eq_none q] at e; cases e
    show ((imps ++ outs)[b]?).map _ = _
    rw [List.getElem?_append_left hlt]; exact e
  have hr : ∀ (b : Nat) loc, ((imps ++ outs)[b]?).map (fun x => (⟨x.blk, x.off, none⟩ : Loc)) = some loc → ∃ x, (imps ++ outs)[b]? = some x ∧ b < (imps ++ outs).length ∧ loc = ⟨x.blk, x.off, none⟩ ∧ t.get b = some (.ro x.cs) := by
    intro b loc e
    cases hx : (imps ++ outs)[b]? with
    | none => rw [hx] at e; cases e
    | some x =>
      rw [hx] at e
      simp at e
      have hlt := get_lt hx
      exact ⟨x, rfl, hlt, e.symm, by rw [ht, if_pos hlt, hx]; rfl⟩
  have low : ∀ {g o : Nat} {v : Value}, w.cell? ⟨g, o, none⟩ = some v → g < w.heap.size := fun {g o v} hv => by
    unfold World.cell? at hv
    rcases Nat.lt_or_ge g w.heap.size with q | q
    · exact q
    · rw [Array.getElem?_eq_none q] at hv; cases hv
  refine ⟨fun b => ((imps ++ outs)[b]?).map fun x => ⟨x.blk, x.off, none⟩, { next := (imps ++ outs).length, t }, ⟨?_, ?_, ?_, Nat.le_refl _⟩, rfl, ?_, hle, ?_⟩
  · intro b loc e
    obtain ⟨x, hx, hlt, rfl, hg⟩ := hr b loc e
    refine ⟨hlt, ?_⟩
    show Dm _ _ _ (t.get b)
    rw [hg]
    cases hc : x.cs with
    | nil => exact .inl rfl
    | cons v l =>
      obtain ⟨v', h1, _⟩ := hall x (List.mem_of_getElem? hx) 0 v (by rw [hc]; rfl)
      exact .inr (low h1)
  · intro b loc o e eo
    obtain ⟨x, hx, hlt, rfl, hg⟩ := hr b loc e
    rw [hg] at eo; cases eo
    refine ⟨rfl, fun i v ev => ?_⟩
    obtain ⟨v', h1, h2⟩ := hall x (List.mem_of_getElem? hx) i v ev
    unfold World.cell? at h1
    simp only at h1
    split at h1
    · rename_i C e' f hC
      exact ⟨C, e', f, v', hC, by simpa using h1, h2.mono hle⟩
    · cases h1
  · intro b b' loc loc' e e' _ hl _
    obtain ⟨x, hx, hlt, rfl, hg⟩ := hr b loc e
    obtain ⟨o, h1, h2, h3⟩ := hl
    have : t.get b = some o := h1
    rw [hg] at this; cases this
    cases h3
  · intro b loc e
    obtain ⟨x, hx, hlt, rfl, hg⟩ := hr b loc e
    exact hlt
  · intro b x hx
    have hlt := get_lt hx
    refine ⟨by simp only [hx, Option.map_some], ?_⟩
    show t.get b = _
    rw [ht, if_pos hlt, hx]; rfl

/-- An inner slice, as it is given: an empty one may have any address. -/
structure GivI {α : Type} (w : World) (v : Value) (f : α → List Value) (l : List α) (x : Imp) : Prop where
  ok : ∀ (i : Nat) u, x.cs[i]? = some u → w.cell? ⟨x.blk, x.off + i, none⟩ = some u ∧ flat1 u = true
  cs : x.cs = l.flatMap f
  v : ((v = .slice none 0 0 ∨ ∃ a', v = .slice (some a') 0 0) ∧ l = []) ∨ ∃ cap, v = .slice (some ⟨x.blk, x.off, none⟩) l.length cap ∧ l.length ≤ cap
theorem givI_of {H : Type} {enc : TypeId × Value → H} {P : Program} {w : World} {base : Nat} {held : Bool} {α : Type} {f : α → List Value} {Q : α → Prop} {k : Nat} {t e : TypeId} {fuel : Nat} {v : Value} {x : DataW H × List MemPlace}
    (ht : P.underlying t = some (.slice e)) (hR : ∀ (fuel : Nat) (cs : List Value) (x : DataW H × List MemPlace), DataW.trod enc P w base (fun _ => true) held fuel e cs = some x → ∃ y : α, cs = f y ∧ Q y) (hc : P.cellsOf e = k) (hk : 0 < k) (hfk : ∀ y, (f y).length = k) (hflat : ∀ y u, u ∈ f y → flat1 u = true)
    (h : DataW.trod enc P w base (fun _ => true) held fuel t [v] = some x) : ∃ (l : List α) (y : Imp), GivI w v f l y := by
  obtain ⟨l, h1, h2, ⟨h3, rfl⟩ | ⟨blk, off, cap, h3, h4, h5⟩⟩ := rows_read ht hR hc hk hfk h
  · exact ⟨[], ⟨0, 0, []⟩, ⟨fun i u e => by simp at e, rfl, .inl ⟨h3, rfl⟩⟩⟩
  · refine ⟨l, ⟨blk, off, l.flatMap f⟩, ⟨fun i u hu => ⟨h5 i u hu, ?_⟩, rfl, .inr ⟨cap, h3, h4⟩⟩⟩
    obtain ⟨y, hy, hu'⟩ := List.mem_flatMap.1 (List.mem_of_getElem? hu)
    exact hflat y u hu'
theorem GivI.rel {α : Type} {w : World} {v : Value} {f : α → List Value} {l : List α} {x : Imp} (g : GivI w v f l x) {r : Ren} {b : Nat} (hr : r b = some ⟨x.blk, x.off, none⟩) :
    ∃ a cap, VR r (.slice a l.length cap) v ∧ (∀ y, a = some ⟨y, 0, none⟩ → y = b) ∧ ∀ H : Hp, b < H.next → H.t.get b = some (.ro x.cs) → Sl H a l.length cap (l.flatMap f) := by
  rcases g.v with ⟨rfl | ⟨a', rfl⟩, rfl⟩ | ⟨cap, rfl, hl⟩
  · exact ⟨none, 0, .nilSlice, fun y e => by (cases e), fun H _ _ => .inl ⟨.inl rfl, rfl, rfl, rfl⟩⟩
  · exact ⟨some ⟨0, 0, some 0⟩, 0, .weird, fun y e => by (cases e), fun H _ _ => .inl ⟨.inr rfl, rfl, rfl, rfl⟩⟩
  · refine ⟨some ⟨b, 0, none⟩, cap, ?_, fun y e => by (cases e; rfl), fun H hb hc => .inr ⟨b, rfl, ⟨hb, by unfold cellsOf; rw [hc, g.cs]⟩, hl⟩⟩
    have := VR.slice (o := 0) (n := l.length) (c := cap) hr rfl hl
    simpa using this
structure BV where
  need : Int
  l1 : Int
  l2 : Int
  wv : Value
  ws : List (Int × Int)
  x : Imp
def BV.f (b : BV) : List Value := [iv b.need, iv b.l1, iv b.l2, b.wv]
def BV.Q (w : World) (b : BV) : Prop := GivI w b.wv (fun s : Int × Int => [iv s.1, iv s.2]) b.ws b.x
structure RV where
  rv : Value
  l : List Int
  x : Imp
def RV.f (r : RV) : List Value := [r.rv]
def RV.Q (w : World) (r : RV) : Prop := GivI w r.rv (fun n : Int => [iv n]) r.l r.x
theorem bogs_abs {w : World} {imps : List Imp} : ∀ (L : List BV) (pre post : List Imp), imps = pre ++ L.map BV.x ++ post → (∀ b ∈ L, b.Q w) → ∃ bs : List Bg, bs.length = L.length ∧ LR (renOf imps) (bgc bs) (L.flatMap BV.f) ∧
    ∀ (H : Hp) (f : Nat), imps.length ≤ f → (∀ (b : Nat) x, imps[b]? = some x → b < H.next ∧ H.t.get b = some (.ro x.cs)) → ∀ b ∈ bs, Sl H b.wa b.wn b.wcap (spc b.ws) ∧ b.ws.length = b.wn ∧ ∀ x, b.wa = some ⟨x, 0, none⟩ → x < f
  | [], _, _, _, _ => ⟨[], rfl, .nil, fun _ _ _ _ b hb => by simp at hb⟩
  | b :: L, pre, post, he, hq => by
    obtain ⟨bs, e1, e2, e3⟩ := bogs_abs (imps := imps) L (pre ++ [b.x]) post (by rw [he]; simp) (fun x hx => hq x (List.mem_cons_of_mem _ hx))
    have q := hq b (List.mem_cons_self ..)
    have i1 : imps[pre.length]? = some b.x := by rw [he]; simp
    obtain ⟨a1, c1, r1, y1, l1⟩ := GivI.rel q (r := renOf imps) (b := pre.length) (by unfold renOf; rw [i1]; rfl)
    refine ⟨⟨b.need, b.l1, b.l2, a1, b.ws.length, c1, b.ws⟩ :: bs, by simp [e1], ?_, fun H f hf hH x hx => ?_⟩
    · show LR (renOf imps) (iv b.need :: iv b.l1 :: iv b.l2 :: .slice a1 b.ws.length c1 :: bgc bs) (iv b.need :: iv b.l1 :: iv b.l2 :: b.wv :: L.flatMap BV.f)
      exact .cons (.int _ _) (.cons (.int _ _) (.cons (.int _ _) (.cons r1 e2)))
    · simp only [List.mem_cons] at hx
      rcases hx with rfl | hx
      · obtain ⟨b1, d1⟩ := hH _ _ i1
        exact ⟨l1 H b1 d1, rfl, fun x e => by have := y1 x e; have := get_lt i1; omega⟩
      · exact e3 H f hf hH x hx
theorem rates_abs {w : World} {imps : List Imp} : ∀ (L : List RV) (pre post : List Imp), imps = pre ++ L.map RV.x ++ post → (∀ b ∈ L, b.Q w) → ∃ bs : List Rw, bs.length = L.length ∧ LR (renOf imps) (rwc bs) (L.flatMap RV.f) ∧
    ∀ (H : Hp) (f : Nat), imps.length ≤ f → (∀ (b : Nat) x, imps[b]? = some x → b < H.next ∧ H.t.get b = some (.ro x.cs)) → ∀ b ∈ bs, Sl H b.ra b.n b.cap (ints b.l) ∧ b.l.length = b.n ∧ ∀ x, b.ra = some ⟨x, 0, none⟩ → x < f
  | [], _, _, _, _ => ⟨[], rfl, .nil, fun _ _ _ _ b hb => by simp at hb⟩
  | b :: L, pre, post, he, hq => by
    obtain ⟨bs, e1, e2, e3⟩ := rates_abs (imps := imps) L (pre ++ [b.x]) post (by rw [he]; simp) (fun x hx => hq x (List.mem_cons_of_mem _ hx))
    have q := hq b (List.mem_cons_self ..)
    have i1 : imps[pre.length]? = some b.x := by rw [he]; simp
    obtain ⟨a1, c1, r1, y1, l1⟩ := GivI.rel q (r := renOf imps) (b := pre.length) (by unfold renOf; rw [i1]; rfl)
    refine ⟨⟨a1, b.l.length, c1, b.l⟩ :: bs, by simp [e1], ?_, fun H f hf hH x hx => ?_⟩
    · show LR (renOf imps) (.slice a1 b.l.length c1 :: rwc bs) (b.rv :: L.flatMap RV.f)
      exact .cons r1 e2
    · simp only [List.mem_cons] at hx
      rcases hx with rfl | hx
      · obtain ⟨b1, d1⟩ := hH _ _ i1
        exact ⟨by rw [← flat_ints]; exact l1 H b1 d1, rfl, fun x e => by have := y1 x e; have := get_lt i1; omega⟩
      · exact e3 H f hf hH x hx
/-- A list of rows that point elsewhere, as it is given. -/
structure GivO {α : Type} (w : World) (v : Value) (f : α → List Value) (l : List α) (x : Imp) : Prop where
  cs : ∀ (i : Nat) u, (l.flatMap f)[i]? = some u → w.cell? ⟨x.blk, x.off + i, none⟩ = some u
  v : ((v = .slice none 0 0 ∨ ∃ a', v = .slice (some a') 0 0) ∧ l = []) ∨ ∃ cap, v = .slice (some ⟨x.blk, x.off, none⟩) l.length cap ∧ l.length ≤ cap
theorem givO_rel {α : Type} {w : World} {v : Value} {f : α → List Value} {l : List α} {x : Imp} (g : GivO w v f l x) {r : Ren} {H : Hp} {b n : Nat} {cs : List Value} (hr : r b = some ⟨x.blk, x.off, none⟩) (hb : b < H.next) (hg : H.t.get b = some (.ro cs)) (hn : n = l.length) (h0 : l = [] → cs = []) :
    ∃ a cap, VR r (.slice a n cap) v ∧ Sl H a n cap cs := by
  subst hn
  rcases g.v with ⟨rfl | ⟨a', rfl⟩, rfl⟩ | ⟨cap, rfl, hl⟩
  · exact ⟨none, 0, .nilSlice, .inl ⟨.inl rfl, rfl, rfl, h0 rfl⟩⟩
  · exact ⟨some ⟨0, 0, some 0⟩, 0, .weird, .inl ⟨.inr rfl, rfl, rfl, h0 rfl⟩⟩
  · refine ⟨some ⟨b, 0, none⟩, cap, ?_, .inr ⟨b, rfl, ⟨hb, by unfold cellsOf; rw [hg]⟩, hl⟩⟩
    have := VR.slice (o := 0) (n := l.length) (c := cap) hr rfl hl
    simpa using this
/-- A harvest, as it is given. -/
structure HG (w : World) (s1 s2 : Value) (L1 : List BV) (L2 : List RV) (x1 x2 : Imp) : Prop where
  g1 : GivO w s1 BV.f L1 x1
  g2 : GivO w s2 RV.f L2 x2
  q1 : ∀ b ∈ L1, b.Q w
  q2 : ∀ b ∈ L2, b.Q w
theorem imports_harvest {P : Program} (pre : List Imp) {w : World} {s1 s2 : Value} {L1 : List BV} {L2 : List RV} {x1 x2 : Imp} (hg : HG w s1 s2 L1 L2 x1 x2) (inlet reserve winds : Int) (h : ∀ x ∈ pre, ∀ (i : Nat) v, x.cs[i]? = some v → w.cell? ⟨x.blk, x.off + i, none⟩ = some v ∧ flat1 v = true) :
    ∃ (r : Ren) (H : Hp) (g : Fh), Rel P r w.heap.size H w ∧ (∀ b loc, r b = some loc → b < H.next) ∧ (∀ (b : Nat) x, pre[b]? = some x → b < H.next ∧ r b = some ⟨x.blk, x.off, none⟩ ∧ H.t.get b = some (.ro x.cs)) ∧ g.At H.next H ∧ g.inlet = inlet ∧ g.reserve = reserve ∧ g.winds = winds ∧
      VR r (.slice g.ba g.bn g.bcap) s1 ∧ VR r (.slice g.ra g.rn g.rcap) s2 := by
  obtain ⟨bs, b1, b2, b3⟩ := bogs_abs (w := w) (imps := pre ++ L1.map BV.x ++ L2.map RV.x) L1 pre (L2.map RV.x) rfl hg.q1
  obtain ⟨rs, r1, r2, r3⟩ := rates_abs (w := w) (imps := pre ++ L1.map BV.x ++ L2.map RV.x) L2 (pre ++ L1.map BV.x) [] (by simp) hg.q2
  obtain ⟨imps, himps⟩ : ∃ imps, imps = pre ++ L1.map BV.x ++ L2.map RV.x := ⟨_, rfl⟩
  rw [← himps] at b2 b3 r2 r3
  have himp : ∀ x ∈ imps, ∀ (i : Nat) v, x.cs[i]? = some v → w.cell? ⟨x.blk, x.off + i, none⟩ = some v ∧ flat1 v = true := by
    intro x hx
    rw [himps] at hx
    simp only [List.mem_append, List.mem_map] at hx
    rcases hx with (hx | ⟨y, hy, rfl⟩) | ⟨y, hy, rfl⟩
    · exact h x hx
    · exact (hg.q1 y hy).ok
    · exact (hg.q2 y hy).ok
  have side : ∀ {α : Type} {v : Value} {f : α → List Value} {l : List α} {x : Imp} {cs : List Value}, GivO w v f l x → LR (renOf imps) cs (l.flatMap f) → ∀ (i : Nat) u, cs[i]? = some u → ∃ v', w.cell? ⟨x.blk, x.off + i, none⟩ = some v' ∧ VR (renOf imps) u v' := by
    intro α v f l x cs gv hl i u hu
    have hlt := get_lt hu
    have hlt2 : i < (l.flatMap f).length := by rw [← hl.1]; exact hlt
    have hu2 := List.getElem?_eq_getElem hlt2
    exact ⟨_, gv.cs i _ hu2, hl.2 i u _ hu hu2⟩
  obtain ⟨r, H, h1, h2, h3, h4, h5⟩ := imports3 (P := P) imps [⟨x1.blk, x1.off, bgc bs⟩, ⟨x2.blk, x2.off, rwc rs⟩] w himp (by
    intro x hx i u hu
    simp only [List.mem_cons, List.not_mem_nil, or_false] at hx
    rcases hx with rfl | rfl
    · exact side hg.g1 b2 i u hu
    · exact side hg.g2 r2 i u hu)
  have hnx : H.next = imps.length + 2 := by rw [h2]; simp
  have hg5 : ∀ (b : Nat) x, imps[b]? = some x → r b = some ⟨x.blk, x.off, none⟩ ∧ H.t.get b = some (.ro x.cs) := fun b x hx => h5 b x (by rw [List.getElem?_append_left (get_lt hx)]; exact hx)
  have hH : ∀ (b : Nat) x, imps[b]? = some x → b < H.next ∧ H.t.get b = some (.ro x.cs) := fun b x hx => ⟨by have := get_lt hx; omega, (hg5 b x hx).2⟩
  obtain ⟨o1, p1⟩ := h5 imps.length ⟨x1.blk, x1.off, bgc bs⟩ (by simp)
  obtain ⟨o2, p2⟩ := h5 (imps.length + 1) ⟨x2.blk, x2.off, rwc rs⟩ (by simp)
  obtain ⟨a1, c1, v1, s1'⟩ := givO_rel hg.g1 o1 (by omega) p1 b1 (fun e => by have : bs = [] := List.eq_nil_of_length_eq_zero (by rw [b1, e]; rfl); rw [this]; rfl)
  obtain ⟨a2, c2, v2, s2'⟩ := givO_rel hg.g2 o2 (by omega) p2 r1 (fun e => by have : rs = [] := List.eq_nil_of_length_eq_zero (by rw [r1, e]; rfl); rw [this]; rfl)
  refine ⟨r, H, ⟨a1, bs.length, c1, bs, a2, rs.length, c2, rs, inlet, reserve, winds⟩, h1, h3, fun b x hx => ?_, ?_, rfl, rfl, rfl, v1, v2⟩
  · have hx2 : imps[b]? = some x := by rw [himps, List.append_assoc, List.getElem?_append_left (get_lt hx)]; exact hx
    exact ⟨(hH b x hx2).1, hg5 b x hx2⟩
  · exact ⟨Nat.le_refl _, s1', s2', rfl, rfl, fun x e => s1'.old x e, fun x e => s2'.old x e, b3 H H.next (by omega) hH, r3 H H.next (by omega) hH⟩
end Go.Ax


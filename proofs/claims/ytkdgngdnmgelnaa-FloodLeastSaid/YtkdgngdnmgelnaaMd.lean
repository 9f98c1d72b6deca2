import Derived.Test.YtkdgngdnmgelnaaMc
import Derived.Test.YtkdgngdnmgelnaaChecked
import Derived.Test.YtkdgngdnmgelnaaAxO
import Derived.Deep.Slices
import Derived.Deep.Fields
import Derived.ChangeSame
set_option linter.all false
/-
  Flood: the least one (43), Best (21), Least (23) (written by program).
-/
namespace Go.Ax
open Go Go.RowKit Go.Proofs

def Fh.cp (g : Fh) (o o2 : List Nat) : Int := cpB (g.sl o) (g.sl o2) (zi o) (zi o2)
def Fh.cw (g : Fh) (o o2 : List Nat) : Int := cwB (g.sl o) (g.sl o2) (zi o) (zi o2)
def Fh.ens (g : Fh) (o : List Nat) : Bool := decide ((g.sl o).t2 ≤ g.reserve)
/-- the order that takes the least water; the fastest one of those that have enough -/
def Fh.lst (g : Fh) : Option (List Nat) := g.bst (fun _ => true) g.cw none (perms g.bn)
def Fh.fst (g : Fh) : Option (List Nat) := g.bst g.ens g.cp none (perms g.bn)
def Fh.be (g : Fh) : Int := bif g.ok then (match g.lst with | none => 4 | some o => bif g.ens o then 0 else 10) else 1
def Fh.le (g : Fh) : Int := bif g.ok then (match g.lst with | none => 4 | some _ => 0) else 1
theorem fold_some {p : List Nat → Bool} {cf : List Nat → List Nat → Int} : ∀ (s : List (List Nat)) (b : List Nat), ∃ c, s.foldl (pick p cf) (some b) = some c
  | [], b => ⟨b, rfl⟩
  | o :: s, b => by
    simp only [List.foldl_cons]
    have e : pick p cf (some b) o = some b ∨ pick p cf (some b) o = some o := by
      cases h : (p o && decide (cf o b < 0))
      · exact .inl (by show (bif (p o && decide (cf o b < 0)) then some o else some b) = some b; rw [h]; rfl)
      · exact .inr (by show (bif (p o && decide (cf o b < 0)) then some o else some b) = some o; rw [h]; rfl)
    rcases e with e | e
    · rw [e]; exact fold_some s b
    · rw [e]; exact fold_some s o
theorem fold_none {p : List Nat → Bool} {cf : List Nat → List Nat → Int} : ∀ (s : List (List Nat)), s.foldl (pick p cf) none = none → ∀ o ∈ s, p o = false
  | [], _, o, ho => by cases ho
  | o :: s, h, x, hx => by
    simp only [List.foldl_cons] at h
    cases hp : p o
    · rw [show pick p cf none o = none by unfold pick; rw [hp]; rfl] at h
      rcases List.mem_cons.mp hx with rfl | hx
      · exact hp
      · exact fold_none s h x hx
    · rw [show pick p cf none o = some o by unfold pick; rw [hp]; rfl] at h
      obtain ⟨c, e⟩ := fold_some (p := p) (cf := cf) s o
      rw [e] at h; cases h
theorem fold_in {p : List Nat → Bool} {cf : List Nat → List Nat → Int} : ∀ (s : List (List Nat)) (a : Option (List Nat)) (c : List Nat), s.foldl (pick p cf) a = some c → (c ∈ s ∧ p c = true) ∨ a = some c
  | [], a, c, h => .inr h
  | o :: s, a, c, h => by
    simp only [List.foldl_cons] at h
    rcases fold_in s _ c h with ⟨h1, h2⟩ | h1
    · exact .inl ⟨List.mem_cons_of_mem _ h1, h2⟩
    · unfold pick at h1
      cases a with
      | none =>
        cases hp : p o
        · simp [hp] at h1
        · simp [hp] at h1; subst h1; exact .inl ⟨by simp, hp⟩
      | some b =>
        simp only at h1
        cases hq : (p o && decide (cf o b < 0))
        · rw [hq] at h1; exact .inr h1
        · rw [hq] at h1
          have e : o = c := by simpa using h1
          subst e
          have : p o = true := by cases hp : p o <;> simp [hp] at hq ⊢
          exact .inl ⟨by simp, this⟩
theorem Fh.bst_none {g : Fh} {p : List Nat → Bool} {cf : List Nat → List Nat → Int} {s : List (List Nat)} (h : g.bst p cf none s = none) {o : List Nat} (ho : o ∈ s) (hc : g.can o (g.bn - 1) = true) : p o = false :=
  fold_none _ h o (List.mem_filter.mpr ⟨ho, by simpa using hc⟩)
theorem Fh.bst_in {g : Fh} {p : List Nat → Bool} {cf : List Nat → List Nat → Int} {s : List (List Nat)} {c : List Nat} (h : g.bst p cf none s = some c) : c ∈ s ∧ g.can c (g.bn - 1) = true ∧ p c = true := by
  rcases fold_in _ _ _ h with ⟨h1, h2⟩ | h1
  · obtain ⟨h3, h4⟩ := List.mem_filter.mp h1
    exact ⟨h3, by simpa using h4, h2⟩
  · cases h1
theorem Fh.fst_some {g : Fh} {o : List Nat} (h : g.lst = some o) (he : g.ens o = true) : ∃ c, g.fst = some c := by
  cases e : g.fst with
  | some c => exact ⟨c, rfl⟩
  | none =>
    obtain ⟨h1, h2, _⟩ := Fh.bst_in h
    rw [Fh.bst_none e h1 h2] at he; cases he
section
variable {kn : FuncId → Option Bool} {lo : Nat} {H : Hp}

theorem fits58 {g : Fh} : Fits kn lo g (.func 58) #[] (fun _ => true) := ⟨fun H o sb bb _ _ _ => by
  obtain ⟨H', f, k⟩ := yes58_ok (kn := kn) (lo := lo) (H := H) (v := cvv sb g.bn bb g.bn (g.sl o)) rfl
  exact ⟨H', callX_args f, k⟩⟩
theorem fits44 {g : Fh} {ka : Option Addr} {kc : Nat} : Fits kn lo g (.func 44) #[.agg (g.vw ka kc).toArray] g.ens := ⟨fun H o sb bb _ _ _ => by
  obtain ⟨H', f, k⟩ := enough_ok (kn := kn) (lo := lo) (H := H) (g := g) (kv := .slice ka g.bn kc) (v1 := slv sb g.bn g.bn) (v2 := slv bb g.bn g.bn) (t1 := (g.sl o).t1) (t2 := (g.sl o).t2) (l1 := (g.sl o).l1) (l2 := (g.sl o).l2) (s1 := (g.sl o).s1) (s2 := (g.sl o).s2) (r1 := (g.sl o).r1) (r2 := (g.sl o).r2)
  exact ⟨H', callX_args f, k⟩⟩
theorem cmps59 {g : Fh} (v : g.Vd) : Cmps kn lo g (.func 59) #[] g.cw := ⟨fun H o o2 sb bb sb2 bb2 hlo c1 c2 => by
  have := v.n
  obtain ⟨H', f, k⟩ := compareW_ok (kn := kn) (lo := lo) (H := H) (cap := g.bn) (cap2 := g.bn) (by omega) (by omega) hlo c1 c2
  exact ⟨H', callX_args f, k⟩⟩
theorem cmps47 {g : Fh} (v : g.Vd) : Cmps kn lo g (.func 47) #[] g.cp := ⟨fun H o o2 sb bb sb2 bb2 hlo c1 c2 => by
  have := v.n
  obtain ⟨H', f, k⟩ := compare_ok (kn := kn) (lo := lo) (H := H) (cap := g.bn) (cap2 := g.bn) (by omega) (by omega) hlo c1 c2
  exact ⟨H', callX_args f, k⟩⟩
set_option maxRecDepth 100000 in
theorem least_ok {g : Fh} {f : Nat} {ka : Option Addr} {kc : Nat} (v : g.Vd) (hat : g.At f H) (hks : Sl H ka g.bn kc (spc g.ws)) (hlo : lo ≤ H.next) :
    ∃ w H', FnX Try.prog kn lo 43 [.agg (g.vw ka kc).toArray] H w H' ∧ Keep H H' [] ∧ Bq g H.next w H' g.lst := by
  refine fnX_low (kn := kn) (lo := lo) (H := H) (args := [.agg (g.vw ka kc).toArray]) (Q := fun w H' => Keep H H' [] ∧ Bq g H.next w H' g.lst) Try.func43 B43 N43 Z43 L43 (by simp) ?_
  refine wN_seq ?_
  refine wN_box (v := .agg (g.vw ka kc).toArray) rfl ?_
  intro H1 k1 n1 c1
  have c1 : Cl H1 H.next (g.vw ka kc) := c1
  refine wN_alc ?_
  intro H2 k2 n2 c2
  have c2 : Cl H2 H1.next zc78 := c2
  refine wN_mov (v := .bool false) rfl ?_
  refine wN_end ?_
  refine wN_seq ?_
  refine wN_lda (b := H.next) (o := 0) rfl (k2.cl c1 (by simp)).rd (show row 6 _ 0 = some (g.vw ka kc) from rfl) ?_
  obtain ⟨H3, f3, k3, n3, r3⟩ := courses_ok (kn := kn) (lo := lo) (H := H2) (g := g) (ka := ka) (kc := kc)
  refine wN_callf (vs := [.agg (g.vw ka kc).toArray]) rfl (callX_args f3) ?_
  have k03 : Keep H H3 [] := k1.trans (k2.trans k3)
  obtain ⟨w4, H4, f4, k4, hb⟩ := best_ok (kn := kn) (lo := lo) (H := H3) (p := fun _ => true) (cf := g.cw) v (hat.keep k03 (by simp)) (k03.sl0 hks) r3 (by omega) fits58 (cmps59 v)
  refine wN_callf (vs := [.func (.func 60) #[] #[pt H2.next], .func (.func 58) #[] #[], .func (.func 59) #[] #[]]) rfl (callX_args f4) ?_
  have m3 := k03.1
  have m4 := k4.1
  have k04 := k03.trans k4
  have c4 := k4.cl (k3.cl c2 (by simp)) (by simp)
  have hb : Bq g H3.next w4 H4 g.lst := hb
  cases e : g.lst with
  | none =>
    rw [e] at hb
    have hb : w4 = .tuple #[.agg zc78.toArray, .bool false] := hb
    subst hb
    refine wN_pur (v := .agg zc78.toArray) rfl (by kernel_rfl) ?_
    refine wN_pur (v := .bool false) rfl (by kernel_rfl) ?_
    refine wN_sta (b := H1.next) (o := 0) (v := .agg zc78.toArray) rfl rfl c4 (by omega) rfl rfl (by simp) ?_
    intro H5 k5 n5 c5
    have c5 : Cl H5 H1.next zc78 := c5
    refine wN_mov (v := .bool false) rfl ?_
    refine wN_end ?_
    exact And.intro trivial (Exists.intro _ (And.intro (res_ctb (x := H1.next) rfl rfl a78 i78s rfl c5) ⟨k04.new k5 (fun b q => .inr (by simp at q; omega)), rfl⟩))
  | some o =>
    rw [e] at hb
    obtain ⟨sb, bb, rfl, q1, q2, cq, rest⟩ := hb
    refine wN_pur (v := cvv sb g.bn bb g.bn (g.sl o)) rfl (by kernel_rfl) ?_
    refine wN_pur (v := .bool true) rfl (by kernel_rfl) ?_
    refine wN_sta (b := H1.next) (o := 0) (v := cvv sb g.bn bb g.bn (g.sl o)) rfl rfl c4 (by omega) rfl rfl (by simp) ?_
    intro H5 k5 n5 c5
    have c5 : Cl H5 H1.next (cvc sb g.bn bb g.bn (g.sl o)) := c5
    refine wN_mov (v := .bool true) rfl ?_
    refine wN_end ?_
    exact And.intro trivial (Exists.intro _ (And.intro (res_ctb (x := H1.next) rfl rfl a78 i78s rfl c5) ⟨k04.new k5 (fun b q => .inr (by simp at q; omega)), sb, bb, rfl, by omega, by omega, cq.keep k5 (by simp; omega) (by simp; omega), rest⟩))
end
end Go.Ax

/-
  Flood: Best (21), Least (23) (written by program).
-/
namespace Go.Ax
open Go Go.RowKit Go.Proofs

def Ord (g : Fh) (f : Nat) (sb : Nat) (o : List Nat) (H : Hp) : Prop := f ≤ sb ∧ Sc H sb (ints (zi o)) ∧ o.length = g.bn ∧ (∀ x ∈ o, x < g.bn) ∧ o.Nodup ∧ g.can o (g.bn - 1) = true
def RB (g : Fh) (f : Nat) (w : Value) (H : Hp) : Prop := (g.be ≠ 0 ∧ w = .tuple #[.slice none 0 0, iv g.be]) ∨ (g.be = 0 ∧ g.ok = true ∧ ∃ sb o, w = .tuple #[slv sb g.bn g.bn, iv 0] ∧ g.fst = some o ∧ Ord g f sb o H)
def RL (g : Fh) (f : Nat) (w : Value) (H : Hp) : Prop := (g.le ≠ 0 ∧ w = .tuple #[iv 0, .slice none 0 0, iv g.le]) ∨ (g.le = 0 ∧ g.ok = true ∧ ∃ sb o, w = .tuple #[iv (g.sl o).t2, slv sb g.bn g.bn, iv 0] ∧ g.lst = some o ∧ Ord g f sb o H)
theorem Fh.be1 {g : Fh} (h : g.ok = false) : g.be = 1 := by unfold Fh.be; rw [h]; rfl
theorem Fh.be4 {g : Fh} (h : g.ok = true) (e : g.lst = none) : g.be = 4 := by unfold Fh.be; rw [h, e]; rfl
theorem Fh.be10 {g : Fh} {o : List Nat} (h : g.ok = true) (e : g.lst = some o) (q : g.ens o = false) : g.be = 10 := by unfold Fh.be; rw [h, e]; simp only [q]; rfl
theorem Fh.be0 {g : Fh} {o : List Nat} (h : g.ok = true) (e : g.lst = some o) (q : g.ens o = true) : g.be = 0 := by unfold Fh.be; rw [h, e]; simp only [q]; rfl
theorem Fh.le1 {g : Fh} (h : g.ok = false) : g.le = 1 := by unfold Fh.le; rw [h]; rfl
theorem Fh.le4 {g : Fh} (h : g.ok = true) (e : g.lst = none) : g.le = 4 := by unfold Fh.le; rw [h, e]; rfl
theorem Fh.le0 {g : Fh} {o : List Nat} (h : g.ok = true) (e : g.lst = some o) : g.le = 0 := by unfold Fh.le; rw [h, e]; rfl
section
variable {kn : FuncId → Option Bool} {lo : Nat} {H : Hp}
set_option maxRecDepth 100000 in
theorem Best_ok {g : Fh} {f : Nat} (hat : g.At f H) (hlo : lo ≤ H.next) : ∃ w H', FnX Try.prog kn lo 21 [.agg g.v.toArray] H w H' ∧ Keep H H' [] ∧ RB g H.next w H' := by
  refine fnX_low (kn := kn) (lo := lo) (H := H) (args := [.agg g.v.toArray]) (Q := fun w H' => Keep H H' [] ∧ RB g H.next w H') Try.func21 B21 N21 Z21 L21 (by simp) ?_
  have hfl := hat.le
  refine wN_seq ?_
  refine wN_box (v := .agg g.v.toArray) rfl ?_
  intro H1 k1 n1 c1
  have c1 : Cl H1 H.next g.v := c1
  refine wN_mov (v := .slice none 0 0) rfl ?_
  refine wN_mov (v := iv 0) rfl ?_
  refine wN_end ?_
  refine wN_seq ?_
  refine wN_lda (b := H.next) (o := 0) rfl c1.rd (show row 5 _ 0 = some g.v from rfl) ?_
  obtain ⟨w2, H2, f2, k2, hc⟩ := new_ok (kn := kn) (lo := lo) (H := H1) (hat.keep k1 (by simp)) (by omega)
  refine wN_callf (vs := [.agg g.v.toArray]) rfl (callX_args f2) ?_
  have m2 := k2.1
  have k02 : Keep H H2 [] := k1.trans k2
  rcases hc with ⟨hok, rfl⟩ | ⟨hok, ka, kc, rfl, hks, hkf⟩
  · refine wN_mov (v := .tuple #[.agg #[.slice none 0 0, .slice none 0 0, iv 0, iv 0, iv 0, .slice none 0 0], iv 1]) rfl ?_
    refine wN_pur (v := .agg #[.slice none 0 0, .slice none 0 0, iv 0, iv 0, iv 0, .slice none 0 0]) rfl (by kernel_rfl) ?_
    refine wN_pur (v := iv 1) rfl (by kernel_rfl) ?_
    refine wN_alc ?_
    intro H3 k3 n3 c3
    refine wN_sta (b := H2.next) (o := 0) (v := .agg #[.slice none 0 0, .slice none 0 0, iv 0, iv 0, iv 0, .slice none 0 0]) rfl rfl c3 (by omega) rfl rfl (by simp) ?_
    intro H4 k4 n4 c4
    have c4 : Cl H4 H2.next ([.slice none 0 0, .slice none 0 0, iv 0, iv 0, iv 0, .slice none 0 0]) := c4
    refine wN_mov (v := iv 1) rfl ?_
    refine wN_end ?_
    have k24 : Keep H2 H4 [] := k3.new k4 (fun b q => by simp at q; omega)
    have k04 : Keep H H4 [] := k02.trans k24
    have m4 := k24.1
    refine wN_seq ?_
    refine wN_mov (v := iv 1) rfl ?_
    refine wN_c_neq (a := 1) (b := 0) rfl rfl ?_
    refine wN_end ?_
    refine And.intro (fun q1 => ?_) (fun q1 => ?_)
    · refine wN_seq ?_
      refine wN_mov (v := iv 1) rfl ?_
      refine wN_mov (v := .slice none 0 0) rfl ?_
      refine wN_mov (v := iv 1) rfl ?_
      refine wN_end ?_
      exact And.intro trivial (Exists.intro _ (And.intro rfl ⟨k04, Or.inl ⟨by rw [Fh.be1 hok]; decide, by rw [Fh.be1 hok]; rfl⟩⟩))
    · exact absurd q1 (by decide)
  · have v := Fh.vd hok hat
    refine wN_mov (v := .tuple #[.agg (g.vw ka kc).toArray, iv 0]) rfl ?_
    refine wN_pur (v := .agg (g.vw ka kc).toArray) rfl (by kernel_rfl) ?_
    refine wN_pur (v := iv 0) rfl (by kernel_rfl) ?_
    refine wN_alc ?_
    intro H3 k3 n3 c3
    refine wN_sta (b := H2.next) (o := 0) (v := .agg (g.vw ka kc).toArray) rfl rfl c3 (by omega) rfl rfl (by simp) ?_
    intro H4 k4 n4 c4
    have c4 : Cl H4 H2.next (g.vw ka kc) := c4
    refine wN_mov (v := iv 0) rfl ?_
    refine wN_end ?_
    have k24 : Keep H2 H4 [] := k3.new k4 (fun b q => by simp at q; omega)
    have k04 : Keep H H4 [] := k02.trans k24
    have m4 := k24.1
    refine wN_seq ?_
    refine wN_mov (v := iv 0) rfl ?_
    refine wN_c_neq (a := 0) (b := 0) rfl rfl ?_
    refine wN_end ?_
    refine And.intro (fun q1 => ?_) (fun q1 => ?_)
    · exact absurd q1 (by decide)
    · first | refine wN_skip ?_ | skip
      refine wN_seq ?_
      refine wN_lda (b := H2.next) (o := 0) rfl c4.rd (show row 6 _ 0 = some (g.vw ka kc) from rfl) ?_
      obtain ⟨w5, H5, f5, k5, hb⟩ := least_ok (kn := kn) (lo := lo) (H := H4) v (hat.keep k04 (by simp)) (k24.sl0 hks) (by omega)
      refine wN_callf (vs := [.agg (g.vw ka kc).toArray]) rfl (callX_args f5) ?_
      have m5 := k5.1
      have k05 : Keep H H5 [] := k04.trans k5
      have c4 := k5.cl c4 (by simp)
      cases e : g.lst with
      | none =>
        rw [e] at hb
        have hb : w5 = .tuple #[.agg zc78.toArray, .bool false] := hb
        subst hb
        refine wN_mov (v := .tuple #[.agg zc78.toArray, .bool false]) rfl ?_
        refine wN_pur (v := .agg zc78.toArray) rfl (by kernel_rfl) ?_
        refine wN_pur (v := .bool false) rfl (by kernel_rfl) ?_
        refine wN_alc ?_
        intro H6 k6 n6 c6
        refine wN_sta (b := H5.next) (o := 0) (v := .agg zc78.toArray) rfl rfl c6 (by omega) rfl rfl (by simp) ?_
        intro H7 k7 n7 c7
        have c7 : Cl H7 H5.next (zc78) := c7
        refine wN_mov (v := .bool false) rfl ?_
        refine wN_end ?_
        have k57 : Keep H5 H7 [] := k6.new k7 (fun b q => by simp at q; omega)
        have k07 : Keep H H7 [] := k05.trans k57
        have m7 := k57.1
        refine wN_seq ?_
        refine wN_mov (v := .bool false) rfl ?_
        refine wN_pur (v := .bool true) rfl rfl ?_
        refine wN_end ?_
        refine condT ?_
        refine wN_seq ?_
        refine wN_mov (v := .slice none 0 0) rfl ?_
        refine wN_mov (v := iv 4) rfl ?_
        refine wN_end ?_
        exact And.intro trivial (Exists.intro _ (And.intro rfl ⟨k07, Or.inl ⟨by rw [Fh.be4 hok e]; decide, by rw [Fh.be4 hok e]; rfl⟩⟩))
      | some o =>
        rw [e] at hb
        obtain ⟨sb, bb, rfl, q1, q2, cq, rest⟩ := hb
        refine wN_mov (v := .tuple #[cvv sb g.bn bb g.bn (g.sl o), .bool true]) rfl ?_
        refine wN_pur (v := cvv sb g.bn bb g.bn (g.sl o)) rfl (by kernel_rfl) ?_
        refine wN_pur (v := .bool true) rfl (by kernel_rfl) ?_
        refine wN_alc ?_
        intro H6 k6 n6 c6
        refine wN_sta (b := H5.next) (o := 0) (v := cvv sb g.bn bb g.bn (g.sl o)) rfl rfl c6 (by omega) rfl rfl (by simp) ?_
        intro H7 k7 n7 c7
        have c7 : Cl H7 H5.next (cvc sb g.bn bb g.bn (g.sl o)) := c7
        refine wN_mov (v := .bool true) rfl ?_
        refine wN_end ?_
        have k57 : Keep H5 H7 [] := k6.new k7 (fun b q => by simp at q; omega)
        have k07 : Keep H H7 [] := k05.trans k57
        have m7 := k57.1
        refine wN_seq ?_
        refine wN_mov (v := .bool true) rfl ?_
        refine wN_pur (v := .bool false) rfl rfl ?_
        refine wN_end ?_
        refine condF ?_
        first | refine wN_skip ?_ | skip
        have c4 := k57.cl c4 (by simp)
        refine wN_seq ?_
        refine wN_lda (b := H2.next) (o := 0) rfl c4.rd (show row 6 _ 0 = some (g.vw ka kc) from rfl) ?_
        refine wN_lda (b := H5.next) (o := 0) rfl c7.rd (show row 10 _ 0 = some (cvc sb g.bn bb g.bn (g.sl o)) from rfl) ?_
        obtain ⟨H8, f8, k8⟩ := enough_ok (kn := kn) (lo := lo) (H := H7) (g := g) (kv := .slice ka g.bn kc) (v1 := slv sb g.bn g.bn) (v2 := slv bb g.bn g.bn) (t1 := (g.sl o).t1) (t2 := (g.sl o).t2) (l1 := (g.sl o).l1) (l2 := (g.sl o).l2) (s1 := (g.sl o).s1) (s2 := (g.sl o).s2) (r1 := (g.sl o).r1) (r2 := (g.sl o).r2)
        refine wN_callf (vs := [.agg (g.vw ka kc).toArray, cvv sb g.bn bb g.bn (g.sl o)]) rfl (callX_args f8) ?_
        have m8 := k8.1
        have k08 : Keep H H8 [] := k07.trans k8
        have c4 := k8.cl c4 (by simp)
        cases hq : decide ((g.sl o).t2 ≤ g.reserve)
        · have he : g.ens o = false := hq
          refine wN_pur (v := .bool true) rfl rfl ?_
          refine wN_end ?_
          refine condT ?_
          refine wN_seq ?_
          refine wN_mov (v := .slice none 0 0) rfl ?_
          refine wN_mov (v := iv 10) rfl ?_
          refine wN_end ?_
          exact And.intro trivial (Exists.intro _ (And.intro rfl ⟨k08, Or.inl ⟨by rw [Fh.be10 hok e he]; decide, by rw [Fh.be10 hok e he]; rfl⟩⟩))
        · have he : g.ens o = true := hq
          obtain ⟨o2, e2⟩ := Fh.fst_some e he
          refine wN_pur (v := .bool false) rfl rfl ?_
          refine wN_end ?_
          refine condF ?_
          first | refine wN_skip ?_ | skip
          refine wD_seq ?_
          refine wD_lda (b := H2.next) (o := 0) (q := g.vw ka kc) rfl c4.rd rfl ?_
          obtain ⟨H9, f9, k9, n9, r9⟩ := courses_ok (kn := kn) (lo := H8.next) (H := H8) (g := g) (ka := ka) (kc := kc)
          refine wD_callh (vs := [.agg (g.vw ka kc).toArray]) rfl (by kernel_rfl) (callX_args f9) ?_
          have k09 : Keep H H9 [] := k08.trans k9
          have m9 := k9.1
          have c4 := k9.cl c4 (by simp)
          refine wD_lda (b := H2.next) (o := 0) (q := g.vw ka kc) rfl c4.rd rfl ?_
          refine wD_pur (v := .func (.func 44) #[.agg (g.vw ka kc).toArray] #[]) rfl (by kernel_rfl) ?_
          obtain ⟨w10, H10, f10, k10, hb⟩ := best_ok (kn := kn) (lo := H9.next) (H := H9) (p := g.ens) (cf := g.cp) v (hat.keep k09 (by simp)) ((k24.trans ((k5.trans k57).trans (k8.trans k9))).sl0 hks) r9 (Nat.le_refl _) fits44 (cmps47 v)
          refine wD_callh (vs := [.func (.func 60) #[] #[pt H8.next], .func (.func 44) #[.agg (g.vw ka kc).toArray] #[], .func (.func 47) #[] #[]]) rfl (by kernel_rfl) (callX_args f10) ?_
          have m10 := k10.1
          have k010 : Keep H H10 [] := k09.trans k10
          have hb : Bq g H9.next w10 H10 g.fst := hb
          rw [e2] at hb
          obtain ⟨sb2, bb2, rfl, q3, q4, cq2, rest2⟩ := hb
          refine wD_mov (v := .tuple #[cvv sb2 g.bn bb2 g.bn (g.sl o2), .bool true]) rfl ?_
          refine wD_pur (v := cvv sb2 g.bn bb2 g.bn (g.sl o2)) rfl (by kernel_rfl) ?_
          refine wD_pur (v := .bool true) rfl (by kernel_rfl) ?_
          refine wD_alc ?_
          intro H11 k11 n11 c11
          refine wD_sta (b := H10.next) (o := 0) (v := cvv sb2 g.bn bb2 g.bn (g.sl o2)) rfl rfl c11 (by omega) rfl rfl (by simp) ?_
          intro H12 k12 n12 c12
          have c12 : Cl H12 H10.next (cvc sb2 g.bn bb2 g.bn (g.sl o2)) := c12
          refine wD_mov (v := .bool true) rfl ?_
          refine wD_end (by repeat' first | exact True.intro | exact (fun h => h) | refine And.intro ?_ ?_ | (intro h; have h : (_ : Nat) = _ := h; omega)) ?_
          have k1012 : Keep H10 H12 [] := k11.new k12 (fun b q => by simp at q; omega)
          refine wN_seq ?_
          refine wN_addo (b := H10.next) (o := 0) rfl ?_
          refine wN_ld (b := H10.next) (o := 0 + 0) (v := slv sb2 g.bn g.bn) rfl c12.rd rfl ?_
          refine wN_mov (v := slv sb2 g.bn g.bn) rfl ?_
          refine wN_mov (v := iv 0) rfl ?_
          refine wN_end ?_
          exact And.intro trivial (Exists.intro _ (And.intro rfl ⟨k010.trans k1012, Or.inr ⟨Fh.be0 hok e he, hok, sb2, o2, rfl, e2, by omega, k1012.sc cq2.ro (by simp), rest2⟩⟩))
set_option maxRecDepth 100000 in
theorem Least_ok {g : Fh} {f : Nat} (hat : g.At f H) (hlo : lo ≤ H.next) : ∃ w H', FnX Try.prog kn lo 23 [.agg g.v.toArray] H w H' ∧ Keep H H' [] ∧ RL g H.next w H' := by
  refine fnX_low (kn := kn) (lo := lo) (H := H) (args := [.agg g.v.toArray]) (Q := fun w H' => Keep H H' [] ∧ RL g H.next w H') Try.func23 B23 N23 Z23 L23 (by simp) ?_
  have hfl := hat.le
  refine wN_seq ?_
  refine wN_box (v := .agg g.v.toArray) rfl ?_
  intro H1 k1 n1 c1
  have c1 : Cl H1 H.next g.v := c1
  refine wN_mov (v := iv 0) rfl ?_
  refine wN_mov (v := .slice none 0 0) rfl ?_
  refine wN_mov (v := iv 0) rfl ?_
  refine wN_end ?_
  refine wN_seq ?_
  refine wN_lda (b := H.next) (o := 0) rfl c1.rd (show row 5 _ 0 = some g.v from rfl) ?_
  obtain ⟨w2, H2, f2, k2, hc⟩ := new_ok (kn := kn) (lo := lo) (H := H1) (hat.keep k1 (by simp)) (by omega)
  refine wN_callf (vs := [.agg g.v.toArray]) rfl (callX_args f2) ?_
  have m2 := k2.1
  have k02 : Keep H H2 [] := k1.trans k2
  rcases hc with ⟨hok, rfl⟩ | ⟨hok, ka, kc, rfl, hks, hkf⟩
  · refine wN_mov (v := .tuple #[.agg #[.slice none 0 0, .slice none 0 0, iv 0, iv 0, iv 0, .slice none 0 0], iv 1]) rfl ?_
    refine wN_pur (v := .agg #[.slice none 0 0, .slice none 0 0, iv 0, iv 0, iv 0, .slice none 0 0]) rfl (by kernel_rfl) ?_
    refine wN_pur (v := iv 1) rfl (by kernel_rfl) ?_
    refine wN_alc ?_
    intro H3 k3 n3 c3
    refine wN_sta (b := H2.next) (o := 0) (v := .agg #[.slice none 0 0, .slice none 0 0, iv 0, iv 0, iv 0, .slice none 0 0]) rfl rfl c3 (by omega) rfl rfl (by simp) ?_
    intro H4 k4 n4 c4
    have c4 : Cl H4 H2.next ([.slice none 0 0, .slice none 0 0, iv 0, iv 0, iv 0, .slice none 0 0]) := c4
    refine wN_mov (v := iv 1) rfl ?_
    refine wN_end ?_
    have k24 : Keep H2 H4 [] := k3.new k4 (fun b q => by simp at q; omega)
    have k04 : Keep H H4 [] := k02.trans k24
    have m4 := k24.1
    refine wN_seq ?_
    refine wN_mov (v := iv 1) rfl ?_
    refine wN_c_neq (a := 1) (b := 0) rfl rfl ?_
    refine wN_end ?_
    refine And.intro (fun q1 => ?_) (fun q1 => ?_)
    · refine wN_seq ?_
      refine wN_mov (v := iv 1) rfl ?_
      refine wN_mov (v := iv 0) rfl ?_
      refine wN_mov (v := .slice none 0 0) rfl ?_
      refine wN_mov (v := iv 1) rfl ?_
      refine wN_end ?_
      exact And.intro trivial (Exists.intro _ (And.intro rfl ⟨k04, Or.inl ⟨by rw [Fh.le1 hok]; decide, by rw [Fh.le1 hok]; rfl⟩⟩))
    · exact absurd q1 (by decide)
  · have v := Fh.vd hok hat
    refine wN_mov (v := .tuple #[.agg (g.vw ka kc).toArray, iv 0]) rfl ?_
    refine wN_pur (v := .agg (g.vw ka kc).toArray) rfl (by kernel_rfl) ?_
    refine wN_pur (v := iv 0) rfl (by kernel_rfl) ?_
    refine wN_alc ?_
    intro H3 k3 n3 c3
    refine wN_sta (b := H2.next) (o := 0) (v := .agg (g.vw ka kc).toArray) rfl rfl c3 (by omega) rfl rfl (by simp) ?_
    intro H4 k4 n4 c4
    have c4 : Cl H4 H2.next (g.vw ka kc) := c4
    refine wN_mov (v := iv 0) rfl ?_
    refine wN_end ?_
    have k24 : Keep H2 H4 [] := k3.new k4 (fun b q => by simp at q; omega)
    have k04 : Keep H H4 [] := k02.trans k24
    have m4 := k24.1
    refine wN_seq ?_
    refine wN_mov (v := iv 0) rfl ?_
    refine wN_c_neq (a := 0) (b := 0) rfl rfl ?_
    refine wN_end ?_
    refine And.intro (fun q1 => ?_) (fun q1 => ?_)
    · exact absurd q1 (by decide)
    · first | refine wN_skip ?_ | skip
      refine wN_seq ?_
      refine wN_lda (b := H2.next) (o := 0) rfl c4.rd (show row 6 _ 0 = some (g.vw ka kc) from rfl) ?_
      obtain ⟨w5, H5, f5, k5, hb⟩ := least_ok (kn := kn) (lo := lo) (H := H4) v (hat.keep k04 (by simp)) (k24.sl0 hks) (by omega)
      refine wN_callf (vs := [.agg (g.vw ka kc).toArray]) rfl (callX_args f5) ?_
      have m5 := k5.1
      have k05 : Keep H H5 [] := k04.trans k5
      have c4 := k5.cl c4 (by simp)
      cases e : g.lst with
      | none =>
        rw [e] at hb
        have hb : w5 = .tuple #[.agg zc78.toArray, .bool false] := hb
        subst hb
        refine wN_mov (v := .tuple #[.agg zc78.toArray, .bool false]) rfl ?_
        refine wN_pur (v := .agg zc78.toArray) rfl (by kernel_rfl) ?_
        refine wN_pur (v := .bool false) rfl (by kernel_rfl) ?_
        refine wN_alc ?_
        intro H6 k6 n6 c6
        refine wN_sta (b := H5.next) (o := 0) (v := .agg zc78.toArray) rfl rfl c6 (by omega) rfl rfl (by simp) ?_
        intro H7 k7 n7 c7
        have c7 : Cl H7 H5.next (zc78) := c7
        refine wN_mov (v := .bool false) rfl ?_
        refine wN_end ?_
        have k57 : Keep H5 H7 [] := k6.new k7 (fun b q => by simp at q; omega)
        have k07 : Keep H H7 [] := k05.trans k57
        have m7 := k57.1
        refine wN_seq ?_
        refine wN_mov (v := .bool false) rfl ?_
        refine wN_pur (v := .bool true) rfl rfl ?_
        refine wN_end ?_
        refine condT ?_
        refine wN_seq ?_
        refine wN_mov (v := iv 0) rfl ?_
        refine wN_mov (v := .slice none 0 0) rfl ?_
        refine wN_mov (v := iv 4) rfl ?_
        refine wN_end ?_
        exact And.intro trivial (Exists.intro _ (And.intro rfl ⟨k07, Or.inl ⟨by rw [Fh.le4 hok e]; decide, by rw [Fh.le4 hok e]; rfl⟩⟩))
      | some o =>
        rw [e] at hb
        obtain ⟨sb, bb, rfl, q1, q2, cq, rest⟩ := hb
        refine wN_mov (v := .tuple #[cvv sb g.bn bb g.bn (g.sl o), .bool true]) rfl ?_
        refine wN_pur (v := cvv sb g.bn bb g.bn (g.sl o)) rfl (by kernel_rfl) ?_
        refine wN_pur (v := .bool true) rfl (by kernel_rfl) ?_
        refine wN_alc ?_
        intro H6 k6 n6 c6
        refine wN_sta (b := H5.next) (o := 0) (v := cvv sb g.bn bb g.bn (g.sl o)) rfl rfl c6 (by omega) rfl rfl (by simp) ?_
        intro H7 k7 n7 c7
        have c7 : Cl H7 H5.next (cvc sb g.bn bb g.bn (g.sl o)) := c7
        refine wN_mov (v := .bool true) rfl ?_
        refine wN_end ?_
        have k57 : Keep H5 H7 [] := k6.new k7 (fun b q => by simp at q; omega)
        have k07 : Keep H H7 [] := k05.trans k57
        have m7 := k57.1
        refine wN_seq ?_
        refine wN_mov (v := .bool true) rfl ?_
        refine wN_pur (v := .bool false) rfl rfl ?_
        refine wN_end ?_
        refine condF ?_
        first | refine wN_skip ?_ | skip
        refine wD_seq ?_
        refine wD_addo (b := H5.next) (o := 0) rfl ?_
        refine wD_addo (b := H5.next) (o := 0 + 2) rfl ?_
        refine wD_addo (b := H5.next) (o := 0 + 2 + 0) rfl ?_
        refine wD_ld (b := H5.next) (o := 0 + 2 + 0 + 1) (v := iv (g.sl o).t2) rfl c7.rd rfl ?_
        refine wD_addo (b := H5.next) (o := 0) rfl ?_
        refine wD_ld (b := H5.next) (o := 0 + 0) (v := slv sb g.bn g.bn) rfl c7.rd rfl ?_
        refine wD_mov (v := iv (g.sl o).t2) rfl ?_
        refine wD_mov (v := slv sb g.bn g.bn) rfl ?_
        refine wD_mov (v := iv 0) rfl ?_
        refine wD_end (by repeat' first | exact True.intro | exact (fun h => h) | refine And.intro ?_ ?_ | (intro h; have h : (_ : Nat) = _ := h; omega)) ?_
        exact And.intro trivial (Exists.intro _ (And.intro rfl ⟨k07, Or.inr ⟨Fh.le0 hok e, hok, sb, o, rfl, e, by omega, k57.sc cq.ro (by simp), rest⟩⟩))
end
end Go.Ax

/-
  Flood: the best one is the best: maths; Ints (25) (written by program).
-/
namespace Go.Ax
open Go Go.RowKit Go.Proofs

theorem sg_neg (a b : Int) : sg b a = - sg a b := by
  unfold sg; split <;> split <;> (try split) <;> (try split) <;> omega
theorem sg_zero {a b : Int} (h : sg a b = 0) : a = b := by
  unfold sg at h; split at h
  · omega
  · split at h <;> omega
theorem sg_lt {a b : Int} (h : sg a b < 0) : a < b := by
  unfold sg at h; split at h
  · assumption
  · split at h <;> omega
theorem sg_of {a b : Int} (h : a < b) : sg a b = -1 := by unfold sg; rw [if_pos h]
theorem lexC_neg : ∀ (a b : List Int), lexC b a = - lexC a b
  | [], [] => rfl
  | [], _ :: _ => rfl
  | _ :: _, [] => rfl
  | a :: r, b :: s => by
    have ih := lexC_neg r s
    have e := sg_neg a b
    simp only [lexC]
    by_cases h : sg a b = 0
    · rw [if_neg (by omega), if_neg (by omega)]; exact ih
    · rw [if_pos (by omega), if_pos (by omega)]; exact e
theorem lexC_zero : ∀ {a b : List Int}, lexC a b = 0 → a = b
  | [], [], _ => rfl
  | [], _ :: _, h => by simp [lexC] at h
  | _ :: _, [], h => by simp [lexC] at h
  | a :: r, b :: s, h => by
    simp only [lexC] at h
    by_cases q : sg a b = 0
    · rw [if_neg (by omega)] at h
      rw [sg_zero q, lexC_zero h]
    · rw [if_pos (by omega)] at h; omega
theorem lexC_trans : ∀ {a b c : List Int}, lexC a b < 0 → lexC b c < 0 → lexC a c < 0
  | [], [], _, h, _ => by simp [lexC] at h
  | [], _ :: _, [], _, h => by simp [lexC] at h
  | [], _ :: _, _ :: _, _, _ => by simp [lexC]
  | _ :: _, [], _, h, _ => by simp [lexC] at h
  | _ :: _, _ :: _, [], _, h => by simp [lexC] at h
  | a :: r, b :: s, c :: t, h1, h2 => by
    simp only [lexC] at h1 h2 ⊢
    by_cases q1 : sg a b = 0
    · rw [if_neg (by omega)] at h1
      have e1 := sg_zero q1
      subst e1
      by_cases q2 : sg a c = 0
      · rw [if_neg (by omega)] at h2 ⊢
        exact lexC_trans h1 h2
      · rw [if_pos (by omega)] at h2 ⊢
        exact h2
    · rw [if_pos (by omega)] at h1
      by_cases q2 : sg b c = 0
      · have e2 := sg_zero q2
        subst e2
        rw [if_pos (by omega)]; exact h1
      · rw [if_pos (by omega)] at h2
        have a1 := sg_lt h1
        have a2 := sg_lt h2
        have e := sg_of (show a < c by omega)
        rw [if_pos (by omega)]; omega
/-- what an order is measured by -/
def Fh.kp (g : Fh) (o : List Nat) : List Int := (g.sl o).d2 :: (g.sl o).t2 :: zi o
def Fh.kw (g : Fh) (o : List Nat) : List Int := (g.sl o).t2 :: g.kp o
theorem cp_key (g : Fh) (o o2 : List Nat) : g.cp o o2 = lexC (g.kp o) (g.kp o2) := by
  unfold Fh.cp cpB Fh.kp
  simp only [fnz, lexC]
  split
  · rfl
  · split
    · rfl
    · split <;> omega
theorem cw_key (g : Fh) (o o2 : List Nat) : g.cw o o2 = lexC (g.kw o) (g.kw o2) := by
  have e := cp_key g o o2
  unfold Fh.cp at e
  unfold Fh.cw cwB Fh.kw
  rw [e]
  simp only [fnz, lexC]
  split
  · rfl
  · split <;> omega
theorem zi_inj {a b : List Nat} (h : zi a = zi b) : a = b := by rw [← no_zi a, ← no_zi b, h]
theorem kp_inj {g : Fh} {a b : List Nat} (h : g.kp a = g.kp b) : a = b := by
  unfold Fh.kp at h
  injection h with _ h; injection h with _ h
  exact zi_inj h
theorem kw_inj {g : Fh} {a b : List Nat} (h : g.kw a = g.kw b) : a = b := by
  unfold Fh.kw at h
  injection h with _ h
  exact kp_inj h
theorem fold_minL {p : List Nat → Bool} {cf : List Nat → List Nat → Int} {K : List Nat → List Int} (hK : ∀ a b, cf a b = lexC (K a) (K b)) (hi : ∀ a b, K a = K b → a = b) :
    ∀ (s : List (List Nat)) (b R : List Nat), s.foldl (pick p cf) (some b) = some R → (b = R ∨ cf R b < 0) ∧ ∀ o ∈ s, p o = true → o = R ∨ cf R o < 0
  | [], b, R, h => ⟨.inl (by simpa using h), fun o ho => by cases ho⟩
  | x :: s, b, R, h => by
    simp only [List.foldl_cons] at h
    have tr : ∀ a b c, cf a b < 0 → cf b c < 0 → cf a c < 0 := fun a b c h1 h2 => by rw [hK] at h1 h2 ⊢; exact lexC_trans h1 h2
    have tot : ∀ a b, ¬ cf a b < 0 → b = a ∨ cf b a < 0 := fun a b h1 => by
      rw [hK] at h1
      have e := lexC_neg (K a) (K b)
      rcases Int.lt_or_eq_of_le (show 0 ≤ lexC (K a) (K b) by omega) with q | q
      · right; rw [hK]; omega
      · left; exact (hi _ _ (lexC_zero q.symm)).symm
    have leT : ∀ a b, (b = R ∨ cf R b < 0) → cf b a < 0 → a = R ∨ cf R a < 0 := fun a b h1 h2 => by
      rcases h1 with rfl | h1
      · exact .inr h2
      · exact .inr (tr _ _ _ h1 h2)
    cases q : (p x && decide (cf x b < 0))
    · rw [show pick p cf (some b) x = some b by show (bif (p x && decide (cf x b < 0)) then some x else some b) = some b; rw [q]; rfl] at h
      obtain ⟨h1, h2⟩ := fold_minL hK hi s b R h
      refine ⟨h1, fun o ho hp => ?_⟩
      rcases List.mem_cons.mp ho with rfl | ho
      · rw [hp] at q
        have q : ¬ cf o b < 0 := by simpa using q
        rcases tot o b q with e | e
        · rw [← e]; exact h1
        · exact leT o b h1 e
      · exact h2 o ho hp
    · rw [show pick p cf (some b) x = some x by show (bif (p x && decide (cf x b < 0)) then some x else some b) = some x; rw [q]; rfl] at h
      obtain ⟨h1, h2⟩ := fold_minL hK hi s x R h
      have hx : cf x b < 0 := by
        simp only [Bool.and_eq_true, decide_eq_true_eq] at q; exact q.2
      refine ⟨leT b x h1 hx, fun o ho hp => ?_⟩
      rcases List.mem_cons.mp ho with rfl | ho
      · exact h1
      · exact h2 o ho hp
theorem fold_minN {p : List Nat → Bool} {cf : List Nat → List Nat → Int} {K : List Nat → List Int} (hK : ∀ a b, cf a b = lexC (K a) (K b)) (hi : ∀ a b, K a = K b → a = b) :
    ∀ (s : List (List Nat)) (R : List Nat), s.foldl (pick p cf) none = some R → ∀ o ∈ s, p o = true → o = R ∨ cf R o < 0
  | [], R, h, o, ho => by cases ho
  | x :: s, R, h, o, ho => by
    simp only [List.foldl_cons] at h
    cases q : p x
    · rw [show pick p cf none x = none by show (bif p x then some x else none) = none; rw [q]; rfl] at h
      intro hp
      rcases List.mem_cons.mp ho with rfl | ho
      · rw [hp] at q; cases q
      · exact fold_minN hK hi s R h o ho hp
    · rw [show pick p cf none x = some x by show (bif p x then some x else none) = some x; rw [q]; rfl] at h
      obtain ⟨h1, h2⟩ := fold_minL hK hi s x R h
      intro hp
      rcases List.mem_cons.mp ho with rfl | ho
      · exact h1
      · exact h2 o ho hp
theorem Fh.lst_min {g : Fh} {R : List Nat} (h : g.lst = some R) {o : List Nat} (ho : o ∈ perms g.bn) (hc : g.can o (g.bn - 1) = true) : o = R ∨ g.cw R o < 0 :=
  fold_minN (cw_key g) (fun _ _ => kw_inj) _ R h o (List.mem_filter.mpr ⟨ho, by simpa using hc⟩) rfl
theorem Fh.fst_min {g : Fh} {R : List Nat} (h : g.fst = some R) {o : List Nat} (ho : o ∈ perms g.bn) (hc : g.can o (g.bn - 1) = true) (he : g.ens o = true) : o = R ∨ g.cp R o < 0 :=
  fold_minN (cp_key g) (fun _ _ => kp_inj) _ R h o (List.mem_filter.mpr ⟨ho, by simpa using hc⟩) he
/-- the same harvest with another reserve -/
def Fh.wr (g : Fh) (n : Int) : Fh := { g with reserve := n }
theorem Fh.At.wr {g : Fh} {f : Nat} {H : Hp} (h : g.At f H) (n : Int) : (g.wr n).At f H := ⟨h.le, h.b, h.r, h.bl, h.rl, h.bf, h.rf, h.bi, h.ri⟩
theorem Fh.st_wr (g : Fh) (n : Int) (o : List Nat) : ∀ k, (g.wr n).st o k = g.st o k
  | 0 => rfl
  | k + 1 => by
    show (g.wr n).nxt ((g.wr n).st o k) _ = g.nxt (g.st o k) _
    rw [Fh.st_wr g n o k]; rfl
theorem Fh.sl_wr (g : Fh) (n : Int) (o : List Nat) : (g.wr n).sl o = g.sl o := Fh.st_wr g n o _
theorem Fh.cp_wr (g : Fh) (n : Int) : (g.wr n).cp = g.cp := by funext a b; unfold Fh.cp; rw [Fh.sl_wr, Fh.sl_wr]
theorem Fh.cw_wr (g : Fh) (n : Int) : (g.wr n).cw = g.cw := by funext a b; unfold Fh.cw; rw [Fh.sl_wr, Fh.sl_wr]
theorem Fh.lst_wr (g : Fh) (n : Int) : (g.wr n).lst = g.lst := by unfold Fh.lst; rw [Fh.cw_wr]; rfl
theorem Fh.ok_wr {g : Fh} {n : Int} (h : g.ok = true) (h1 : 0 ≤ n) (h2 : n ≤ 1099511627776) : (g.wr n).ok = true := by
  unfold Fh.ok at h ⊢
  simp only [Bool.and_eq_true] at h ⊢
  refine ⟨h.1, ?_⟩
  show inB n 0 1099511627776 = true
  unfold inB
  simp [h1, h2]
theorem Fh.ens_wr (g : Fh) (n : Int) (o : List Nat) : (g.wr n).ens o = decide ((g.sl o).t2 ≤ n) := by unfold Fh.ens; rw [Fh.sl_wr]; rfl
/-- with just so much the one that takes the least is the best one -/
theorem Fh.fst_wr {g : Fh} {R : List Nat} (h : g.lst = some R) : (g.wr (g.sl R).t2).fst = some R := by
  have h' : (g.wr (g.sl R).t2).lst = some R := by rw [Fh.lst_wr]; exact h
  have he : (g.wr (g.sl R).t2).ens R = true := by rw [Fh.ens_wr]; simp
  obtain ⟨c, hc⟩ := Fh.fst_some h' he
  obtain ⟨m1, m2, _⟩ := Fh.bst_in h
  obtain ⟨c1, c2, c3⟩ := Fh.bst_in hc
  rw [hc]
  have c1 : c ∈ perms g.bn := c1
  have c2 : g.can c (g.bn - 1) = true := c2
  rcases Fh.lst_min h c1 c2 with e | e
  · rw [e]
  · rcases Fh.fst_min hc m1 m2 he with e2 | e2
    · rw [e2]
    · exfalso
      rw [Fh.cp_wr] at e2
      have c3 : (g.wr (g.sl R).t2).ens c = true := c3
      rw [Fh.ens_wr] at c3
      have c3 : (g.sl c).t2 ≤ (g.sl R).t2 := by simpa using c3
      rw [cw_key] at e
      rw [cp_key] at e2
      have n := lexC_neg (g.kp R) (g.kp c)
      unfold Fh.kw at e
      simp only [lexC] at e
      by_cases q : sg (g.sl R).t2 (g.sl c).t2 = 0
      · rw [if_neg (by omega)] at e; omega
      · rw [if_pos (by omega)] at e
        have := sg_lt e; omega
section
variable {kn : FuncId → Option Bool} {lo : Nat} {H : Hp}
set_option maxRecDepth 100000 in
/-- Ints of lists that are the same -/
theorem Ints_ok {sa sb : Option Addr} {m cap cap2 : Nat} {us : List Int} (ha : Sl H sa m cap (ints us)) (hb : Sl H sb m cap2 (ints us)) (hl : us.length = m) (hm : m ≤ 1000) : ∃ H', FnX Try.prog kn lo 25 [.slice sa m cap, .slice sb m cap2] H (.bool true) H' ∧ Keep H H' [] := by
  have key := fnX_low (kn := kn) (lo := lo) (H := H) (args := [.slice sa m cap, .slice sb m cap2]) (Q := fun w H' => w = .bool true ∧ Keep H H' []) Try.func25 B25 N25 Z25 L25 (by simp) ?_
  · obtain ⟨w, H', h, rfl, q⟩ := key; exact ⟨H', h, q⟩
  have hk := Keep.refl H []
  refine wN_seq ?_
  refine wN_mov (v := .bool false) rfl ?_
  refine wN_end ?_
  refine wN_seq ?_
  refine wN_mov (v := .slice sa m cap) rfl ?_
  refine wN_len (m := m) rfl ?_
  refine wN_mov (v := .slice sb m cap2) rfl ?_
  refine wN_len (m := m) rfl ?_
  refine wN_c_neq (a := (m : Int)) (b := (m : Int)) rfl rfl ?_
  refine wN_end ?_
  refine And.intro (fun q1 => ?_) (fun q1 => ?_)
  · simp at q1
  · first | refine wN_skip ?_ | skip
    refine wN_seq ?_
    refine wN_mov (v := iv 0) rfl ?_
    refine wN_end ?_
    refine loop_low (fn := Try.f25) E25_1 N25 L25x1 (fun i : Nat => [(0, .slice sa m cap), (1, .slice sb m cap2), (5, iv (i : Int))])
      (fun q i H' => i + q = m ∧ Keep H H' []) m 0 ⟨by omega, hk⟩ ⟨rfl, rfl, rfl, trivial⟩ ?_
    rintro q i L1 ⟨hiq, hk⟩
    have ha := hk.sl0 ha
    have hb := hk.sl0 hb
    refine wN_seq ?_
    refine wN_mov (v := iv (i : Int)) rfl ?_
    refine wN_mov (v := .slice sa m cap) rfl ?_
    refine wN_len (m := m) rfl ?_
    refine wN_c_lss (a := (i : Int)) (b := (m : Int)) rfl rfl ?_
    refine wN_end ?_
    refine And.intro (fun q1 => ?_) (fun q1 => ?_)
    · have q1 : (i : Int) < (m : Int) := of_decide_eq_true q1
      obtain ⟨x, hx⟩ := get_some (l := us) (i := i) (by omega)
      rcases ha with ⟨_, h0, _⟩ | ⟨b1, rfl, r1, _⟩
      · omega
      rcases hb with ⟨_, h0, _⟩ | ⟨b2, rfl, r2, _⟩
      · omega
      first | refine wN_skip ?_ | skip
      refine wD_seq ?_
      refine wD_mov (v := .slice (some ⟨b1, 0, none⟩) m cap) rfl ?_
      refine wD_mov (v := iv (i : Int)) rfl ?_
      refine wD_idx (b := b1) (o := 0) (k := i) (j := (i : Int)) rfl rfl rfl (by omega) ?_
      refine wD_ld (b := b1) (o := 0 + i * 1) (v := iv x) rfl r1 (ints_at hx) ?_
      refine wD_mov (v := .slice (some ⟨b2, 0, none⟩) m cap2) rfl ?_
      refine wD_mov (v := iv (i : Int)) rfl ?_
      refine wD_idx (b := b2) (o := 0) (k := i) (j := (i : Int)) rfl rfl rfl (by omega) ?_
      refine wD_ld (b := b2) (o := 0 + i * 1) (v := iv x) rfl r2 (ints_at hx) ?_
      refine wD_c_neq (a := x) (b := x) rfl rfl ?_
      refine wD_end (by repeat' first | exact True.intro | exact (fun h => h) | refine And.intro ?_ ?_ | (intro h; have h : (_ : Nat) = _ := h; omega)) ?_
      refine And.intro (fun q2 => ?_) (fun q2 => ?_)
      · simp at q2
      · first | refine wN_skip ?_ | skip
        first | refine wN_reg ?_ | refine wN_blk ?_ | (refine wOps_nil ?_; refine wN_reg ?_)
        refine wN_mov (v := iv (i : Int)) rfl ?_
        refine wN_add (a := (i : Int)) (b := 1) rfl rfl ⟨by omega, by omega⟩ ?_
        refine wN_mov (v := iv ((i : Int) + 1)) rfl ?_
        refine wN_end ?_
        exact ⟨q - 1, i + 1, by omega, ⟨by omega, hk⟩, rfl, rfl, rfl, trivial⟩
    · refine wN_seq ?_
      refine wN_mov (v := .bool true) rfl ?_
      refine wN_end ?_
      exact And.intro trivial (Exists.intro _ (And.intro rfl ⟨rfl, hk⟩))
end
end Go.Ax

/-
  Flood: the law FloodLeast, whatever the input (written by program).
-/
namespace Go.Ax
open Go Go.RowKit Go.Proofs

theorem Fh.be_le {g : Fh} (h : g.le ≠ 0) : g.be = g.le := by
  cases hk : g.ok
  · rw [Fh.be1 hk, Fh.le1 hk]
  · cases e : g.lst with
    | none => rw [Fh.be4 hk e, Fh.le4 hk e]
    | some o => exact absurd (Fh.le0 hk e) h
section
variable {kn : FuncId → Option Bool} {lo : Nat} {H : Hp}
set_option maxRecDepth 100000 in
set_option maxHeartbeats 4000000 in
theorem law_least (hkn : kn 13 = some true) {g : Fh} {f : Nat} (hat : g.At f H) (hlo : lo ≤ H.next) : ∃ H', FnX Try.prog kn lo 9 [.agg g.v.toArray] H (.bool true) H' := by
  have key := fnX_low (kn := kn) (lo := lo) (H := H) (args := [.agg g.v.toArray]) (Q := fun w H' => w = .bool true) Try.func9 B9 N9 Z9 L9 (by simp) ?_
  · obtain ⟨w, H', h, rfl⟩ := key; exact ⟨H', h⟩
  have hfl := hat.le
  refine wN_seq ?_
  refine wN_box (v := .agg g.v.toArray) rfl ?_
  intro H1 k1 n1 c1
  have c1 : Cl H1 H.next g.v := c1
  refine wN_mov (v := .bool false) rfl ?_
  refine wN_end ?_
  have hat := hat.keep k1 (by simp)
  refine wN_seq ?_
  refine wN_lda (b := H.next) (o := 0) rfl c1.rd (show row 5 _ 0 = some g.v from rfl) ?_
  obtain ⟨_, H2, f2, tg, rfl, k2, hgr⟩ := great_ok (kn := kn) (lo := lo) (H := H1) (q := 5) hat (by omega)
  refine wN_callf rfl (callX_args f2) ?_
  have m2 := k2.1
  have hat := hat.keep k2 (by simp)
  have c1 := k2.cl c1 (by simp)
  cases tg
  rotate_left
  · refine wN_end ?_
    refine condT ?_
    refine wN_seq ?_
    refine wN_callf (vs := []) rfl (callX_known hkn) ?_
    refine wN_mov (v := .bool true) rfl ?_
    refine wN_end ?_
    exact And.intro trivial (Exists.intro _ (And.intro rfl rfl))
  refine wN_end ?_
  refine condF ?_
  first | refine wN_skip ?_ | skip
  refine wN_seq ?_
  refine wN_lda (b := H.next) (o := 0) rfl c1.rd (show row 5 _ 0 = some g.v from rfl) ?_
  obtain ⟨w3, H3, f3, k3, hl⟩ := Least_ok (kn := kn) (lo := lo) (H := H2) hat (by omega)
  refine wN_callf (vs := [.agg g.v.toArray]) rfl (callX_args f3) ?_
  have m3 := k3.1
  have hat := hat.keep k3 (by simp)
  have c1 := k3.cl c1 (by simp)
  rcases hl with ⟨hle, rfl⟩ | ⟨hle, hok, sb, o, rfl, hlst, hord⟩
  · have hbe := Fh.be_le hle
    refine wN_mov (v := .tuple #[iv 0, .slice none 0 0, iv g.le]) rfl ?_
    refine wN_pur (v := iv 0) rfl (by kernel_rfl) ?_
    refine wN_pur (v := .slice none 0 0) rfl (by kernel_rfl) ?_
    refine wN_pur (v := iv g.le) rfl (by kernel_rfl) ?_
    refine wN_mov (v := iv 0) rfl ?_
    refine wN_mov (v := .slice none 0 0) rfl ?_
    refine wN_mov (v := iv g.le) rfl ?_
    refine wN_end ?_
    refine wN_seq ?_
    refine wN_lda (b := H.next) (o := 0) rfl c1.rd (show row 5 _ 0 = some g.v from rfl) ?_
    obtain ⟨w4, H4, f4, k4, hb⟩ := Best_ok (kn := kn) (lo := lo) (H := H3) hat (by omega)
    refine wN_callf (vs := [.agg g.v.toArray]) rfl (callX_args f4) ?_
    obtain rfl : w4 = .tuple #[.slice none 0 0, iv g.le] := by
      rcases hb with ⟨_, e⟩ | ⟨e, _⟩
      · rw [e, hbe]
      · rw [hbe] at e; exact absurd e hle
    refine wN_mov (v := .tuple #[.slice none 0 0, iv g.le]) rfl ?_
    refine wN_pur (v := .slice none 0 0) rfl (by kernel_rfl) ?_
    refine wN_pur (v := iv g.le) rfl (by kernel_rfl) ?_
    refine wN_mov (v := .slice none 0 0) rfl ?_
    refine wN_mov (v := iv g.le) rfl ?_
    refine wN_end ?_
    refine wN_seq ?_
    refine wN_mov (v := iv g.le) rfl ?_
    refine wN_c_neq (a := g.le) (b := 0) rfl rfl ?_
    refine wN_end ?_
    refine And.intro (fun q1 => ?_) (fun q1 => ?_)
    rotate_left
    · exfalso; apply hle; simpa using q1
    refine wN_seq ?_
    refine wN_mov (v := iv 0) rfl ?_
    refine wN_b_eql (a := 0) (b := 0) rfl rfl ?_
    intro t1 ht1
    have ht1 : t1 = true := by rw [← ht1]; rfl
    subst ht1
    refine wN_mov (v := .bool true) rfl ?_
    refine wN_g rfl (wN_mov (v := .slice none 0 0) rfl ?_)
    refine wN_g rfl (wN_len (m := 0) rfl ?_)
    refine wN_g rfl (wN_b_eql (a := ((0 : Nat) : Int)) (b := 0) rfl rfl ?_)
    intro t2 ht2
    have ht2 : t2 = true := by rw [← ht2]; rfl
    subst ht2
    refine wN_pur (v := .bool true) rfl (rfl) ?_
    refine wN_mov (v := .bool true) rfl ?_
    refine wN_g rfl (wN_mov (v := iv g.le) rfl ?_)
    refine wN_g rfl (wN_mov (v := iv g.le) rfl ?_)
    refine wN_g rfl (wN_b_eql (a := g.le) (b := g.le) rfl rfl ?_)
    intro t3 ht3
    have ht3 : t3 = true := by rw [← ht3]; simp
    subst ht3
    refine wN_pur (v := .bool true) rfl (rfl) ?_
    refine wN_mov (v := .bool true) rfl ?_
    refine wN_g rfl (wN_mov (v := .slice none 0 0) rfl ?_)
    refine wN_g rfl (wN_len (m := 0) rfl ?_)
    refine wN_g rfl (wN_b_eql (a := ((0 : Nat) : Int)) (b := 0) rfl rfl ?_)
    intro t4 ht4
    have ht4 : t4 = true := by rw [← ht4]; rfl
    subst ht4
    refine wN_pur (v := .bool true) rfl (rfl) ?_
    refine wN_mov (v := .bool true) rfl ?_
    refine wN_g rfl (wN_callf (vs := []) rfl (callX_known hkn) ?_)
    refine wN_pur (v := .bool true) rfl (rfl) ?_
    refine wN_mov (v := .bool true) rfl ?_
    refine wN_end ?_
    exact And.intro trivial (Exists.intro _ (And.intro rfl rfl))
  · have v := Fh.vd hok hat
    obtain ⟨q1, hso, ho1, ho2, ho3, hcan⟩ := hord
    obtain ⟨x, ex⟩ : ∃ x, x = g.sl o := ⟨_, rfl⟩
    have hin := Fh.st_in v hat (us := zi o) (zi_ord ho1 ho2 ho3) (g.bn - 1) (by have := v.n; omega) (by rw [no_zi]; exact hcan)
    rw [no_zi] at hin
    have vn := v.n
    have ht := hin.t2
    have ht0 : 0 ≤ (g.sl o).t2 := ht.1
    have ht1 : (g.sl o).t2 ≤ 1099511627776 := by
      have := ht.2
      show (g.st o (g.bn - 1)).t2 ≤ _
      have e : ((g.bn - 1 : Nat) : Int) + 1 = g.bn := by omega
      rw [e] at this
      have : (g.bn : Int) * 70000000000 ≤ 7 * 70000000000 := by omega
      omega
    obtain ⟨y, hy⟩ : ∃ y, (g.sl o).t2 = y := ⟨_, rfl⟩
    have hbe : (g.be = 0 ∧ y ≤ g.reserve) ∨ (g.be = 10 ∧ ¬ y ≤ g.reserve) := by
      cases he : g.ens o
      · exact .inr ⟨Fh.be10 hok hlst he, by rw [← hy]; unfold Fh.ens at he; simpa using he⟩
      · exact .inl ⟨Fh.be0 hok hlst he, by rw [← hy]; unfold Fh.ens at he; simpa using he⟩
    rw [hy] at ht0 ht1 ⊢
    refine wN_mov (v := .tuple #[iv y, slv sb g.bn g.bn, iv 0]) rfl ?_
    refine wN_pur (v := iv y) rfl (by kernel_rfl) ?_
    refine wN_pur (v := slv sb g.bn g.bn) rfl (by kernel_rfl) ?_
    refine wN_pur (v := iv 0) rfl (by kernel_rfl) ?_
    refine wN_mov (v := iv y) rfl ?_
    refine wN_mov (v := slv sb g.bn g.bn) rfl ?_
    refine wN_mov (v := iv 0) rfl ?_
    refine wN_end ?_
    refine wN_seq ?_
    refine wN_lda (b := H.next) (o := 0) rfl c1.rd (show row 5 _ 0 = some g.v from rfl) ?_
    obtain ⟨w4, H4, f4, k4, hb⟩ := Best_ok (kn := kn) (lo := lo) (H := H3) hat (by omega)
    refine wN_callf (vs := [.agg g.v.toArray]) rfl (callX_args f4) ?_
    obtain ⟨bv, rfl⟩ : ∃ bv, w4 = .tuple #[bv, iv g.be] := by
      rcases hb with ⟨_, e⟩ | ⟨e0, _, sb2, o2, e, _⟩
      · exact ⟨_, e⟩
      · exact ⟨_, by rw [e, e0]⟩
    have m4 := k4.1
    have hat := hat.keep k4 (by simp)
    have c1 := k4.cl c1 (by simp)
    have hso := k4.sc hso (by simp)
    refine wN_mov (v := .tuple #[bv, iv g.be]) rfl ?_
    refine wN_pur (v := bv) rfl (by kernel_rfl) ?_
    refine wN_pur (v := iv g.be) rfl (by kernel_rfl) ?_
    refine wN_mov (v := bv) rfl ?_
    refine wN_mov (v := iv g.be) rfl ?_
    refine wN_end ?_
    refine wN_seq ?_
    refine wN_mov (v := iv 0) rfl ?_
    refine wN_c_neq (a := 0) (b := 0) rfl rfl ?_
    refine wN_end ?_
    refine And.intro (fun q1 => ?_) (fun q1 => ?_)
    · exact absurd q1 (by decide)
    first | refine wN_skip ?_ | skip
    refine wN_seq ?_
    refine wN_mov (v := iv y) rfl ?_
    refine wN_b_lss (a := y) (b := 0) rfl rfl ?_
    intro t5 ht5
    have ht5 : t5 = false := by rw [← ht5]; simp; omega
    subst ht5
    refine wN_mov (v := .bool false) rfl ?_
    refine wN_g rfl (wN_mov (v := iv y) rfl ?_)
    refine wN_g rfl (wN_b_gtr (a := y) (b := 1099511627776) rfl rfl ?_)
    intro t6 ht6
    have ht6 : t6 = false := by rw [← ht6]; simp; omega
    subst ht6
    refine wN_pur (v := .bool false) rfl (rfl) ?_
    refine wN_mov (v := .bool false) rfl ?_
    refine wN_g rfl (wN_mov (v := iv g.be) rfl ?_)
    rcases hbe with ⟨hbe, hle2⟩ | ⟨hbe, hle2⟩
    · refine wN_g rfl (wN_b_neq (a := g.be) (b := 0) rfl rfl ?_)
      intro t7 ht7
      have ht7 : t7 = false := by rw [← ht7]; rw [hbe]; rfl
      subst ht7
      refine wN_g rfl (wN_mov (v := .bool false) rfl ?_)
      refine wN_gs rfl ?_
      refine wN_gs rfl ?_
      refine wN_g rfl (wN_pur (v := .bool false) rfl (rfl) ?_)
      refine wN_pur (v := .bool false) rfl (rfl) ?_
      refine wN_mov (v := .bool false) rfl ?_
      refine wN_g rfl (wN_mov (v := iv g.be) rfl ?_)
      refine wN_g rfl (wN_b_eql (a := g.be) (b := 0) rfl rfl ?_)
      intro t8 ht8
      have ht8 : t8 = true := by rw [← ht8]; rw [hbe]; rfl
      subst ht8
      refine wN_g rfl (wN_mov (v := iv y) rfl ?_)
      refine wN_g rfl (wN_addo (b := H.next) (o := 0) rfl ?_)
      refine wN_g rfl (wN_ld (b := H.next) (o := 0 + 3) (v := iv g.reserve) rfl c1.rd rfl ?_)
      refine wN_g rfl (wN_b_leq (a := y) (b := g.reserve) rfl rfl ?_)
      intro t9 ht9
      have ht9 : t9 = true := by rw [← ht9]; simpa using hle2
      subst ht9
      refine wN_g rfl (wN_pur (v := .bool false) rfl (by kernel_rfl) ?_)
      refine wN_pur (v := .bool false) rfl (rfl) ?_
      refine wN_end ?_
      refine condF ?_
      first | refine wN_skip ?_ | skip
      refine wN_seq ?_
      refine wN_mov (v := iv y) rfl ?_
      refine wN_addo (b := H.next) (o := 0) rfl ?_
      refine wN_st (b := H.next) (o := 0 + 3) (v := iv y) rfl rfl c1 (by omega) rfl rfl (by simp) ?_
      intro H5 k5 n5 c5
      have c5 : Cl H5 H.next (g.wr y).v := c5
      refine wN_end ?_
      have m5 := k5.1
      have nb : ∀ z, z ≠ H.next → z ∉ [H.next] := fun z hz => by simpa using hz
      have hat := (hat.keep k5 (fun z q => by simp at q; omega)).wr y
      have hso := k5.sc hso (nb _ (by omega))
      have hok1 : (g.wr y).ok = true := Fh.ok_wr hok ht0 ht1
      have l1 : (g.wr y).lst = some o := by rw [Fh.lst_wr]; exact hlst
      have e1 : (g.wr y).ens o = true := by rw [Fh.ens_wr, hy]; simp
      have fst1 : (g.wr y).fst = some o := by rw [← hy]; exact Fh.fst_wr hlst
      have b1 : (g.wr y).be = 0 := Fh.be0 hok1 l1 e1
      refine wN_seq ?_
      refine wN_lda (b := H.next) (o := 0) rfl c5.rd (show row 5 _ 0 = some (g.wr y).v from rfl) ?_
      obtain ⟨w6, H6, f6, k6, hb⟩ := Best_ok (kn := kn) (lo := lo) (H := H5) hat (by omega)
      refine wN_callf (vs := [.agg (g.wr y).v.toArray]) rfl (callX_args f6) ?_
      have m6 := k6.1
      have hat := hat.keep k6 (by simp)
      have c5 := k6.cl c5 (by simp)
      have hso := k6.sc hso (by simp)
      rcases hb with ⟨e, _⟩ | ⟨_, _, sb2, o2, rfl, e2, hord2⟩
      · exact absurd b1 e
      obtain rfl : o2 = o := by rw [fst1] at e2; exact (Option.some.inj e2).symm
      obtain ⟨_, hso2, _⟩ := hord2
      have hso2 : Sc H6 sb2 (ints (zi o2)) := hso2
      refine wN_mov (v := .tuple #[slv sb2 g.bn g.bn, iv 0]) rfl ?_
      refine wN_pur (v := slv sb2 g.bn g.bn) rfl (by kernel_rfl) ?_
      refine wN_pur (v := iv 0) rfl (by kernel_rfl) ?_
      refine wN_mov (v := slv sb2 g.bn g.bn) rfl ?_
      refine wN_mov (v := iv 0) rfl ?_
      refine wN_end ?_
      refine wN_seq ?_
      refine wN_lda (b := H.next) (o := 0) rfl c5.rd (show row 5 _ 0 = some (g.wr y).v from rfl) ?_
      refine wN_mov (v := slv sb g.bn g.bn) rfl ?_
      have hlf : Lf H6 (some ⟨sb, 0, none⟩) g.bn g.bn (zi o2) := ⟨hso.cl.sl (Nat.le_refl _), by rw [zi_len]; exact ho1, fun b e => by cases e; exact hso.fx⟩
      have good : (g.wr y).Good (zi o2) := ⟨hok1, zi_ord ho1 ho2 ho3, by rw [no_zi]; exact hcan, by show ((g.wr y).st (no (zi o2)) (g.bn - 1)).t2 ≤ y; rw [no_zi, Fh.st_wr]; exact Int.le_of_eq hy⟩
      have er1 := Fh.er0 good
      obtain ⟨w7, H7, f7, k7, la, lc, rfl, hsl⟩ := Times_v (kn := kn) (lo := lo) (H := H6) hat hlf (by omega)
      refine wN_callf (vs := [.agg (g.wr y).v.toArray, slv sb g.bn g.bn]) rfl (callX_args f7) ?_
      have m7 := k7.1
      have hat := hat.keep k7 (by simp)
      have c5 := k7.cl c5 (by simp)
      have hso := k7.sc hso (by simp)
      have hso2 := k7.sc hso2 (by simp)
      obtain ⟨u, hu⟩ : ∃ u, (g.wr y).tu (zi o2) = u := ⟨_, rfl⟩
      have hut : u.t2 = y := by
        rw [← hu]; unfold Fh.tu; rw [er1]; show ((g.wr y).st (no (zi o2)) (g.bn - 1)).t2 = y; rw [no_zi, Fh.st_wr]; exact hy
      rw [hu, er1]
      obtain ⟨tn, htn⟩ : ∃ tn, ((g.wr y).tl (zi o2)).length = tn := ⟨_, rfl⟩
      rw [htn]
      refine wN_mov (v := .tuple #[.slice la tn lc, .agg u.u.toArray, iv 0]) rfl ?_
      refine wN_pur (v := .slice la tn lc) rfl (by kernel_rfl) ?_
      refine wN_pur (v := .agg u.u.toArray) rfl (by kernel_rfl) ?_
      refine wN_pur (v := iv 0) rfl (by kernel_rfl) ?_
      refine wN_alc ?_
      intro H8 k8 n8 c8
      refine wN_mov (v := .slice la tn lc) rfl ?_
      refine wN_sta (b := H7.next) (o := 0) (v := .agg u.u.toArray) rfl rfl c8 (by omega) rfl rfl (by simp) ?_
      intro H9 k9 n9 c9
      have c9 : Cl H9 H7.next u.u := c9
      have k79 : Keep H7 H9 [] := k8.new k9 (fun b q => by simp at q; omega)
      have m9 := k79.1
      have hat := hat.keep k79 (by simp)
      have c5 := k79.cl c5 (by simp)
      have hso := k79.sc hso (by simp)
      have hso2 := k79.sc hso2 (by simp)
      refine wN_mov (v := iv 0) rfl ?_
      refine wN_end ?_
      refine wN_seq ?_
      refine wN_mov (v := iv 0) rfl ?_
      refine wN_b_neq (a := 0) (b := 0) rfl rfl ?_
      intro t10 ht10
      have ht10 : t10 = false := by rw [← ht10]; rfl
      subst ht10
      refine wN_mov (v := .bool false) rfl ?_
      refine wN_g rfl (wN_mov (v := iv 0) rfl ?_)
      refine wN_g rfl (wN_b_neq (a := 0) (b := 0) rfl rfl ?_)
      intro t11 ht11
      have ht11 : t11 = false := by rw [← ht11]; rfl
      subst ht11
      refine wN_pur (v := .bool false) rfl (rfl) ?_
      refine wN_mov (v := .bool false) rfl ?_
      refine wN_g rfl (wN_mov (v := slv sb2 g.bn g.bn) rfl ?_)
      refine wN_g rfl (wN_mov (v := slv sb g.bn g.bn) rfl ?_)
      obtain ⟨H10, f10, k10⟩ := Ints_ok (kn := kn) (lo := lo) (H := H9) (us := zi o2) (hso2.cl.sl (Nat.le_refl g.bn)) (hso.cl.sl (Nat.le_refl g.bn)) (by rw [zi_len]; exact ho1) (by omega)
      refine wN_g rfl (wN_callf (vs := [slv sb2 g.bn g.bn, slv sb g.bn g.bn]) rfl (callX_args f10) ?_)
      have m10 := k10.1
      have hat := hat.keep k10 (by simp)
      have c5 := k10.cl c5 (by simp)
      have c9 := k10.cl c9 (by simp)
      refine wN_g rfl (wN_pur (v := .bool false) rfl (rfl) ?_)
      refine wN_pur (v := .bool false) rfl (rfl) ?_
      refine wN_mov (v := .bool false) rfl ?_
      refine wN_g rfl (wN_addo (b := H7.next) (o := 0) rfl ?_)
      refine wN_g rfl (wN_addo (b := H7.next) (o := 0 + 0) rfl ?_)
      refine wN_g rfl (wN_ld (b := H7.next) (o := 0 + 0 + 1) (v := iv u.t2) rfl c9.rd rfl ?_)
      refine wN_g rfl (wN_mov (v := iv y) rfl ?_)
      refine wN_g rfl (wN_b_neq (a := u.t2) (b := y) rfl rfl ?_)
      intro t12 ht12
      have ht12 : t12 = false := by rw [← ht12]; rw [hut]; simp
      subst ht12
      refine wN_pur (v := .bool false) rfl (rfl) ?_
      refine wN_end ?_
      refine condF ?_
      first | refine wN_skip ?_ | skip
      refine wN_seq ?_
      refine wN_mov (v := iv y) rfl ?_
      refine wN_c_eql (a := y) (b := 0) rfl rfl ?_
      refine wN_end ?_
      refine And.intro (fun q2 => ?_) (fun q2 => ?_)
      · refine wN_seq ?_
        refine wN_callf (vs := []) rfl (callX_known hkn) ?_
        refine wN_mov (v := .bool true) rfl ?_
        refine wN_end ?_
        exact And.intro trivial (Exists.intro _ (And.intro rfl rfl))
      have q2 : ¬ y = 0 := by simpa using q2
      first | refine wN_skip ?_ | skip
      refine wN_seq ?_
      refine wN_mov (v := iv y) rfl ?_
      refine wN_sub (a := y) (b := 1) rfl rfl ⟨by omega, by omega⟩ ?_
      refine wN_addo (b := H.next) (o := 0) rfl ?_
      refine wN_st (b := H.next) (o := 0 + 3) (v := iv (y - 1)) rfl rfl c5 (by omega) rfl rfl (by simp) ?_
      intro H11 k11 n11 c11
      have c11 : Cl H11 H.next (g.wr (y - 1)).v := c11
      refine wN_end ?_
      have m11 := k11.1
      have hat := (hat.keep k11 (fun z q => by simp at q; omega)).wr (y - 1)
      have hat : (g.wr (y - 1)).At f H11 := hat
      have hok2 : (g.wr (y - 1)).ok = true := Fh.ok_wr hok (by omega) (by omega)
      have l2 : (g.wr (y - 1)).lst = some o2 := by rw [Fh.lst_wr]; exact hlst
      have e3 : (g.wr (y - 1)).ens o2 = false := by rw [Fh.ens_wr, hy]; simp; omega
      have b2 : (g.wr (y - 1)).be = 10 := Fh.be10 hok2 l2 e3
      refine wN_seq ?_
      refine wN_lda (b := H.next) (o := 0) rfl c11.rd (show row 5 _ 0 = some (g.wr (y - 1)).v from rfl) ?_
      obtain ⟨w12, H12, f12, k12, hb⟩ := Best_ok (kn := kn) (lo := lo) (H := H11) hat (by omega)
      refine wN_callf (vs := [.agg (g.wr (y - 1)).v.toArray]) rfl (callX_args f12) ?_
      rcases hb with ⟨_, rfl⟩ | ⟨e, _⟩
      rotate_left
      · rw [b2] at e; cases e
      rw [b2]
      refine wN_mov (v := .tuple #[.slice none 0 0, iv 10]) rfl ?_
      refine wN_pur (v := .slice none 0 0) rfl (by kernel_rfl) ?_
      refine wN_pur (v := iv 10) rfl (by kernel_rfl) ?_
      refine wN_mov (v := iv 10) rfl ?_
      refine wN_end ?_
      refine wN_seq ?_
      refine wN_mov (v := iv 10) rfl ?_
      refine wN_b_eql (a := 10) (b := 10) rfl rfl ?_
      intro t13 ht13
      have ht13 : t13 = true := by rw [← ht13]; rfl
      subst ht13
      refine wN_mov (v := .bool true) rfl ?_
      refine wN_g rfl (wN_callf (vs := []) rfl (callX_known hkn) ?_)
      refine wN_pur (v := .bool true) rfl (rfl) ?_
      refine wN_mov (v := .bool true) rfl ?_
      refine wN_end ?_
      exact And.intro trivial (Exists.intro _ (And.intro rfl rfl))
    · refine wN_g rfl (wN_b_neq (a := g.be) (b := 0) rfl rfl ?_)
      intro t14 ht14
      have ht14 : t14 = true := by rw [← ht14]; rw [hbe]; rfl
      subst ht14
      refine wN_g rfl (wN_mov (v := .bool true) rfl ?_)
      refine wN_g rfl (wN_mov (v := iv g.be) rfl ?_)
      refine wN_g rfl (wN_b_neq (a := g.be) (b := 10) rfl rfl ?_)
      intro t15 ht15
      have ht15 : t15 = false := by rw [← ht15]; rw [hbe]; rfl
      subst ht15
      refine wN_g rfl (wN_pur (v := .bool false) rfl (rfl) ?_)
      refine wN_pur (v := .bool false) rfl (rfl) ?_
      refine wN_mov (v := .bool false) rfl ?_
      refine wN_g rfl (wN_mov (v := iv g.be) rfl ?_)
      refine wN_g rfl (wN_b_eql (a := g.be) (b := 0) rfl rfl ?_)
      intro t16 ht16
      have ht16 : t16 = false := by rw [← ht16]; rw [hbe]; rfl
      subst ht16
      refine wN_g rfl (wN_mov (v := iv y) rfl ?_)
      refine wN_g rfl (wN_addo (b := H.next) (o := 0) rfl ?_)
      refine wN_g rfl (wN_ld (b := H.next) (o := 0 + 3) (v := iv g.reserve) rfl c1.rd rfl ?_)
      refine wN_g rfl (wN_b_leq (a := y) (b := g.reserve) rfl rfl ?_)
      intro t17 ht17
      have ht17 : t17 = false := by rw [← ht17]; simpa using hle2
      subst ht17
      refine wN_g rfl (wN_pur (v := .bool false) rfl (by kernel_rfl) ?_)
      refine wN_pur (v := .bool false) rfl (rfl) ?_
      refine wN_end ?_
      refine condF ?_
      first | refine wN_skip ?_ | skip
      refine wN_seq ?_
      refine wN_mov (v := iv y) rfl ?_
      refine wN_addo (b := H.next) (o := 0) rfl ?_
      refine wN_st (b := H.next) (o := 0 + 3) (v := iv y) rfl rfl c1 (by omega) rfl rfl (by simp) ?_
      intro H5 k5 n5 c5
      have c5 : Cl H5 H.next (g.wr y).v := c5
      refine wN_end ?_
      have m5 := k5.1
      have nb : ∀ z, z ≠ H.next → z ∉ [H.next] := fun z hz => by simpa using hz
      have hat := (hat.keep k5 (fun z q => by simp at q; omega)).wr y
      have hso := k5.sc hso (nb _ (by omega))
      have hok1 : (g.wr y).ok = true := Fh.ok_wr hok ht0 ht1
      have l1 : (g.wr y).lst = some o := by rw [Fh.lst_wr]; exact hlst
      have e1 : (g.wr y).ens o = true := by rw [Fh.ens_wr, hy]; simp
      have fst1 : (g.wr y).fst = some o := by rw [← hy]; exact Fh.fst_wr hlst
      have b1 : (g.wr y).be = 0 := Fh.be0 hok1 l1 e1
      refine wN_seq ?_
      refine wN_lda (b := H.next) (o := 0) rfl c5.rd (show row 5 _ 0 = some (g.wr y).v from rfl) ?_
      obtain ⟨w6, H6, f6, k6, hb⟩ := Best_ok (kn := kn) (lo := lo) (H := H5) hat (by omega)
      refine wN_callf (vs := [.agg (g.wr y).v.toArray]) rfl (callX_args f6) ?_
      have m6 := k6.1
      have hat := hat.keep k6 (by simp)
      have c5 := k6.cl c5 (by simp)
      have hso := k6.sc hso (by simp)
      rcases hb with ⟨e, _⟩ | ⟨_, _, sb2, o2, rfl, e2, hord2⟩
      · exact absurd b1 e
      obtain rfl : o2 = o := by rw [fst1] at e2; exact (Option.some.inj e2).symm
      obtain ⟨_, hso2, _⟩ := hord2
      have hso2 : Sc H6 sb2 (ints (zi o2)) := hso2
      refine wN_mov (v := .tuple #[slv sb2 g.bn g.bn, iv 0]) rfl ?_
      refine wN_pur (v := slv sb2 g.bn g.bn) rfl (by kernel_rfl) ?_
      refine wN_pur (v := iv 0) rfl (by kernel_rfl) ?_
      refine wN_mov (v := slv sb2 g.bn g.bn) rfl ?_
      refine wN_mov (v := iv 0) rfl ?_
      refine wN_end ?_
      refine wN_seq ?_
      refine wN_lda (b := H.next) (o := 0) rfl c5.rd (show row 5 _ 0 = some (g.wr y).v from rfl) ?_
      refine wN_mov (v := slv sb g.bn g.bn) rfl ?_
      have hlf : Lf H6 (some ⟨sb, 0, none⟩) g.bn g.bn (zi o2) := ⟨hso.cl.sl (Nat.le_refl _), by rw [zi_len]; exact ho1, fun b e => by cases e; exact hso.fx⟩
      have good : (g.wr y).Good (zi o2) := ⟨hok1, zi_ord ho1 ho2 ho3, by rw [no_zi]; exact hcan, by show ((g.wr y).st (no (zi o2)) (g.bn - 1)).t2 ≤ y; rw [no_zi, Fh.st_wr]; exact Int.le_of_eq hy⟩
      have er1 := Fh.er0 good
      obtain ⟨w7, H7, f7, k7, la, lc, rfl, hsl⟩ := Times_v (kn := kn) (lo := lo) (H := H6) hat hlf (by omega)
      refine wN_callf (vs := [.agg (g.wr y).v.toArray, slv sb g.bn g.bn]) rfl (callX_args f7) ?_
      have m7 := k7.1
      have hat := hat.keep k7 (by simp)
      have c5 := k7.cl c5 (by simp)
      have hso := k7.sc hso (by simp)
      have hso2 := k7.sc hso2 (by simp)
      obtain ⟨u, hu⟩ : ∃ u, (g.wr y).tu (zi o2) = u := ⟨_, rfl⟩
      have hut : u.t2 = y := by
        rw [← hu]; unfold Fh.tu; rw [er1]; show ((g.wr y).st (no (zi o2)) (g.bn - 1)).t2 = y; rw [no_zi, Fh.st_wr]; exact hy
      rw [hu, er1]
      obtain ⟨tn, htn⟩ : ∃ tn, ((g.wr y).tl (zi o2)).length = tn := ⟨_, rfl⟩
      rw [htn]
      refine wN_mov (v := .tuple #[.slice la tn lc, .agg u.u.toArray, iv 0]) rfl ?_
      refine wN_pur (v := .slice la tn lc) rfl (by kernel_rfl) ?_
      refine wN_pur (v := .agg u.u.toArray) rfl (by kernel_rfl) ?_
      refine wN_pur (v := iv 0) rfl (by kernel_rfl) ?_
      refine wN_alc ?_
      intro H8 k8 n8 c8
      refine wN_mov (v := .slice la tn lc) rfl ?_
      refine wN_sta (b := H7.next) (o := 0) (v := .agg u.u.toArray) rfl rfl c8 (by omega) rfl rfl (by simp) ?_
      intro H9 k9 n9 c9
      have c9 : Cl H9 H7.next u.u := c9
      have k79 : Keep H7 H9 [] := k8.new k9 (fun b q => by simp at q; omega)
      have m9 := k79.1
      have hat := hat.keep k79 (by simp)
      have c5 := k79.cl c5 (by simp)
      have hso := k79.sc hso (by simp)
      have hso2 := k79.sc hso2 (by simp)
      refine wN_mov (v := iv 0) rfl ?_
      refine wN_end ?_
      refine wN_seq ?_
      refine wN_mov (v := iv 0) rfl ?_
      refine wN_b_neq (a := 0) (b := 0) rfl rfl ?_
      intro t18 ht18
      have ht18 : t18 = false := by rw [← ht18]; rfl
      subst ht18
      refine wN_mov (v := .bool false) rfl ?_
      refine wN_g rfl (wN_mov (v := iv 0) rfl ?_)
      refine wN_g rfl (wN_b_neq (a := 0) (b := 0) rfl rfl ?_)
      intro t19 ht19
      have ht19 : t19 = false := by rw [← ht19]; rfl
      subst ht19
      refine wN_pur (v := .bool false) rfl (rfl) ?_
      refine wN_mov (v := .bool false) rfl ?_
      refine wN_g rfl (wN_mov (v := slv sb2 g.bn g.bn) rfl ?_)
      refine wN_g rfl (wN_mov (v := slv sb g.bn g.bn) rfl ?_)
      obtain ⟨H10, f10, k10⟩ := Ints_ok (kn := kn) (lo := lo) (H := H9) (us := zi o2) (hso2.cl.sl (Nat.le_refl g.bn)) (hso.cl.sl (Nat.le_refl g.bn)) (by rw [zi_len]; exact ho1) (by omega)
      refine wN_g rfl (wN_callf (vs := [slv sb2 g.bn g.bn, slv sb g.bn g.bn]) rfl (callX_args f10) ?_)
      have m10 := k10.1
      have hat := hat.keep k10 (by simp)
      have c5 := k10.cl c5 (by simp)
      have c9 := k10.cl c9 (by simp)
      refine wN_g rfl (wN_pur (v := .bool false) rfl (rfl) ?_)
      refine wN_pur (v := .bool false) rfl (rfl) ?_
      refine wN_mov (v := .bool false) rfl ?_
      refine wN_g rfl (wN_addo (b := H7.next) (o := 0) rfl ?_)
      refine wN_g rfl (wN_addo (b := H7.next) (o := 0 + 0) rfl ?_)
      refine wN_g rfl (wN_ld (b := H7.next) (o := 0 + 0 + 1) (v := iv u.t2) rfl c9.rd rfl ?_)
      refine wN_g rfl (wN_mov (v := iv y) rfl ?_)
      refine wN_g rfl (wN_b_neq (a := u.t2) (b := y) rfl rfl ?_)
      intro t20 ht20
      have ht20 : t20 = false := by rw [← ht20]; rw [hut]; simp
      subst ht20
      refine wN_pur (v := .bool false) rfl (rfl) ?_
      refine wN_end ?_
      refine condF ?_
      first | refine wN_skip ?_ | skip
      refine wN_seq ?_
      refine wN_mov (v := iv y) rfl ?_
      refine wN_c_eql (a := y) (b := 0) rfl rfl ?_
      refine wN_end ?_
      refine And.intro (fun q2 => ?_) (fun q2 => ?_)
      · refine wN_seq ?_
        refine wN_callf (vs := []) rfl (callX_known hkn) ?_
        refine wN_mov (v := .bool true) rfl ?_
        refine wN_end ?_
        exact And.intro trivial (Exists.intro _ (And.intro rfl rfl))
      have q2 : ¬ y = 0 := by simpa using q2
      first | refine wN_skip ?_ | skip
      refine wN_seq ?_
      refine wN_mov (v := iv y) rfl ?_
      refine wN_sub (a := y) (b := 1) rfl rfl ⟨by omega, by omega⟩ ?_
      refine wN_addo (b := H.next) (o := 0) rfl ?_
      refine wN_st (b := H.next) (o := 0 + 3) (v := iv (y - 1)) rfl rfl c5 (by omega) rfl rfl (by simp) ?_
      intro H11 k11 n11 c11
      have c11 : Cl H11 H.next (g.wr (y - 1)).v := c11
      refine wN_end ?_
      have m11 := k11.1
      have hat := (hat.keep k11 (fun z q => by simp at q; omega)).wr (y - 1)
      have hat : (g.wr (y - 1)).At f H11 := hat
      have hok2 : (g.wr (y - 1)).ok = true := Fh.ok_wr hok (by omega) (by omega)
      have l2 : (g.wr (y - 1)).lst = some o2 := by rw [Fh.lst_wr]; exact hlst
      have e3 : (g.wr (y - 1)).ens o2 = false := by rw [Fh.ens_wr, hy]; simp; omega
      have b2 : (g.wr (y - 1)).be = 10 := Fh.be10 hok2 l2 e3
      refine wN_seq ?_
      refine wN_lda (b := H.next) (o := 0) rfl c11.rd (show row 5 _ 0 = some (g.wr (y - 1)).v from rfl) ?_
      obtain ⟨w12, H12, f12, k12, hb⟩ := Best_ok (kn := kn) (lo := lo) (H := H11) hat (by omega)
      refine wN_callf (vs := [.agg (g.wr (y - 1)).v.toArray]) rfl (callX_args f12) ?_
      rcases hb with ⟨_, rfl⟩ | ⟨e, _⟩
      rotate_left
      · rw [b2] at e; cases e
      rw [b2]
      refine wN_mov (v := .tuple #[.slice none 0 0, iv 10]) rfl ?_
      refine wN_pur (v := .slice none 0 0) rfl (by kernel_rfl) ?_
      refine wN_pur (v := iv 10) rfl (by kernel_rfl) ?_
      refine wN_mov (v := iv 10) rfl ?_
      refine wN_end ?_
      refine wN_seq ?_
      refine wN_mov (v := iv 10) rfl ?_
      refine wN_b_eql (a := 10) (b := 10) rfl rfl ?_
      intro t21 ht21
      have ht21 : t21 = true := by rw [← ht21]; rfl
      subst ht21
      refine wN_mov (v := .bool true) rfl ?_
      refine wN_g rfl (wN_callf (vs := []) rfl (callX_known hkn) ?_)
      refine wN_pur (v := .bool true) rfl (rfl) ?_
      refine wN_mov (v := .bool true) rfl ?_
      refine wN_end ?_
      exact And.intro trivial (Exists.intro _ (And.intro rfl rfl))
end
end Go.Ax

namespace Go.Ax
open Go Go.RowKit Go.Proofs Go.ChangeShapes Go.WideShapes Go.Deep

/-- A type whose cells are whole numbers. -/
def IntT (P : Program) (t : TypeId) : Prop := ∀ (H : Type) (enc : TypeId × Value → H) (w : World) (base : Nat) (spare : Nat → Bool) (held : Bool) (fuel : Nat) (cs : List Value) (x : DataW H × List MemPlace),
  DataW.trod enc P w base spare held fuel t cs = some x → cs.length = P.cellsOf t ∧ ∀ j, j < cs.length → ∃ n, cs[j]? = some (.int .i64 n)
theorem IntT.int {P : Program} {t : TypeId} (ht : P.underlying t = some (.int .i64)) (hc : P.cellsOf t = 1) : IntT P t := by
  intro H enc w base spare held fuel cs x h
  obtain ⟨n, rfl, _⟩ := DataW.trod_int ht h
  refine ⟨by rw [hc]; rfl, fun j hj => ⟨n, ?_⟩⟩
  have : j = 0 := by simp at hj; omega
  subst this; rfl
theorem IntT.struct {P : Program} {t : TypeId} {fs : Array Field} (ht : P.underlying t = some (.struct fs)) (hf : ∀ f ∈ fs.toList, IntT P f.type)
    (hcov : ((List.range (P.cellsOf t)).all fun j => fs.toList.any fun f => decide (f.offset ≤ j) && decide (j < f.offset + P.cellsOf f.type)) = true) : IntT P t := by
  intro H enc w base spare held fuel cs x h
  obtain ⟨xs, n, _, _, hlen, hxl, hg⟩ := DataW.trod_struct ht h
  refine ⟨hlen, fun j hj => ?_⟩
  have h1 := List.all_eq_true.1 hcov j (List.mem_range.2 (by omega))
  obtain ⟨f, hfm, h2⟩ := List.any_eq_true.1 h1
  simp only [Bool.and_eq_true, decide_eq_true_eq] at h2
  obtain ⟨i, hi, hfi⟩ := List.getElem_of_mem hfm
  have hfs : fs[i]? = some f := by
    rw [← Array.getElem?_toList, List.getElem?_eq_getElem hi, hfi]
  have hi2 : i < xs.length := by simpa [hxl] using hi
  have h3 := hg i f hfs
  rw [List.getElem?_eq_getElem hi2] at h3
  obtain ⟨h4, h5⟩ := hf f hfm _ _ _ _ _ _ _ _ _ h3
  obtain ⟨m, hm⟩ := h5 (j - f.offset) (by omega)
  refine ⟨m, ?_⟩
  rw [List.getElem?_take] at hm
  split at hm
  · rw [List.getElem?_drop, show f.offset + (j - f.offset) = j by omega] at hm; exact hm
  · cases hm

/-- A slice of rows of whole numbers, as it is given. -/
structure Given {α : Type} (w : World) (v : Value) (f : α → List Value) (l : List α) (x : Imp) : Prop where
  ok : ∀ (i : Nat) u, x.cs[i]? = some u → w.cell? ⟨x.blk, x.off + i, none⟩ = some u ∧ flat1 u = true
  cs : x.cs = l.flatMap f
  v : (v = .slice none 0 0 ∧ l = []) ∨ ∃ cap, v = .slice (some ⟨x.blk, x.off, none⟩) l.length cap ∧ l.length ≤ cap
theorem flat_get {α : Type} {f : α → List Value} {k : Nat} (hk : 0 < k) : ∀ {l : List α} (_ : ∀ x ∈ l, (f x).length = k) (i : Nat) (u : Value), (l.flatMap f)[i]? = some u → ∃ x, l[i / k]? = some x ∧ (f x)[i % k]? = some u
  | [], _, i, u, h => by simp at h
  | y :: r, hl, i, u, h => by
    have hy := hl y (List.mem_cons_self ..)
    rw [List.flatMap_cons, List.getElem?_append] at h
    split at h
    · rename_i q
      rw [hy] at q
      refine ⟨y, ?_, ?_⟩
      · rw [Nat.div_eq_of_lt q]; rfl
      · rw [Nat.mod_eq_of_lt q]; exact h
    · rename_i q
      rw [hy] at q h
      obtain ⟨x, h1, h2⟩ := flat_get hk (fun x hx => hl x (List.mem_cons_of_mem _ hx)) _ u h
      refine ⟨x, ?_, ?_⟩
      · rw [Nat.div_eq_sub_div hk (by omega)]; exact h1
      · rw [Nat.mod_eq_sub_mod (by omega)]; exact h2
theorem Given.rel {α : Type} {w : World} {v : Value} {f : α → List Value} {l : List α} {x : Imp} (g : Given w v f l x) {r : Ren} {H : Hp} {b : Nat} (hr : r b = some ⟨x.blk, x.off, none⟩) (hb : b < H.next) (hc : cellsOf H b = some x.cs) (hro : H.t.get b = some (.ro x.cs)) :
    ∃ a cap, VR r (.slice a l.length cap) v ∧ Sl H a l.length cap (l.flatMap f) ∧ ∀ b, a = some ⟨b, 0, none⟩ → H.t.get b = some (.ro (l.flatMap f)) := by
  rcases g.v with ⟨rfl, rfl⟩ | ⟨cap, rfl, hl⟩
  · exact ⟨none, 0, .nilSlice, .inl ⟨.inl rfl, rfl, rfl, rfl⟩, fun b e => by cases e⟩
  · refine ⟨some ⟨b, 0, none⟩, cap, ?_, .inr ⟨b, rfl, ⟨hb, by rw [hc, g.cs]⟩, hl⟩, fun b' e => by cases e; rw [hro, g.cs]⟩
    have := VR.slice (o := 0) (n := l.length) (c := cap) hr rfl hl
    simpa using this
theorem flat_ints (us : List Int) : us.flatMap (fun x => [iv x]) = ints us := by
  induction us with
  | nil => rfl
  | cons u us ih => rw [List.flatMap_cons, ih]; rfl
end Go.Ax

/-! Slices of rows of plain cells, as arguments. -/
namespace Go.Ax
open Go Go.RowKit Go.Proofs Go.ChangeShapes Go.WideShapes Go.Deep

theorem IntT.row {α : Type} {P : Program} {t : TypeId} {k : Nat} {f : α → List Value} {mk : (Nat → Int) → α} (h : IntT P t) (hc : P.cellsOf t = k) (hmk : ∀ N : Nat → Int, f (mk N) = (List.range k).map fun j => Value.int .i64 (N j))
    {H : Type} {enc : TypeId × Value → H} {w : World} {base : Nat} {spare : Nat → Bool} {held : Bool} (fuel : Nat) (cs : List Value) (x : DataW H × List MemPlace) (hx : DataW.trod enc P w base spare held fuel t cs = some x) : ∃ y : α, cs = f y ∧ True := by
  obtain ⟨h1, h2⟩ := h _ _ _ _ _ _ _ _ _ hx
  have : ∃ N : Nat → Int, ∀ j, j < cs.length → cs[j]? = some (.int .i64 (N j)) := by
    refine ⟨fun j => match cs[j]? with | some (.int _ n) => n | _ => 0, fun j hj => ?_⟩
    obtain ⟨n, hn⟩ := h2 j hj
    simp [hn]
  obtain ⟨N, hN⟩ := this
  refine ⟨mk N, ?_, trivial⟩
  rw [hmk]
  apply List.ext_getElem?
  intro j
  by_cases hj : j < k
  · rw [hN j (by omega), List.getElem?_map, List.getElem?_range hj]; rfl
  · rw [List.getElem?_eq_none (by omega), List.getElem?_eq_none (by simp; omega)]
theorem spot_of {w : World} {a : Addr} {v : Value} (h : w.cell? a = some v) : a.spot = none := by
  unfold World.cell? at h
  split at h
  · cases hs : a.spot with
    | none => rfl
    | some x => rw [hs] at h; simp at h
  · cases h
theorem add_zero' (a : Addr) : a.add 0 = a := by unfold Addr.add; simp
theorem add_plain (b o n : Nat) : (⟨b, o, none⟩ : Addr).add n = ⟨b, o + n, none⟩ := by
  unfold Addr.add
  by_cases q : n = 0
  · simp [q]
  · simp [q]
/-- A slice of rows, as it is read; Q: what else is known of a row. -/
theorem rows_read {H : Type} {enc : TypeId × Value → H} {P : Program} {w : World} {base : Nat} {held : Bool} {α : Type} {f : α → List Value} {Q : α → Prop} {k : Nat} {t e : TypeId} {fuel : Nat} {v : Value} {x : DataW H × List MemPlace}
    (ht : P.underlying t = some (.slice e)) (hR : ∀ (fuel : Nat) (cs : List Value) (x : DataW H × List MemPlace), DataW.trod enc P w base (fun _ => true) held fuel e cs = some x → ∃ y : α, cs = f y ∧ Q y) (hc : P.cellsOf e = k) (hk : 0 < k) (hfk : ∀ y, (f y).length = k)
    (h : DataW.trod enc P w base (fun _ => true) held fuel t [v] = some x) : ∃ (l : List α), l.length ≤ maxLen ∧ (∀ y ∈ l, Q y) ∧
      (((v = .slice none 0 0 ∨ ∃ a', v = .slice (some a') 0 0) ∧ l = []) ∨ ∃ blk off cap, v = .slice (some ⟨blk, off, none⟩) l.length cap ∧ l.length ≤ cap ∧ ∀ (i : Nat) u, (l.flatMap f)[i]? = some u → w.cell? ⟨blk, off + i, none⟩ = some u) := by
  rcases open_slice ht h with ⟨h0, _⟩ | ⟨a, len, cap, m, n, D, Pl, hcs, hb, hl, hm, hmm, hx, hi⟩
  · cases h0
    exact ⟨[], by simp, fun y hy => by simp at hy, .inl ⟨.inl rfl, rfl⟩⟩
  cases hcs
  simp only [if_true] at hmm
  subst hmm
  rcases Nat.eq_zero_or_pos m with h0 | h0
  · subst h0
    have : len = 0 := by omega
    subst this
    exact ⟨[], by simp, fun y hy => by simp at hy, .inl ⟨.inr ⟨_, rfl⟩, rfl⟩⟩
  obtain ⟨blk, off, spot⟩ := a
  have hs : spot = none := by
    obtain ⟨cs', h1, h2⟩ := hi 0 h0
    obtain ⟨y, hy, _⟩ := hR _ _ _ h2
    obtain ⟨_, h5, h6⟩ := World.cells?_some h1
    have h7 := h6 0 (by omega)
    rw [Nat.zero_mul, add_zero', add_zero'] at h7
    have h8 : cs'[0]? = some (cs'[0]'(by omega)) := List.getElem?_eq_getElem _
    rw [h8] at h7
    exact spot_of h7
  subst hs
  have hrow : ∀ i, i < len → ∃ y : α, Q y ∧ ∀ j, j < k → ∃ u, (f y)[j]? = some u ∧ w.cell? ⟨blk, off + (i * k + j), none⟩ = some u := by
    intro i hil
    obtain ⟨cs', h1, h2⟩ := hi i (by omega)
    obtain ⟨y, rfl, hq⟩ := hR _ _ _ h2
    obtain ⟨_, h5, h6⟩ := World.cells?_some h1
    refine ⟨y, hq, fun j hj => ?_⟩
    have h7 := h6 j (by omega)
    have h8 : (f y)[j]? = some ((f y)[j]'(by rw [hfk]; exact hj)) := List.getElem?_eq_getElem _
    rw [h8, hc, add_plain, add_plain, Nat.add_assoc] at h7
    exact ⟨_, h8, h7⟩
  have key : ∀ n, n ≤ len → ∃ l : List α, l.length = n ∧ (∀ y ∈ l, Q y) ∧ ∀ (i : Nat) y, l[i]? = some y → ∀ j, j < k → ∃ u, (f y)[j]? = some u ∧ w.cell? ⟨blk, off + (i * k + j), none⟩ = some u := by
    intro n
    induction n with
    | zero => intro _; exact ⟨[], rfl, fun y hy => by simp at hy, fun i y e => by simp at e⟩
    | succ n ih =>
      intro hn
      obtain ⟨l, h1, hq, h2⟩ := ih (by omega)
      obtain ⟨y, hyq, hy⟩ := hrow n (by omega)
      refine ⟨l ++ [y], by simp [h1], fun z hz => ?_, fun i z e => ?_⟩
      · simp only [List.mem_append, List.mem_singleton] at hz
        rcases hz with hz | rfl
        · exact hq z hz
        · exact hyq
      rw [List.getElem?_append] at e
      split at e
      · exact h2 i z e
      · rename_i q
        have : i = n := by have := get_lt e; simp at this; omega
        subst this
        rw [h1, Nat.sub_self] at e
        simp at e; subst e
        exact hy
  obtain ⟨l, hl1, hq, hl2⟩ := key len (Nat.le_refl _)
  refine ⟨l, by omega, hq, .inr ⟨blk, off, m, by rw [hl1], by omega, fun i u hu => ?_⟩⟩
  obtain ⟨y, h1, h2⟩ := flat_get hk (fun y _ => hfk y) i u hu
  have hj : i % k < k := Nat.mod_lt _ hk
  obtain ⟨u', e1, e2⟩ := hl2 _ y h1 _ hj
  rw [h2] at e1; cases e1
  rw [Nat.div_add_mod'] at e2
  exact e2
end Go.Ax

/-! A harvest as an argument: its beds and its rates, and what they hold. -/
namespace Go.Ax
open Go Go.RowKit Go.Proofs Go.ChangeShapes Go.WideShapes Go.Deep

def renOf (imps : List Imp) : Ren := fun b => (imps[b]?).map fun x => ⟨x.blk, x.off, none⟩
theorem imports3 {P : Program} (imps outs : List Imp) (w : World) (h : ∀ x ∈ imps, ∀ (i : Nat) v, x.cs[i]? = some v → w.cell? ⟨x.blk, x.off + i, none⟩ = some v ∧ flat1 v = true)
    (hcs : ∀ x ∈ outs, ∀ (i : Nat) v, x.cs[i]? = some v → ∃ v', w.cell? ⟨x.blk, x.off + i, none⟩ = some v' ∧ VR (renOf imps) v v') :
    ∃ (r : Ren) (H : Hp), Rel P r w.heap.size H w ∧ H.next = (imps ++ outs).length ∧ (∀ b loc, r b = some loc → b < H.next) ∧ Ren.Le (renOf imps) r ∧ ∀ (b : Nat) x, (imps ++ outs)[b]? = some x → r b = some ⟨x.blk, x.off, none⟩ ∧ H.t.get b = some (.ro x.cs) := by
  have hall : ∀ x ∈ imps ++ outs, ∀ (i : Nat) v, x.cs[i]? = some v → ∃ v', w.cell? ⟨x.blk, x.off + i, none⟩ = some v' ∧ VR (renOf imps) v v' := by
    intro x hx i v hv
    rcases List.mem_append.1 hx with hx | hx
    · obtain ⟨h1, h2⟩ := h x hx i v hv
      exact ⟨v, h1, flat1_vr h2⟩
    · exact hcs x hx i v hv
  obtain ⟨t, ht⟩ := tr_of (fun b => ((imps ++ outs)[b]?).map fun x => .ro x.cs) (imps ++ outs).length
  have hle : Ren.Le (renOf imps) (fun b => ((imps ++ outs)[b]?).map fun x => ⟨x.blk, x.off, none⟩) := fun b loc e => by
    unfold renOf at e
    have hlt : b < imps.length := by
      rcases Nat.lt_or_ge b imps.length with q | q
      · exact q
      · rw [List.getElem?_eq_none q] at e; cases e
    show ((imps ++ outs)[b]?).map _ = _
    rw [List.getElem?_append_left hlt]; exact e
  have hr : ∀ (b : Nat) loc, ((imps ++ outs)[b]?).map (fun x => (⟨x.blk, x.off, none⟩ : Loc)) = some loc → ∃ x, (imps ++ outs)[b]? = some x ∧ b < (imps ++ outs).length ∧ loc = ⟨x.blk, x.off, none⟩ ∧ t.get b = some (.ro x.cs) := by
    intro b loc e
    cases hx : (imps ++ outs)[b]? with
    | none => rw [hx] at e; cases e
    | some x =>
      rw [hx] at e
      simp at e
      have hlt := get_lt hx
      exact ⟨x, rfl, hlt, e.symm, by rw [ht, if_pos hlt, hx]; rfl⟩
  have low : ∀ {g o : Nat} {v : Value}, w.cell? ⟨g, o, none⟩ = some v → g < w.heap.size := fun {g o v} hv => by
    unfold World.cell? at hv
    rcases Nat.lt_or_ge g w.heap.size with q | q
    · exact q
    · rw [Array.getElem?_eq_none q] at hv; cases hv
  refine ⟨fun b => ((imps ++ outs)[b]?).map fun x => ⟨x.blk, x.off, none⟩, { next := (imps ++ outs).length, t }, ⟨?_, ?_, ?_, Nat.le_refl _⟩, rfl, ?_, hle, ?_⟩
  · intro b loc e
    obtain ⟨x, hx, hlt, rfl, hg⟩ := hr b loc e
    refine ⟨hlt, ?_⟩
    show Dm _ _ _ (t.get b)
    rw [hg]
    cases hc : x.cs with
    | nil => exact .inl rfl
    | cons v l =>
      obtain ⟨v', h1, _⟩ := hall x (List.mem_of_getElem? hx) 0 v (by rw [hc]; rfl)
      exact .inr (low h1)
  · intro b loc o e eo
    obtain ⟨x, hx, hlt, rfl, hg⟩ := hr b loc e
    rw [hg] at eo; cases eo
    refine ⟨rfl, fun i v ev => ?_⟩
    obtain ⟨v', h1, h2⟩ := hall x (List.mem_of_getElem? hx) i v ev
    unfold World.cell? at h1
    simp only at h1
    split at h1
    · rename_i C e' f hC
      exact ⟨C, e', f, v', hC, by simpa using h1, h2.mono hle⟩
    · cases h1
  · intro b b' loc loc' e e' _ hl _
    obtain ⟨x, hx, hlt, rfl, hg⟩ := hr b loc e
    obtain ⟨o, h1, h2, h3⟩ := hl
    have : t.get b = some o := h1
    rw [hg] at this; cases this
    cases h3
  · intro b loc e
    obtain ⟨x, hx, hlt, rfl, hg⟩ := hr b loc e
    exact hlt
  · intro b x hx
    have hlt := get_lt hx
    refine ⟨by simp only [hx, Option.map_some], ?_⟩
    show t.get b = _
    rw [ht, if_pos hlt, hx]; rfl

/-- An inner slice, as it is given: an empty one may have any address. -/
structure GivI {α : Type} (w : World) (v : Value) (f : α → List Value) (l : List α) (x : Imp) : Prop where
  ok : ∀ (i : Nat) u, x.cs[i]? = some u → w.cell? ⟨x.blk, x.off + i, none⟩ = some u ∧ flat1 u = true
  cs : x.cs = l.flatMap f
  v : ((v = .slice none 0 0 ∨ ∃ a', v = .slice (some a') 0 0) ∧ l = []) ∨ ∃ cap, v = .slice (some ⟨x.blk, x.off, none⟩) l.length cap ∧ l.length ≤ cap
theorem givI_of {H : Type} {enc : TypeId × Value → H} {P : Program} {w : World} {base : Nat} {held : Bool} {α : Type} {f : α → List Value} {Q : α → Prop} {k : Nat} {t e : TypeId} {fuel : Nat} {v : Value} {x : DataW H × List MemPlace}
    (ht : P.underlying t = some (.slice e)) (hR : ∀ (fuel : Nat) (cs : List Value) (x : DataW H × List MemPlace), DataW.trod enc P w base (fun _ => true) held fuel e cs = some x → ∃ y : α, cs = f y ∧ Q y) (hc : P.cellsOf e = k) (hk : 0 < k) (hfk : ∀ y, (f y).length = k) (hflat : ∀ y u, u ∈ f y → flat1 u = true)
    (h : DataW.trod enc P w base (fun _ => true) held fuel t [v] = some x) : ∃ (l : List α) (y : Imp), GivI w v f l y := by
  obtain ⟨l, h1, h2, ⟨h3, rfl⟩ | ⟨blk, off, cap, h3, h4, h5⟩⟩ := rows_read ht hR hc hk hfk h
  · exact ⟨[], ⟨0, 0, []⟩, ⟨fun i u e => by simp at e, rfl, .inl ⟨h3, rfl⟩⟩⟩
  · refine ⟨l, ⟨blk, off, l.flatMap f⟩, ⟨fun i u hu => ⟨h5 i u hu, ?_⟩, rfl, .inr ⟨cap, h3, h4⟩⟩⟩
    obtain ⟨y, hy, hu'⟩ := List.mem_flatMap.1 (List.mem_of_getElem? hu)
    exact hflat y u hu'
theorem GivI.rel {α : Type} {w : World} {v : Value} {f : α → List Value} {l : List α} {x : Imp} (g : GivI w v f l x) {r : Ren} {b : Nat} (hr : r b = some ⟨x.blk, x.off, none⟩) :
    ∃ a cap, VR r (.slice a l.length cap) v ∧ (∀ y, a = some ⟨y, 0, none⟩ → y = b) ∧ ∀ H : Hp, b < H.next → H.t.get b = some (.ro x.cs) → Sl H a l.length cap (l.flatMap f) := by
  rcases g.v with ⟨rfl | ⟨a', rfl⟩, rfl⟩ | ⟨cap, rfl, hl⟩
  · exact ⟨none, 0, .nilSlice, fun y e => by (cases e), fun H _ _ => .inl ⟨.inl rfl, rfl, rfl, rfl⟩⟩
  · exact ⟨some ⟨0, 0, some 0⟩, 0, .weird, fun y e => by (cases e), fun H _ _ => .inl ⟨.inr rfl, rfl, rfl, rfl⟩⟩
  · refine ⟨some ⟨b, 0, none⟩, cap, ?_, fun y e => by (cases e; rfl), fun H hb hc => .inr ⟨b, rfl, ⟨hb, by unfold cellsOf; rw [hc, g.cs]⟩, hl⟩⟩
    have := VR.slice (o := 0) (n := l.length) (c := cap) hr rfl hl
    simpa using this
structure BV where
  need : Int
  l1 : Int
  l2 : Int
  wv : Value
  ws : List (Int × Int)
  x : Imp
def BV.f (b : BV) : List Value := [iv b.need, iv b.l1, iv b.l2, b.wv]
def BV.Q (w : World) (b : BV) : Prop := GivI w b.wv (fun s : Int × Int => [iv s.1, iv s.2]) b.ws b.x
structure RV where
  rv : Value
  l : List Int
  x : Imp
def RV.f (r : RV) : List Value := [r.rv]
def RV.Q (w : World) (r : RV) : Prop := GivI w r.rv (fun n : Int => [iv n]) r.l r.x
theorem bogs_abs {w : World} {imps : List Imp} : ∀ (L : List BV) (pre post : List Imp), imps = pre ++ L.map BV.x ++ post → (∀ b ∈ L, b.Q w) → ∃ bs : List Bg, bs.length = L.length ∧ LR (renOf imps) (bgc bs) (L.flatMap BV.f) ∧
    ∀ (H : Hp) (f : Nat), imps.length ≤ f → (∀ (b : Nat) x, imps[b]? = some x → b < H.next ∧ H.t.get b = some (.ro x.cs)) → ∀ b ∈ bs, Sl H b.wa b.wn b.wcap (spc b.ws) ∧ b.ws.length = b.wn ∧ ∀ x, b.wa = some ⟨x, 0, none⟩ → x < f
  | [], _, _, _, _ => ⟨[], rfl, .nil, fun _ _ _ _ b hb => by simp at hb⟩
  | b :: L, pre, post, he, hq => by
    obtain ⟨bs, e1, e2, e3⟩ := bogs_abs (imps := imps) L (pre ++ [b.x]) post (by rw [he]; simp) (fun x hx => hq x (List.mem_cons_of_mem _ hx))
    have q := hq b (List.mem_cons_self ..)
    have i1 : imps[pre.length]? = some b.x := by rw [he]; simp
    obtain ⟨a1, c1, r1, y1, l1⟩ := GivI.rel q (r := renOf imps) (b := pre.length) (by unfold renOf; rw [i1]; rfl)
    refine ⟨⟨b.need, b.l1, b.l2, a1, b.ws.length, c1, b.ws⟩ :: bs, by simp [e1], ?_, fun H f hf hH x hx => ?_⟩
    · show LR (renOf imps) (iv b.need :: iv b.l1 :: iv b.l2 :: .slice a1 b.ws.length c1 :: bgc bs) (iv b.need :: iv b.l1 :: iv b.l2 :: b.wv :: L.flatMap BV.f)
      exact .cons (.int _ _) (.cons (.int _ _) (.cons (.int _ _) (.cons r1 e2)))
    · simp only [List.mem_cons] at hx
      rcases hx with rfl | hx
      · obtain ⟨b1, d1⟩ := hH _ _ i1
        exact ⟨l1 H b1 d1, rfl, fun x e => by have := y1 x e; have := get_lt i1; omega⟩
      · exact e3 H f hf hH x hx
theorem rates_abs {w : World} {imps : List Imp} : ∀ (L : List RV) (pre post : List Imp), imps = pre ++ L.map RV.x ++ post → (∀ b ∈ L, b.Q w) → ∃ bs : List Rw, bs.length = L.length ∧ LR (renOf imps) (rwc bs) (L.flatMap RV.f) ∧
    ∀ (H : Hp) (f : Nat), imps.length ≤ f → (∀ (b : Nat) x, imps[b]? = some x → b < H.next ∧ H.t.get b = some (.ro x.cs)) → ∀ b ∈ bs, Sl H b.ra b.n b.cap (ints b.l) ∧ b.l.length = b.n ∧ ∀ x, b.ra = some ⟨x, 0, none⟩ → x < f
  | [], _, _, _, _ => ⟨[], rfl, .nil, fun _ _ _ _ b hb => by simp at hb⟩
  | b :: L, pre, post, he, hq => by
    obtain ⟨bs, e1, e2, e3⟩ := rates_abs (imps := imps) L (pre ++ [b.x]) post (by rw [he]; simp) (fun x hx => hq x (List.mem_cons_of_mem _ hx))
    have q := hq b (List.mem_cons_self ..)
    have i1 : imps[pre.length]? = some b.x := by rw [he]; simp
    obtain ⟨a1, c1, r1, y1, l1⟩ := GivI.rel q (r := renOf imps) (b := pre.length) (by unfold renOf; rw [i1]; rfl)
    refine ⟨⟨a1, b.l.length, c1, b.l⟩ :: bs, by simp [e1], ?_, fun H f hf hH x hx => ?_⟩
    · show LR (renOf imps) (.slice a1 b.l.length c1 :: rwc bs) (b.rv :: L.flatMap RV.f)
      exact .cons r1 e2
    · simp only [List.mem_cons] at hx
      rcases hx with rfl | hx
      · obtain ⟨b1, d1⟩ := hH _ _ i1
        exact ⟨by rw [← flat_ints]; exact l1 H b1 d1, rfl, fun x e => by have := y1 x e; have := get_lt i1; omega⟩
      · exact e3 H f hf hH x hx
/-- A list of rows that point elsewhere, as it is given. -/
structure GivO {α : Type} (w : World) (v : Value) (f : α → List Value) (l : List α) (x : Imp) : Prop where
  cs : ∀ (i : Nat) u, (l.flatMap f)[i]? = some u → w.cell? ⟨x.blk, x.off + i, none⟩ = some u
  v : ((v = .slice none 0 0 ∨ ∃ a', v = .slice (some a') 0 0) ∧ l = []) ∨ ∃ cap, v = .slice (some ⟨x.blk, x.off, none⟩) l.length cap ∧ l.length ≤ cap
theorem givO_rel {α : Type} {w : World} {v : Value} {f : α → List Value} {l : List α} {x : Imp} (g : GivO w v f l x) {r : Ren} {H : Hp} {b n : Nat} {cs : List Value} (hr : r b = some ⟨x.blk, x.off, none⟩) (hb : b < H.next) (hg : H.t.get b = some (.ro cs)) (hn : n = l.length) (h0 : l = [] → cs = []) :
    ∃ a cap, VR r (.slice a n cap) v ∧ Sl H a n cap cs := by
  subst hn
  rcases g.v with ⟨rfl | ⟨a', rfl⟩, rfl⟩ | ⟨cap, rfl, hl⟩
  · exact ⟨none, 0, .nilSlice, .inl ⟨.inl rfl, rfl, rfl, h0 rfl⟩⟩
  · exact ⟨some ⟨0, 0, some 0⟩, 0, .weird, .inl ⟨.inr rfl, rfl, rfl, h0 rfl⟩⟩
  · refine ⟨some ⟨b, 0, none⟩, cap, ?_, .inr ⟨b, rfl, ⟨hb, by unfold cellsOf; rw [hg]⟩, hl⟩⟩
    have := VR.slice (o := 0) (n := l.length) (c := cap) hr rfl hl
    simpa using this
/-- A harvest, as it is given. -/
structure HG (w : World) (s1 s2 : Value) (L1 : List BV) (L2 : List RV) (x1 x2 : Imp) : Prop where
  g1 : GivO w s1 BV.f L1 x1
  g2 : GivO w s2 RV.f L2 x2
  q1 : ∀ b ∈ L1, b.Q w
  q2 : ∀ b ∈ L2, b.Q w
theorem imports_harvest {P : Program} (pre : List Imp) {w : World} {s1 s2 : Value} {L1 : List BV} {L2 : List RV} {x1 x2 : Imp} (hg : HG w s1 s2 L1 L2 x1 x2) (inlet reserve winds : Int) (h : ∀ x ∈ pre, ∀ (i : Nat) v, x.cs[i]? = some v → w.cell? ⟨x.blk, x.off + i, none⟩ = some v ∧ flat1 v = true) :
    ∃ (r : Ren) (H : Hp) (g : Fh), Rel P r w.heap.size H w ∧ (∀ b loc, r b = some loc → b < H.next) ∧ (∀ (b : Nat) x, pre[b]? = some x → b < H.next ∧ r b = some ⟨x.blk, x.off, none⟩ ∧ H.t.get b = some (.ro x.cs)) ∧ g.At H.next H ∧ g.inlet = inlet ∧ g.reserve = reserve ∧ g.winds = winds ∧
      VR r (.slice g.ba g.bn g.bcap) s1 ∧ VR r (.slice g.ra g.rn g.rcap) s2 := by
  obtain ⟨bs, b1, b2, b3⟩ := bogs_abs (w := w) (imps := pre ++ L1.map BV.x ++ L2.map RV.x) L1 pre (L2.map RV.x) rfl hg.q1
  obtain ⟨rs, r1, r2, r3⟩ := rates_abs (w := w) (imps := pre ++ L1.map BV.x ++ L2.map RV.x) L2 (pre ++ L1.map BV.x) [] (by simp) hg.q2
  obtain ⟨imps, himps⟩ : ∃ imps, imps = pre ++ L1.map BV.x ++ L2.map RV.x := ⟨_, rfl⟩
  rw [← himps] at b2 b3 r2 r3
  have himp : ∀ x ∈ imps, ∀ (i : Nat) v, x.cs[i]? = some v → w.cell? ⟨x.blk, x.off + i, none⟩ = some v ∧ flat1 v = true := by
    intro x hx
    rw [himps] at hx
    simp only [List.mem_append, List.mem_map] at hx
    rcases hx with (hx | ⟨y, hy, rfl⟩) | ⟨y, hy, rfl⟩
    · exact h x hx
    · exact (hg.q1 y hy).ok
    · exact (hg.q2 y hy).ok
  have side : ∀ {α : Type} {v : Value} {f : α → List Value} {l : List α} {x : Imp} {cs : List Value}, GivO w v f l x → LR (renOf imps) cs (l.flatMap f) → ∀ (i : Nat) u, cs[i]? = some u → ∃ v', w.cell? ⟨x.blk, x.off + i, none⟩ = some v' ∧ VR (renOf imps) u v' := by
    intro α v f l x cs gv hl i u hu
    have hlt := get_lt hu
    have hlt2 : i < (l.flatMap f).length := by rw [← hl.1]; exact hlt
    have hu2 := List.getElem?_eq_getElem hlt2
    exact ⟨_, gv.cs i _ hu2, hl.2 i u _ hu hu2⟩
  obtain ⟨r, H, h1, h2, h3, h4, h5⟩ := imports3 (P := P) imps [⟨x1.blk, x1.off, bgc bs⟩, ⟨x2.blk, x2.off, rwc rs⟩] w himp (by
    intro x hx i u hu
    simp only [List.mem_cons, List.not_mem_nil, or_false] at hx
    rcases hx with rfl | rfl
    · exact side hg.g1 b2 i u hu
    · exact side hg.g2 r2 i u hu)
  have hnx : H.next = imps.length + 2 := by rw [h2]; simp
  have hg5 : ∀ (b : Nat) x, imps[b]? = some x → r b = some ⟨x.blk, x.off, none⟩ ∧ H.t.get b = some (.ro x.cs) := fun b x hx => h5 b x (by rw [List.getElem?_append_left (get_lt hx)]; exact hx)
  have hH : ∀ (b : Nat) x, imps[b]? = some x → b < H.next ∧ H.t.get b = some (.ro x.cs) := fun b x hx => ⟨by have := get_lt hx; omega, (hg5 b x hx).2⟩
  obtain ⟨o1, p1⟩ := h5 imps.length ⟨x1.blk, x1.off, bgc bs⟩ (by simp)
  obtain ⟨o2, p2⟩ := h5 (imps.length + 1) ⟨x2.blk, x2.off, rwc rs⟩ (by simp)
  obtain ⟨a1, c1, v1, s1'⟩ := givO_rel hg.g1 o1 (by omega) p1 b1 (fun e => by have : bs = [] := List.eq_nil_of_length_eq_zero (by rw [b1, e]; rfl); rw [this]; rfl)
  obtain ⟨a2, c2, v2, s2'⟩ := givO_rel hg.g2 o2 (by omega) p2 r1 (fun e => by have : rs = [] := List.eq_nil_of_length_eq_zero (by rw [r1, e]; rfl); rw [this]; rfl)
  refine ⟨r, H, ⟨a1, bs.length, c1, bs, a2, rs.length, c2, rs, inlet, reserve, winds⟩, h1, h3, fun b x hx => ?_, ?_, rfl, rfl, rfl, v1, v2⟩
  · have hx2 : imps[b]? = some x := by rw [himps, List.append_assoc, List.getElem?_append_left (get_lt hx)]; exact hx
    exact ⟨(hH b x hx2).1, hg5 b x hx2⟩
  · exact ⟨Nat.le_refl _, s1', s2', rfl, rfl, fun x e => s1'.old x e, fun x e => s2'.old x e, b3 H H.next (by omega) hH, r3 H H.next (by omega) hH⟩
end Go.Ax


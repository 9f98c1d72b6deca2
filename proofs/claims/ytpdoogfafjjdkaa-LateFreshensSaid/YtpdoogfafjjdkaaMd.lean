import Derived.Test.YtpdoogfafjjdkaaMc
import Derived.Test.YtpdoogfafjjdkaaAxW9
import Derived.Test.YtpdoogfafjjdkaaChecked
import Derived.Test.YtpdoogfafjjdkaaAxO
import Derived.Deep.Slices
import Derived.Deep.Fields
import Derived.ChangeSame
set_option linter.all false
/-
  Late: Freshen (28) (written by program).
-/
namespace Go.Ax
open Go Go.RowKit Go.Proofs

theorem res2 {P : Program} {S : Rg} {H : Hp} {a b : Nat} {t1 t2 : TypeId} {v1 v2 : Value} {x y : Nat} (ha : lk S a = some (.pointer (some ⟨x, 0, none⟩))) (hb : lk S b = some (.pointer (some ⟨y, 0, none⟩))) (h1 : isAggB P t1 = some false) (h2 : isAggB P t2 = some false) (r1 : Rd H x [v1]) (r2 : Rd H y [v2]) :
    resS P S H [.cell a t1, .cell b t2] = some [v1, v2] := by
  simp only [resS, ha, hb, load_one h1 r1, load_one h2 r2]
theorem ag27 : isAggB Try.prog 27 = some false := by kernel_rfl
theorem ag30 : isAggB Try.prog 30 = some false := by kernel_rfl
/-- what Freshen answers -/
def Lt.Fr (g : Lt) (lo : Nat) (a b : Int) (f : Nat) (w : Value) (H' : Hp) : Prop :=
  (g.ok = false ∧ w = .tuple #[.slice none 0 0, iv 1]) ∨ (g.ok = true ∧ (flB g a b = false ∨ 12 < b) ∧ w = .tuple #[.slice none 0 0, iv 2]) ∨
  (g.ok = true ∧ ∃ s d : Nat, a = s ∧ b = d ∧ s + d ≤ g.wn ∧ d ≤ 12 ∧
    (((∀ y, y < 2 ^ d → ¬ g.ff s d y) ∧ w = .tuple #[.slice none 0 0, iv 4]) ∨
     ∃ (y : Nat) (ov : Value), y < 2 ^ d ∧ g.ff s d y ∧ (∀ z, z < 2 ^ d → g.ff s d z → cnt d y < cnt d z ∨ (cnt d y = cnt d z ∧ revB d z ≤ revB d y)) ∧ w = .tuple #[ov, iv 0] ∧ Acc lo f 3 H' ov (cnt d y) (ints (bl d y (s : Int)))))
section
variable {kn : FuncId → Option Bool} {lo : Nat} {H : Hp}
theorem freshen_ok (h48 : kn 48 = none) {g : Lt} {a b : Int} (hw : Sl H g.wa g.wn g.wcap (spc g.ws)) (ha : Sl H g.aa g.an g.acap (spc g.as)) (hwl : g.ws.length = g.wn) (hal : g.as.length = g.an) (hwn : g.wn ≤ 1000) (han : g.an ≤ 1000) (hlo : lo ≤ H.next) :
    ∃ w H', FnX Try.prog kn lo 28 [.agg g.v.toArray, iv a, iv b] H w H' ∧ Keep H H' [] ∧ g.Fr lo a b H.next w H' := by
  refine fnX_lowR (kn := kn) (lo := lo) (H := H) (args := [.agg g.v.toArray, iv a, iv b]) (Q := fun w H' => Keep H H' [] ∧ g.Fr lo a b H.next w H') Try.func28 B28 N28 Z28 L28 (by simp) ?_
  have fw : ∀ b, g.wa = some ⟨b, 0, none⟩ → b < H.next := hw.old
  have fa : ∀ b, g.aa = some ⟨b, 0, none⟩ → b < H.next := ha.old
  intro y hy
  refine TriR.lowR hy ?_
  intro H1 hH1; obtain ⟨k1, n1, c1⟩ := new_facts hH1; clear hH1
  have c1 : Cl H1 H.next g.v := c1
  intro H2 hH2; obtain ⟨k2, n2, c2⟩ := new_facts hH2; clear hH2
  have c2 : Cl H2 H1.next [.slice none 0 0] := c2
  intro H3 hH3; obtain ⟨k3, n3, c3⟩ := new_facts hH3; clear hH3
  have c3 : Cl H3 H2.next [iv 0] := c3
  have k03 := k1.trans (k2.trans k3)
  have m03 := k03.1
  have d1 := (k2.trans k3).cl c1 (by simp)
  have d2 := k3.cl c2 (by simp)
  intro y hy
  refine TriR.lowR hy ?_
  refine Exists.intro _ (Exists.intro _ (And.intro d1.of (And.intro (show row 13 g.v 0 = some g.v from rfl) ?_)))
  obtain ⟨w, H4, f4, k4, hc⟩ := course_ok (kn := kn) (lo := lo) (H := H3) (g := g) (a := a) (b := b) (us := []) (k03.sl0 hw) (k03.sl0 ha) hwl hal hwn han (.inl ⟨.inl rfl, rfl, rfl, rfl⟩ : Sl H3 none 0 0 (ints [])) rfl (by decide) (by omega)
  have k04 := k03.trans k4
  have m4 := k4.1
  have d2 := k4.cl d2 (by simp)
  have d3 := k4.cl c3 (by simp)
  refine Exists.intro _ (Exists.intro _ (And.intro (callX_args f4) ?_))
  rcases hc with ⟨hok, rfl⟩ | ⟨hok, hfl, rfl⟩ | ⟨hok, s, d, rfl, rfl, hsd, hset, rfl⟩
  · refine And.intro rfl (Exists.intro (.agg zeroC.toArray) (And.intro (by kernel_rfl) ?_))
    refine And.intro rfl (Exists.intro (iv 1) (And.intro (by kernel_rfl) ?_))
    intro H5 hH5; obtain ⟨k5, n5, c5⟩ := new_facts hH5; clear hH5
    have c5 : Cl H5 H4.next zeroC := c5
    obtain ⟨_, e6, l6, g6⟩ := id c5
    refine Exists.intro _ (Exists.intro _ (Exists.intro _ (And.intro g6 (And.intro (by omega) (And.intro rfl (And.intro rfl (And.intro (by simp) ?_)))))))
    intro H6 hH6; obtain ⟨k6, n6, c6⟩ := up_facts c5 hH6; clear hH6
    have k46 : Keep H4 H6 [] := k5.new k6 (fun b hb => .inr (by simp at hb; omega))
    have k06 := k04.trans k46
    have m6 := k46.1
    have d2 := k46.cl d2 (by simp)
    have d3 := k46.cl d3 (by simp)
    intro y hy
    refine TriR.lowR hy ?_
    refine condT ?_
    obtain ⟨_, e7, l7, g7⟩ := id d2
    refine Exists.intro _ (Exists.intro _ (Exists.intro _ (And.intro g7 (And.intro (by omega) (And.intro rfl (And.intro rfl (And.intro (by simp) ?_)))))))
    intro H7 hH7; obtain ⟨k7, n7, c7⟩ := up_facts d2 hH7; clear hH7
    have c7 : Cl H7 H1.next [.slice none 0 0] := c7
    have d3 := k7.cl d3 (by simp; omega)
    obtain ⟨_, e8, l8, g8⟩ := id d3
    refine Exists.intro _ (Exists.intro _ (Exists.intro _ (And.intro g8 (And.intro (by omega) (And.intro rfl (And.intro rfl (And.intro (by simp) ?_)))))))
    intro H8 hH8; obtain ⟨k8, n8, c8⟩ := up_facts d3 hH8; clear hH8
    have c8 : Cl H8 H2.next [iv 1] := c8
    have c7 := k8.cl c7 (by simp; omega)
    have k08 : Keep H H8 [] := (k06.new k7 (fun b hb => .inr (by simp at hb; omega))).new k8 (fun b hb => .inr (by simp at hb; omega))
    exact And.intro trivial (Or.inl ⟨rfl, _, res2 rfl rfl ag27 ag30 c7.rd c8.rd, k08, Or.inl ⟨hok, rfl⟩⟩)
  · refine And.intro rfl (Exists.intro (.agg zeroC.toArray) (And.intro (by kernel_rfl) ?_))
    refine And.intro rfl (Exists.intro (iv 2) (And.intro (by kernel_rfl) ?_))
    intro H5 hH5; obtain ⟨k5, n5, c5⟩ := new_facts hH5; clear hH5
    have c5 : Cl H5 H4.next zeroC := c5
    obtain ⟨_, e6, l6, g6⟩ := id c5
    refine Exists.intro _ (Exists.intro _ (Exists.intro _ (And.intro g6 (And.intro (by omega) (And.intro rfl (And.intro rfl (And.intro (by simp) ?_)))))))
    intro H6 hH6; obtain ⟨k6, n6, c6⟩ := up_facts c5 hH6; clear hH6
    have k46 : Keep H4 H6 [] := k5.new k6 (fun b hb => .inr (by simp at hb; omega))
    have k06 := k04.trans k46
    have m6 := k46.1
    have d2 := k46.cl d2 (by simp)
    have d3 := k46.cl d3 (by simp)
    intro y hy
    refine TriR.lowR hy ?_
    refine condT ?_
    obtain ⟨_, e7, l7, g7⟩ := id d2
    refine Exists.intro _ (Exists.intro _ (Exists.intro _ (And.intro g7 (And.intro (by omega) (And.intro rfl (And.intro rfl (And.intro (by simp) ?_)))))))
    intro H7 hH7; obtain ⟨k7, n7, c7⟩ := up_facts d2 hH7; clear hH7
    have c7 : Cl H7 H1.next [.slice none 0 0] := c7
    have d3 := k7.cl d3 (by simp; omega)
    obtain ⟨_, e8, l8, g8⟩ := id d3
    refine Exists.intro _ (Exists.intro _ (Exists.intro _ (And.intro g8 (And.intro (by omega) (And.intro rfl (And.intro rfl (And.intro (by simp) ?_)))))))
    intro H8 hH8; obtain ⟨k8, n8, c8⟩ := up_facts d3 hH8; clear hH8
    have c8 : Cl H8 H2.next [iv 2] := c8
    have c7 := k8.cl c7 (by simp; omega)
    have k08 : Keep H H8 [] := (k06.new k7 (fun b hb => .inr (by simp at hb; omega))).new k8 (fun b hb => .inr (by simp at hb; omega))
    exact And.intro trivial (Or.inl ⟨rfl, _, res2 rfl rfl ag27 ag30 c7.rd c8.rd, k08, Or.inr (Or.inl ⟨hok, .inl (by simpa [setB] using hfl), rfl⟩)⟩)
  have v := Lt.vd hok hwl hal
  have hn40 := v.n40
  refine And.intro rfl (Exists.intro (.agg (crs g s d (dayMask [])).toArray) (And.intro (by kernel_rfl) ?_))
  refine And.intro rfl (Exists.intro (iv 0) (And.intro (by kernel_rfl) ?_))
  intro H5 hH5; obtain ⟨k5, n5, c5⟩ := new_facts hH5; clear hH5
  have c5 : Cl H5 H4.next zeroC := c5
  obtain ⟨_, e6, l6, g6⟩ := id c5
  refine Exists.intro _ (Exists.intro _ (Exists.intro _ (And.intro g6 (And.intro (by omega) (And.intro rfl (And.intro rfl (And.intro (by simp) ?_)))))))
  intro H6 hH6; obtain ⟨k6, n6, c6⟩ := up_facts c5 hH6; clear hH6
  have c6 : Cl H6 H4.next (crs g s d (dayMask [])) := c6
  have k46 : Keep H4 H6 [] := k5.new k6 (fun b hb => .inr (by simp at hb; omega))
  have k06 := k04.trans k46
  have m6 := k46.1
  have d2 := k46.cl d2 (by simp)
  have d3 := k46.cl d3 (by simp)
  intro y hy
  refine TriR.lowR hy ?_
  refine condF ?_
  intro y hy
  refine TriR.lowR hy ?_
  refine And.intro (fun hg => ?_) (fun hg => ?_)
  · have hg : (d : Int) > 12 := of_decide_eq_true hg
    obtain ⟨_, e7, l7, g7⟩ := id d2
    refine Exists.intro _ (Exists.intro _ (Exists.intro _ (And.intro g7 (And.intro (by omega) (And.intro rfl (And.intro rfl (And.intro (by simp) ?_)))))))
    intro H7 hH7; obtain ⟨k7, n7, c7⟩ := up_facts d2 hH7; clear hH7
    have c7 : Cl H7 H1.next [.slice none 0 0] := c7
    have d3 := k7.cl d3 (by simp; omega)
    obtain ⟨_, e8, l8, g8⟩ := id d3
    refine Exists.intro _ (Exists.intro _ (Exists.intro _ (And.intro g8 (And.intro (by omega) (And.intro rfl (And.intro rfl (And.intro (by simp) ?_)))))))
    intro H8 hH8; obtain ⟨k8, n8, c8⟩ := up_facts d3 hH8; clear hH8
    have c8 : Cl H8 H2.next [iv 2] := c8
    have c7 := k8.cl c7 (by simp; omega)
    have k08 : Keep H H8 [] := (k06.new k7 (fun b hb => .inr (by simp at hb; omega))).new k8 (fun b hb => .inr (by simp at hb; omega))
    exact And.intro trivial (Or.inl ⟨rfl, _, res2 rfl rfl ag27 ag30 c7.rd c8.rd, k08, Or.inr (Or.inl ⟨hok, .inr (by omega), rfl⟩)⟩)
  have hd : ¬ (d : Int) > 12 := of_decide_eq_false hg
  have hd : d ≤ 12 := by omega
  intro y hy
  refine TriR.lowL hy ?_
  intro z hz
  refine TriR.lowR hz ?_
  refine Exists.intro _ (Exists.intro _ (And.intro c6.of (And.intro (show row 2 _ 13 = some [iv (s : Int), iv (d : Int)] from rfl) ?_)))
  obtain ⟨bc, H7, f7, k7, hbc, rb⟩ := sets_ok (kn := kn) (lo := lo) (H := H6) (s := s) (d := d)
  refine Exists.intro _ (Exists.intro _ (And.intro (callX_args f7) ?_))
  intro y hy
  refine TriR.lowB hy ?_
  rw [E28_1]
  refine TriR.range rfl ?_
  intro H8 k8 n8 hdf hlp
  have k68 := k7.trans k8
  have k08 := k06.trans k68
  have lbc := rb.lt
  have m7 := k7.1
  let X : FX := ⟨H1.next, H2.next, H4.next, bc, H7.next⟩
  let c : FC := ⟨g, s, d⟩
  have G : FG X lo H := ⟨by show H.next ≤ H1.next; omega, by show lo ≤ H1.next; omega, by show H1.next < H2.next; omega, by show H2.next < H4.next; omega, by show H4.next < bc; omega, by show bc < H7.next; omega⟩
  have j0 : FJ X c H 0 0 H8 := ⟨k68.cl d2 (by simp), k68.cl d3 (by simp), ⟨_, k68.cl c6 (by simp)⟩, k8.rd rb (by simp), k08.sl0 hw, k08.sl0 ha, ⟨fun y hy hc => by omega, fun y hy hc h2 => by have := revB_lt d y; have h2 : 2 ^ d ≤ revB d y + 0 := h2; omega⟩, hlp.weak ⟨rfl, rfl, rfl, trivial⟩, by show H7.next + 1 < H8.next; omega, hdf, k08⟩
  obtain ⟨H9, h9, hend⟩ := iter74_ok (kn := kn) (lo := lo) (H := H8) (l := H7.next + 1) (bc := bc) (s := s) (d := d) hd (by omega) (fun k n H' => FJ X c H k n H') (fun k n H' => FD X c lo H k n H') j0 (fun k n H' j => j.cb) (fun k n H1' H2' j kk => j.keep kk) (fun k n H' j => by have := j.kp.1; omega)
    (fun k n H' hn j hne => { j with all := FAll.skip hn j.all (.inl hne) }) (fun k H' j => { j with all := FAll.up j.all })
    (fun k n H' hk hn j hc => fr_round h48 G v hsd hd fw fa (revB_lt d _) hc (by rw [revB_rev d _ (by omega)]; show 2 ^ d - 1 - n + n + 1 = 2 ^ d; omega) j)
  refine Exists.intro _ (Exists.intro H9 (And.intro (callX_func rfl (by simpa using h9)) ?_))
  rcases hend with j | ⟨k, n, hk, hn, dn⟩
  · refine ⟨.ready, none, _, j.lp, by simp, ?_⟩
    intro H10 s10
    have k10 := s10.keep
    have hn10 : H10.next = H9.next := s10.1
    have ll : H7.next + 1 < H9.next := j.ll
    have kH : Keep H H10 [] := j.kp.new k10 (fun b hb => .inr (by simp at hb; omega))
    have q6 : Cl H9 H1.next [.slice none 0 0] := j.c6
    have q7 : Cl H9 H2.next [iv 0] := j.c7
    have d2 := k10.cl q6 (by simp; omega)
    have d3 := k10.cl q7 (by simp; omega)
    have dj : H10.t.get H7.next = some (.dfr (some [])) := by
      rw [k10.2 H7.next (by omega) (by simp)]; exact j.dfr
    obtain ⟨_, e11, l11, g11⟩ := id d2
    refine Exists.intro _ (Exists.intro _ (Exists.intro _ (And.intro g11 (And.intro (by omega) (And.intro rfl (And.intro rfl (And.intro (by simp) ?_)))))))
    intro H11 hH11; obtain ⟨k11, n11, c11⟩ := up_facts d2 hH11; clear hH11
    have c11 : Cl H11 H1.next [.slice none 0 0] := c11
    have d3 := k11.cl d3 (by simp; omega)
    obtain ⟨_, e12, l12, g12⟩ := id d3
    refine Exists.intro _ (Exists.intro _ (Exists.intro _ (And.intro g12 (And.intro (by omega) (And.intro rfl (And.intro rfl (And.intro (by simp) ?_)))))))
    intro H12 hH12; obtain ⟨k12, n12, c12⟩ := up_facts d3 hH12; clear hH12
    have c12 : Cl H12 H2.next [iv 4] := c12
    have c11 := k12.cl c11 (by simp; omega)
    have k012 : Keep H H12 [] := (kH.new k11 (fun b hb => .inr (by simp at hb; omega))).new k12 (fun b hb => .inr (by simp at hb; omega))
    have dj12 : H12.t.get H7.next = some (.dfr (some [])) := by
      rw [k12.2 H7.next (by omega) (by simp; omega), k11.2 H7.next (by omega) (by simp; omega)]; exact dj
    refine And.intro trivial (Or.inr ⟨H7.next, rfl, by omega, dj12, fun H13 hn13 hs13 => ?_⟩)
    have k13 : Keep H12 H13 [H7.next] := ⟨by omega, fun b _ hb => hs13 b (by simpa using hb)⟩
    exact ⟨_, res2 rfl rfl ag27 ag30 (k13.cl c11 (by simp; omega)).rd (k13.cl c12 (by simp; omega)).rd, k012.new k13 (fun b hb => .inr (by simp at hb; omega)), .inr (.inr ⟨hok, s, d, rfl, rfl, hsd, hd, .inl ⟨fun y hy => j.all.1 y hy (by have := cnt_le d y; show cnt d y < d + 1; omega), rfl⟩⟩)⟩
  · refine ⟨.done, some .ret, _, dn.lp, by simp, ?_⟩
    intro H10 s10
    have k10 := s10.keep
    have hn10 : H10.next = H9.next := s10.1
    have ll : H7.next + 1 < H9.next := dn.ll
    have kH : Keep H H10 [] := dn.kp.new k10 (fun b hb => .inr (by simp at hb; omega))
    obtain ⟨y, ov, hy, hc, hr, hff, q6, acc⟩ := dn.res
    have q6 : Cl H9 H1.next [ov] := q6
    have q7 : Cl H9 H2.next [iv 0] := dn.c7
    have d2 := k10.cl q6 (by simp; omega)
    have d3 := k10.cl q7 (by simp; omega)
    have dj : H10.t.get H7.next = some (.dfr (some [])) := by
      rw [k10.2 H7.next (by omega) (by simp)]; exact dn.dfr
    refine And.intro trivial (Or.inr ⟨H7.next, rfl, by omega, dj, fun H13 hn13 hs13 => ?_⟩)
    have k13 : Keep H10 H13 [H7.next] := ⟨by omega, fun b _ hb => hs13 b (by simpa using hb)⟩
    have acc := ((acc.other k10 (by intro b hb; simp at hb; show b < H7.next + 2; omega)).other k13 (by intro b hb; simp at hb; show b < H7.next + 2; omega)).lower (f2 := H.next) (by show H.next ≤ H7.next + 2; omega)
    have hc : cnt d y = k := hc
    have hr : revB d y + n + 1 = 2 ^ d := hr
    exact ⟨_, res2 rfl rfl ag27 ag30 (k13.cl d2 (by simp; omega)).rd (k13.cl d3 (by simp; omega)).rd, kH.new k13 (fun b hb => .inr (by simp at hb; omega)), .inr (.inr ⟨hok, s, d, rfl, rfl, hsd, hd, .inr ⟨y, ov, hy, hff, fun z hz hfz => by
      have hz : z < 2 ^ d := hz
      rcases Nat.lt_or_ge (cnt d z) k with q | q
      · exact absurd hfz (dn.all.1 z hz q)
      · rcases Nat.lt_or_ge k (cnt d z) with q2 | q2
        · left; omega
        · right
          refine ⟨by omega, ?_⟩
          rcases Nat.lt_or_ge (revB d z + n) (2 ^ d) with q3 | q3
          · omega
          · exact absurd hfz (dn.all.2 z hz (by show cnt d z = k; omega) q3), rfl, acc⟩⟩)⟩
end
end Go.Ax

/-
  Late: the law LateFreshest, whatever the input (written by program).
-/
namespace Go.Ax
open Go Go.RowKit Go.Proofs

section
variable {n : Nat} {S : Rg} {x y : Operand} {o : Option Tmp}
end
theorem ff_mask {g : Lt} {s d y : Nat} (hy : y < 2 ^ d) : g.ff s d y ↔ g.sl s (Nat.testBit (dayMask (bl d y (s : Int)))) d ≤ g.bear := by
  have e : Nat.testBit (dayMask (bl d y (s : Int))) = Nat.testBit (y * 2 ^ s) := funext fun i => bl_mask hy i
  rw [e]; exact Iff.rfl
section
variable {kn : FuncId → Option Bool} {lo : Nat} {H : Hp}
end
end Go.Ax

/-! What 'low' makes of more functions of late (written by program). -/
namespace Go.Ax
open Go Go.RowKit Go.Proofs
theorem N5 : Try.f5.ntmps = 47 := by kernel_rfl
theorem Z5 : Try.f5.results.toList = ((List.toArray [(.tmp 6)]) : Array ResultVar).toList := by kernel_rfl
theorem B5 : Try.f5.body = some (at_ Try.f5 []) := by kernel_rfl
noncomputable def R5 : RC := (.seq (.reg [⟨(some 3), none, (.box 26 (.tmp 0))⟩, ⟨(some 6), none, (.mov (.const (.bool false)))⟩])
  (.seq (.seq (.reg [⟨(some 11), none, (.lda (.tmp 3) 13)⟩, ⟨(some 12), none, (.call ⟨(.value (.func 13)), (List.toArray [(.tmp 11), (.const (.slice none 0 0))]), (List.toArray [26, 27])⟩ true)⟩, ⟨(some 13), none, (.mov (.tmp 12))⟩, ⟨(some 14), (some (13, false)), (.mov (.tmp 2))⟩, ⟨(some 15), (some (13, false)), (.cmpb .gtr (.tmp 14) (.const (.int .i64 8)))⟩, ⟨(some 16), (some (13, false)), (.mov (.tmp 15))⟩, ⟨(some 17), (some (16, true)), (.mov (.tmp 2))⟩, ⟨(some 18), (some (16, true)), (.cmpb .neq (.tmp 17) (.const (.int .i64 13)))⟩, ⟨(some 19), (some (13, false)), (.pur ⟨(some 19), (.pick (.tmp 16) (.tmp 18) (.const (.bool false))), 4, "", (List.toArray []), none⟩)⟩, ⟨(some 20), none, (.pur ⟨(some 20), (.pick (.tmp 13) (.const (.bool true)) (.tmp 19)), 4, "", (List.toArray []), none⟩)⟩])
  (.cond (.tmp 20) (.seq (.reg [⟨(some 21), none, (.call ⟨(.value (.func 14)), (List.toArray []), (List.toArray [])⟩ true)⟩, ⟨(some 6), none, (.mov (.tmp 21))⟩])
  .ret)
  .skip))
  (.seq (.reg [⟨(some 23), none, (.lda (.tmp 3) 13)⟩, ⟨(some 24), none, (.mov (.tmp 1))⟩, ⟨(some 25), none, (.mov (.tmp 2))⟩, ⟨(some 26), none, (.call ⟨(.value (.func 28)), (List.toArray [(.tmp 23), (.tmp 24), (.tmp 25)]), (List.toArray [26, 3, 3])⟩ true)⟩, ⟨(some 22), none, (.mov (.tmp 26))⟩, ⟨(some 27), none, (.pur ⟨(some 27), (.extract (.tmp 22) 0), 27, "", (List.toArray []), none⟩)⟩, ⟨(some 28), none, (.pur ⟨(some 28), (.extract (.tmp 22) 1), 30, "", (List.toArray []), none⟩)⟩, ⟨(some 7), none, (.mov (.tmp 27))⟩, ⟨(some 8), none, (.mov (.tmp 28))⟩])
  (.seq (.reg [⟨(some 30), none, (.lda (.tmp 3) 13)⟩, ⟨(some 31), none, (.mov (.tmp 1))⟩, ⟨(some 32), none, (.mov (.tmp 2))⟩, ⟨(some 33), none, (.call ⟨(.value (.func 29)), (List.toArray [(.tmp 30), (.tmp 31), (.tmp 32)]), (List.toArray [26, 3, 3])⟩ true)⟩, ⟨(some 29), none, (.mov (.tmp 33))⟩, ⟨(some 34), none, (.pur ⟨(some 34), (.extract (.tmp 29) 0), 27, "", (List.toArray []), none⟩)⟩, ⟨(some 35), none, (.pur ⟨(some 35), (.extract (.tmp 29) 1), 30, "", (List.toArray []), none⟩)⟩, ⟨(some 9), none, (.mov (.tmp 34))⟩, ⟨(some 10), none, (.mov (.tmp 35))⟩])
  (.seq (.reg [⟨(some 36), none, (.mov (.tmp 7))⟩, ⟨(some 37), none, (.mov (.tmp 9))⟩, ⟨(some 38), none, (.call ⟨(.value (.func 30)), (List.toArray [(.tmp 36), (.tmp 37)]), (List.toArray [27, 27])⟩ true)⟩, ⟨(some 39), none, (.mov (.tmp 38))⟩, ⟨(some 40), (some (39, true)), (.mov (.tmp 8))⟩, ⟨(some 41), (some (39, true)), (.mov (.tmp 10))⟩, ⟨(some 42), (some (39, true)), (.cmpb .eql (.tmp 40) (.tmp 41))⟩, ⟨(some 43), none, (.pur ⟨(some 43), (.pick (.tmp 39) (.tmp 42) (.const (.bool false))), 4, "", (List.toArray []), none⟩)⟩, ⟨(some 44), none, (.mov (.tmp 43))⟩, ⟨(some 45), (some (44, true)), (.call ⟨(.value (.func 14)), (List.toArray []), (List.toArray [])⟩ true)⟩, ⟨(some 46), none, (.pur ⟨(some 46), (.pick (.tmp 44) (.tmp 45) (.const (.bool false))), 4, "", (List.toArray []), none⟩)⟩, ⟨(some 6), none, (.mov (.tmp 46))⟩])
  .ret)))))
theorem L5 : low Try.prog Try.f5.ntmps (at_ Try.f5 []) = some R5 := by kernel_rfl
theorem N29 : Try.f29.ntmps = 59 := by kernel_rfl
theorem Z29 : Try.f29.results.toList = ((List.toArray [(.tmp 6), (.tmp 7)]) : Array ResultVar).toList := by kernel_rfl
theorem B29 : Try.f29.body = some (at_ Try.f29 []) := by kernel_rfl
noncomputable def R29 : RC := (.seq (.reg [⟨(some 3), none, (.box 26 (.tmp 0))⟩, ⟨(some 6), none, (.mov (.const (.slice none 0 0)))⟩, ⟨(some 7), none, (.mov (.const (.int .i64 0)))⟩])
  (.seq (.seq (.reg [⟨(some 13), none, (.lda (.tmp 3) 13)⟩, ⟨(some 14), none, (.call ⟨(.value (.func 33)), (List.toArray [(.tmp 13)]), (List.toArray [26])⟩ true)⟩, ⟨(some 15), none, (.pur ⟨(some 15), (.unOp .not 4 (.tmp 14)), 4, "", (List.toArray []), none⟩)⟩])
  (.cond (.tmp 15) (.seq (.reg [⟨(some 6), none, (.mov (.const (.slice none 0 0)))⟩, ⟨(some 7), none, (.mov (.const (.int .i64 1)))⟩])
  .ret)
  .skip))
  (.seq (.seq (.reg [⟨(some 16), none, (.lda (.tmp 3) 13)⟩, ⟨(some 17), none, (.mov (.tmp 1))⟩, ⟨(some 18), none, (.mov (.tmp 2))⟩, ⟨(some 19), none, (.call ⟨(.value (.func 34)), (List.toArray [(.tmp 16), (.tmp 17), (.tmp 18), (.const (.slice none 0 0))]), (List.toArray [26, 3, 3, 27])⟩ true)⟩, ⟨(some 20), none, (.pur ⟨(some 20), (.unOp .not 4 (.tmp 19)), 4, "", (List.toArray []), none⟩)⟩, ⟨(some 21), none, (.mov (.tmp 20))⟩, ⟨(some 22), (some (21, false)), (.mov (.tmp 2))⟩, ⟨(some 23), (some (21, false)), (.cmpb .gtr (.tmp 22) (.const (.int .i64 12)))⟩, ⟨(some 24), none, (.pur ⟨(some 24), (.pick (.tmp 21) (.const (.bool true)) (.tmp 23)), 4, "", (List.toArray []), none⟩)⟩])
  (.cond (.tmp 24) (.seq (.reg [⟨(some 6), none, (.mov (.const (.slice none 0 0)))⟩, ⟨(some 7), none, (.mov (.const (.int .i64 2)))⟩])
  .ret)
  .skip))
  (.seq (.seq (.reg [⟨(some 8), none, (.mov (.const (.int .i64 0)))⟩])
  (.block 0 (.other (at_ Try.f29 [1, 1, 1, 0, 1, 0]))))
  (.seq (.reg [⟨(some 6), none, (.mov (.const (.slice none 0 0)))⟩, ⟨(some 7), none, (.mov (.const (.int .i64 4)))⟩])
  .ret)))))
theorem L29 : low Try.prog Try.f29.ntmps (at_ Try.f29 []) = some R29 := by kernel_rfl
theorem E29_1 : at_ Try.f29 [1, 1, 1, 0, 1, 0] = .loop (at_ Try.f29 [1, 1, 1, 0, 1, 0, 0]) := by kernel_rfl
noncomputable def R29x1 : RC := (.seq (.seq (.reg [⟨(some 25), none, (.mov (.tmp 8))⟩, ⟨(some 26), none, (.mov (.tmp 2))⟩, ⟨(some 27), none, (.cmp .leq (.tmp 25) (.tmp 26))⟩])
  (.cond (.tmp 27) .skip
  (.exit 0)))
  (.seq (.block 1 (.seq (.reg [⟨(some 30), none, (.mov (.tmp 1))⟩, ⟨(some 31), none, (.mov (.tmp 1))⟩, ⟨(some 32), none, (.mov (.tmp 2))⟩, ⟨(some 33), none, (.ari .add (.tmp 31) (.tmp 32))⟩, ⟨(some 34), none, (.mov (.tmp 8))⟩, ⟨(some 35), none, (.call ⟨(.value (.func 55)), (List.toArray [(.tmp 30), (.tmp 33), (.tmp 34), (.const (.slice none 0 0)), (.const (.slice none 0 0))]), (List.toArray [3, 3, 3, 27, 90])⟩ true)⟩, ⟨(some 9), none, (.mov (.tmp 35))⟩])
  (.seq (.reg [⟨(some 10), none, (.mov (.const (.int .i64 0)))⟩])
  (.block 2 (.other (at_ Try.f29 [1, 1, 1, 0, 1, 0, 0, 1, 0, 0, 1, 1, 0]))))))
  (.reg [⟨(some 28), none, (.mov (.tmp 8))⟩, ⟨(some 29), none, (.ari .add (.tmp 28) (.const (.int .i64 1)))⟩, ⟨(some 8), none, (.mov (.tmp 29))⟩])))
theorem L29x1 : low Try.prog Try.f29.ntmps (at_ Try.f29 [1, 1, 1, 0, 1, 0, 0]) = some R29x1 := by kernel_rfl
theorem E29_2 : at_ Try.f29 [1, 1, 1, 0, 1, 0, 0, 1, 0, 0, 1, 1, 0] = .loop (at_ Try.f29 [1, 1, 1, 0, 1, 0, 0, 1, 0, 0, 1, 1, 0, 0]) := by kernel_rfl
noncomputable def R29x2 : RC := (.seq (.seq (.reg [⟨(some 36), none, (.mov (.tmp 10))⟩, ⟨(some 37), none, (.mov (.tmp 9))⟩, ⟨(some 38), none, (.len (.tmp 37))⟩, ⟨(some 39), none, (.cmp .lss (.tmp 36) (.tmp 38))⟩])
  (.cond (.tmp 39) .skip
  (.exit 2)))
  (.seq (.block 3 (.seq (.dreg [⟨(some 43), none, (.lda (.tmp 3) 13)⟩, ⟨(some 44), none, (.mov (.tmp 1))⟩, ⟨(some 45), none, (.mov (.tmp 2))⟩, ⟨(some 46), none, (.mov (.tmp 9))⟩, ⟨(some 47), none, (.mov (.tmp 10))⟩, ⟨(some 48), none, (.idx (.tmp 46) (.tmp 47) 1)⟩, ⟨(some 49), none, (.ld (.tmp 48) 1)⟩, ⟨(some 50), none, (.call ⟨(.value (.func 45)), (List.toArray [(.tmp 43), (.tmp 44), (.tmp 45), (.tmp 49)]), (List.toArray [26, 3, 3, 27])⟩ true)⟩, ⟨(some 42), none, (.mov (.tmp 50))⟩, ⟨(some 51), none, (.pur ⟨(some 51), (.extract (.tmp 42) 0), 3, "", (List.toArray []), none⟩)⟩, ⟨(some 52), none, (.pur ⟨(some 52), (.extract (.tmp 42) 1), 3, "", (List.toArray []), none⟩)⟩, ⟨(some 11), none, (.mov (.tmp 51))⟩, ⟨(some 12), none, (.mov (.tmp 52))⟩] [4095, 1023, 511, 511, 255, 127, 56, 24, 0, 0, 0, 0, 0])
  (.seq (.reg [⟨(some 53), none, (.mov (.tmp 12))⟩, ⟨(some 54), none, (.cmp .eql (.tmp 53) (.const (.int .i64 0)))⟩])
  (.cond (.tmp 54) (.seq (.reg [⟨(some 55), none, (.mov (.tmp 9))⟩, ⟨(some 56), none, (.mov (.tmp 10))⟩, ⟨(some 57), none, (.idx (.tmp 55) (.tmp 56) 1)⟩, ⟨(some 58), none, (.ld (.tmp 57) 1)⟩, ⟨(some 6), none, (.mov (.tmp 58))⟩, ⟨(some 7), none, (.mov (.const (.int .i64 0)))⟩])
  .ret)
  .skip))))
  (.reg [⟨(some 40), none, (.mov (.tmp 10))⟩, ⟨(some 41), none, (.ari .add (.tmp 40) (.const (.int .i64 1)))⟩, ⟨(some 10), none, (.mov (.tmp 41))⟩])))
theorem L29x2 : low Try.prog Try.f29.ntmps (at_ Try.f29 [1, 1, 1, 0, 1, 0, 0, 1, 0, 0, 1, 1, 0, 0]) = some R29x2 := by kernel_rfl
theorem N55 : Try.f55.ntmps = 38 := by kernel_rfl
theorem Z55 : Try.f55.results.toList = ((List.toArray [(.tmp 10)]) : Array ResultVar).toList := by kernel_rfl
theorem B55 : Try.f55.body = some (at_ Try.f55 []) := by kernel_rfl
noncomputable def R55 : RC := (.seq (.reg [⟨(some 10), none, (.mov (.const (.slice none 0 0)))⟩])
  (.seq (.seq (.reg [⟨(some 12), none, (.mov (.tmp 2))⟩, ⟨(some 13), none, (.cmp .eql (.tmp 12) (.const (.int .i64 0)))⟩])
  (.cond (.tmp 13) (.seq (.reg [⟨(some 14), none, (.mov (.tmp 4))⟩, ⟨(some 15), none, (.mov (.tmp 3))⟩, ⟨(some 16), none, (.mem ⟨(some 16), (.buildSlice 90 1 (List.toArray [(0, (.tmp 15))])), 90, "", (List.toArray []), none⟩)⟩, ⟨(some 17), none, (.mem ⟨(some 17), (.call ⟨(.builtin .append), (List.toArray [(.tmp 14), (.tmp 16)]), (List.toArray [90, 90])⟩), 90, "", (List.toArray []), none⟩)⟩, ⟨(some 10), none, (.mov (.tmp 17))⟩])
  .ret)
  .skip))
  (.seq (.seq (.reg [⟨(some 18), none, (.mov (.tmp 0))⟩, ⟨(some 11), none, (.mov (.tmp 18))⟩])
  (.block 0 (.other (at_ Try.f55 [1, 1, 0, 1, 0]))))
  (.seq (.reg [⟨(some 37), none, (.mov (.tmp 4))⟩, ⟨(some 10), none, (.mov (.tmp 37))⟩])
  .ret))))
theorem L55 : low Try.prog Try.f55.ntmps (at_ Try.f55 []) = some R55 := by kernel_rfl
theorem E55_1 : at_ Try.f55 [1, 1, 0, 1, 0] = .loop (at_ Try.f55 [1, 1, 0, 1, 0, 0]) := by kernel_rfl
noncomputable def R55x1 : RC := (.seq (.seq (.reg [⟨(some 19), none, (.mov (.tmp 11))⟩, ⟨(some 20), none, (.mov (.tmp 1))⟩, ⟨(some 21), none, (.cmp .lss (.tmp 19) (.tmp 20))⟩])
  (.cond (.tmp 21) .skip
  (.exit 0)))
  (.seq (.block 1 (.reg [⟨(some 24), none, (.mov (.tmp 11))⟩, ⟨(some 25), none, (.ari .add (.tmp 24) (.const (.int .i64 1)))⟩, ⟨(some 26), none, (.mov (.tmp 1))⟩, ⟨(some 27), none, (.mov (.tmp 2))⟩, ⟨(some 28), none, (.ari .sub (.tmp 27) (.const (.int .i64 1)))⟩, ⟨(some 29), none, (.mem ⟨(some 29), (.buildSlice 27 0 (List.toArray [])), 27, "", (List.toArray []), none⟩)⟩, ⟨(some 30), none, (.mov (.tmp 3))⟩, ⟨(some 31), none, (.mem ⟨(some 31), (.call ⟨(.builtin .append), (List.toArray [(.tmp 29), (.tmp 30)]), (List.toArray [27, 27])⟩), 27, "", (List.toArray []), none⟩)⟩, ⟨(some 32), none, (.mov (.tmp 11))⟩, ⟨(some 33), none, (.mem ⟨(some 33), (.buildSlice 27 1 (List.toArray [(0, (.tmp 32))])), 27, "", (List.toArray []), none⟩)⟩, ⟨(some 34), none, (.mem ⟨(some 34), (.call ⟨(.builtin .append), (List.toArray [(.tmp 31), (.tmp 33)]), (List.toArray [27, 27])⟩), 27, "", (List.toArray []), none⟩)⟩, ⟨(some 35), none, (.mov (.tmp 4))⟩, ⟨(some 36), none, (.call ⟨(.value (.func 55)), (List.toArray [(.tmp 25), (.tmp 26), (.tmp 28), (.tmp 34), (.tmp 35)]), (List.toArray [3, 3, 3, 27, 90])⟩ true)⟩, ⟨(some 4), none, (.mov (.tmp 36))⟩]))
  (.reg [⟨(some 22), none, (.mov (.tmp 11))⟩, ⟨(some 23), none, (.ari .add (.tmp 22) (.const (.int .i64 1)))⟩, ⟨(some 11), none, (.mov (.tmp 23))⟩])))
theorem L55x1 : low Try.prog Try.f55.ntmps (at_ Try.f55 [1, 1, 0, 1, 0, 0]) = some R55x1 := by kernel_rfl
end Go.Ax

/-
  Late: lists of n days, in their order; lists of lists that append makes (written by program).
-/
namespace Go.Ax
open Go Go.RowKit Go.Proofs

/-- the sets of n of d days, in the order of their lists -/
def cy : Nat → Nat → List Nat
  | _, 0 => [0]
  | 0, _ + 1 => []
  | d + 1, n + 1 => (cy d n).map (fun y => 2 * y + 1) ++ (cy d (n + 1)).map (fun y => 2 * y)
theorem cy_zero (d : Nat) : cy d 0 = [0] := by cases d <;> rfl
theorem cnt_0 : ∀ (d y : Nat), y < 2 ^ d → cnt d y = 0 → y = 0
  | 0, y, h, _ => by simpa using h
  | d + 1, y, h, hc => by
    unfold cnt at hc
    have := cnt_0 d (y / 2) (by rw [Nat.pow_succ] at h; omega) (by omega)
    omega
theorem cy_in : ∀ (d n y : Nat), y ∈ cy d n → y < 2 ^ d ∧ cnt d y = n
  | d, 0, y, h => by
    rw [cy_zero] at h; simp at h; subst h
    exact ⟨Nat.pow_pos (by decide), cnt_zero d⟩
  | 0, n + 1, y, h => by simp [cy] at h
  | d + 1, n + 1, y, h => by
    unfold cy at h
    rw [List.mem_append, List.mem_map, List.mem_map] at h
    rcases h with ⟨z, hz, rfl⟩ | ⟨z, hz, rfl⟩
    · have := cy_in d n z hz
      unfold cnt
      rw [show (2 * z + 1) / 2 = z by omega, Nat.pow_succ]
      omega
    · have := cy_in d (n + 1) z hz
      unfold cnt
      rw [show (2 * z) / 2 = z by omega, Nat.pow_succ]
      omega
theorem cy_all : ∀ (d n y : Nat), y < 2 ^ d → cnt d y = n → y ∈ cy d n
  | d, 0, y, h, hc => by rw [cy_zero, cnt_0 d y h hc]; simp
  | 0, n + 1, y, h, hc => by unfold cnt at hc; omega
  | d + 1, n + 1, y, h, hc => by
    unfold cnt at hc
    rw [Nat.pow_succ] at h
    unfold cy
    rw [List.mem_append, List.mem_map, List.mem_map]
    rcases Nat.lt_or_ge (y % 2) 1 with q | q
    · exact .inr ⟨y / 2, cy_all d (n + 1) (y / 2) (by omega) (by omega), by omega⟩
    · exact .inl ⟨y / 2, cy_all d n (y / 2) (by omega) (by omega), by omega⟩
theorem cy_ord : ∀ (d n : Nat), (cy d n).Pairwise fun y z => revB d z < revB d y
  | d, 0 => by rw [cy_zero]; simp
  | 0, n + 1 => by simp [cy]
  | d + 1, n + 1 => by
    unfold cy
    have e1 : ∀ y, revB (d + 1) (2 * y + 1) = 2 ^ d + revB d y := fun y => by rw [show revB (d + 1) (2 * y + 1) = (2 * y + 1) % 2 * 2 ^ d + revB d ((2 * y + 1) / 2) from rfl, show (2 * y + 1) % 2 = 1 by omega, show (2 * y + 1) / 2 = y by omega, Nat.one_mul]
    have e0 : ∀ y, revB (d + 1) (2 * y) = revB d y := fun y => by rw [show revB (d + 1) (2 * y) = (2 * y) % 2 * 2 ^ d + revB d ((2 * y) / 2) from rfl, show (2 * y) % 2 = 0 by omega, show (2 * y) / 2 = y by omega]; simp
    rw [List.pairwise_append, List.pairwise_map, List.pairwise_map]
    refine ⟨(cy_ord d n).imp fun h => by rw [e1, e1]; omega, (cy_ord d (n + 1)).imp fun h => by rw [e0, e0]; exact h, fun x hx y hy => ?_⟩
    rw [List.mem_map] at hx hy
    obtain ⟨x, _, rfl⟩ := hx
    obtain ⟨y, _, rfl⟩ := hy
    have := revB_lt d y
    rw [e1, e0]; omega
theorem cy_len : ∀ (d n : Nat), (cy d n).length ≤ 2 ^ d
  | d, 0 => by rw [cy_zero]; exact Nat.one_le_two_pow
  | 0, n + 1 => by simp [cy]
  | d + 1, n + 1 => by
    have h1 := cy_len d n
    have h2 := cy_len d (n + 1)
    unfold cy
    rw [List.length_append, List.length_map, List.length_map, Nat.pow_succ]
    omega
def cL (d n : Nat) (o : Int) (pre : List Int) : List (List Int) := (cy d n).map fun y => pre ++ bl d y o
theorem cL_len (d n : Nat) (o : Int) (pre : List Int) : (cL d n o pre).length ≤ 2 ^ d := by unfold cL; rw [List.length_map]; exact cy_len d n
theorem cL_zero (d : Nat) (o : Int) (pre : List Int) : cL d 0 o pre = [pre] := by
  unfold cL
  rw [cy_zero]
  have h : (bl d 0 o).length = 0 := by rw [bl_len, cnt_zero]
  rw [List.map_cons, List.map_nil, List.eq_nil_of_length_eq_zero h, List.append_nil]
theorem cL_nil (n : Nat) (o : Int) (pre : List Int) : cL 0 (n + 1) o pre = [] := rfl
theorem cL_succ (d n : Nat) (o : Int) (pre : List Int) : cL (d + 1) (n + 1) o pre = cL d n (o + 1) (pre ++ [o]) ++ cL d (n + 1) (o + 1) pre := by
  unfold cL
  rw [show cy (d + 1) (n + 1) = (cy d n).map (fun y => 2 * y + 1) ++ (cy d (n + 1)).map (fun y => 2 * y) from rfl, List.map_append, List.map_map, List.map_map]
  congr 1
  · refine List.map_congr_left fun y _ => ?_
    have e : bl (d + 1) (2 * y + 1) o = o :: bl d y (o + 1) := by
      rw [show bl (d + 1) (2 * y + 1) o = bif decide ((2 * y + 1) % 2 = 1) then o :: bl d ((2 * y + 1) / 2) (o + 1) else bl d ((2 * y + 1) / 2) (o + 1) from rfl, decide_eq_true (by omega), show (2 * y + 1) / 2 = y by omega]; rfl
    show pre ++ bl (d + 1) (2 * y + 1) o = _
    rw [e]; simp
  · refine List.map_congr_left fun y _ => ?_
    have e : bl (d + 1) (2 * y) o = bl d y (o + 1) := by
      rw [show bl (d + 1) (2 * y) o = bif decide ((2 * y) % 2 = 1) then o :: bl d ((2 * y) / 2) (o + 1) else bl d ((2 * y) / 2) (o + 1) from rfl, decide_eq_false (by omega), show (2 * y) / 2 = y by omega]; rfl
    show pre ++ bl (d + 1) (2 * y) o = _
    rw [e]
theorem se90 : sliceElem Try.prog 90 = some (27, 1) := by kernel_rfl
theorem z27 : zeroOf Try.prog 27 = some (.slice none 0 0) := by kernel_rfl
theorem u90 : Try.prog.underlying 90 = some (.slice 27) := by kernel_rfl
def El (H : Hp) (x : Value) (l : List Int) : Prop := (∃ a n c, x = .slice a n c ∧ n = l.length ∧ Sl H a n c (ints l)) ∧ ∀ b, bkv x = some b → b < H.next
/-- a list of lists that append makes: its lists lie elsewhere -/
def LL (lo : Nat) (H : Hp) (v : Value) (ls : List (List Int)) : Prop := ∃ vs : List Value, vs.length = ls.length ∧ Acc lo lo 27 H v ls.length vs ∧ ∀ (i : Nat) (x : Value) (l : List Int), vs[i]? = some x → ls[i]? = some l → El H x l ∧ Ap v x
theorem El.keep {H H1 : Hp} {x : Value} {l : List Int} (h : El H x l) (k : Keep H H1 []) : El H1 x l := by
  obtain ⟨⟨a, n, c, rfl, hn, hs⟩, hb⟩ := h
  exact ⟨⟨a, n, c, rfl, hn, k.sl0 hs⟩, fun b e => Nat.lt_of_lt_of_le (hb b e) k.1⟩
theorem Sl.kb {H H1 : Hp} {a : Option Addr} {n c : Nat} {cs : List Value} {v : Value} (h : Sl H a n c cs) (k : Keep H H1 (bkv v).toList) (hap : Ap v (.slice a n c)) : Sl H1 a n c cs :=
  k.sl h fun b e hb => by
    subst e
    have hb : bkv v = some b := by simpa using hb
    exact hap b b hb rfl rfl
theorem El.kb {H H1 : Hp} {x v : Value} {l : List Int} (h : El H x l) (k : Keep H H1 (bkv v).toList) (hap : Ap v x) : El H1 x l := by
  obtain ⟨⟨a, n, c, rfl, hn, hs⟩, hb⟩ := h
  exact ⟨⟨a, n, c, rfl, hn, hs.kb k hap⟩, fun b e => Nat.lt_of_lt_of_le (hb b e) k.1⟩
theorem LL.keep {lo : Nat} {H H1 : Hp} {v : Value} {ls : List (List Int)} (h : LL lo H v ls) (k : Keep H H1 []) : LL lo H1 v ls := by
  obtain ⟨vs, h1, h2, h3⟩ := h
  exact ⟨vs, h1, h2.keep k, fun i x l hx hl => ⟨(h3 i x l hx hl).1.keep k, (h3 i x l hx hl).2⟩⟩
theorem LL.nil (lo : Nat) (H : Hp) : LL lo H (.slice none 0 0) [] := ⟨[], rfl, .inl ⟨rfl, rfl, rfl⟩, fun i x l h => by simp at h⟩
theorem heap_append_out {P : Program} {lo : Nat} {H : Hp} {t0 t1 e ep : TypeId} {size k cap2 f : Nat} {a : Option Addr} {v : Value} {cs news : List Value} (he : sliceElem P t0 = some (e, size)) (ht : P.underlying t1 = some (.slice ep))
    (hs : Sl H a 1 cap2 news) (hl : news.length = 1 * size) (hz : 0 < size) (hone : news.all one = true) (hcl : cs.length = k * size) (hk : k < 1000) (ha : Acc lo f e H v k cs) (hlo : lo ≤ H.next) (hf : f ≤ H.next) :
    ∃ H1 kd, (∀ (n : Nat) (S : Rg) (d : Option Tmp) (x y : Operand) (ty : TypeId) (p : String), evS S x = some v → evS S y = some (.slice a 1 cap2) → heapOp P lo (frS n S) H ⟨d, .call ⟨.builtin .append, #[x, y], #[t0, t1]⟩, ty, p, #[], none⟩ = some (.val (.slice (some ⟨H.next, 0, none⟩) (k + 1) (k + 1)) H1, kd)) ∧ (kd = .heavy ∨ ∃ b, kd = .store b ∧ f ≤ b) ∧
      Acc lo f e H1 (.slice (some ⟨H.next, 0, none⟩) (k + 1) (k + 1)) (k + 1) (cs ++ news) ∧ Keep H H1 (bkv v).toList := by
  rcases ha with ⟨rfl, rfl, rfl⟩ | ⟨b, rfl, h0, hb, hlb, hn, hg⟩
  · refine ⟨H.new (.cells news e true), .heavy, ?_, .inl rfl, ?_, (new_facts rfl).1.mono (by simp)⟩
    · intro n S d x y ty p hx hy
      unfold heapOp
      simp only [evs, ev_frS, hx, hy, builtinV, List.getElem?_toArray, List.getElem?_cons_zero, List.getElem?_cons_succ, he, ht, src_of hs hl, appendV]
      rfl
    · refine .inr ⟨H.next, rfl, by omega, hf, hlo, Nat.lt_succ_self _, ?_⟩
      show (H.t.set H.next _).get H.next = _
      rw [Tr.get_set, if_pos rfl]; rfl
  · have h1 : Nat.ble (0 + (k + 1) * size) cs.length = false := by
      cases h : Nat.ble (0 + (k + 1) * size) cs.length with
      | false => rfl
      | true => have := Nat.le_of_ble_eq_true h; rw [hcl, Nat.succ_mul] at this; omega
    have h2 : Nat.beq (0 + k * size) cs.length = true := by rw [hcl, Nat.zero_add]; exact Nat.beq_refl _
    have h3 : Nat.ble (k + 1) 1048576 = true := Nat.ble_eq_true_of_le (by omega)
    have h4 : Nat.beq e e = true := Nat.beq_refl e
    refine ⟨({ H with t := H.t.set b .dead } : Hp).new (.cells (cs ++ news) e true), .store b, ?_, .inr ⟨b, rfl, hb⟩, ?_, ?_⟩
    · intro n S d x y ty p hx hy
      unfold heapOp
      simp only [evs, ev_frS, hx, hy, builtinV, List.getElem?_toArray, List.getElem?_cons_zero, List.getElem?_cons_succ, he, ht, src_of hs hl, appendV, hg, h1, h2, h3, h4, hone, Nat.ble_eq_true_of_le hlb, Bool.and_self, cond_true, cond_false, List.drop_zero, show Nat.beq 1 0 = false from rfl]
    · refine .inr ⟨H.next, rfl, by omega, hf, hlo, Nat.lt_succ_self _, ?_⟩
      show ((H.t.set b .dead).set H.next _).get H.next = _
      rw [Tr.get_set, if_pos rfl]
    · refine ⟨Nat.le_succ _, fun c hc hn => ?_⟩
      have hne : c ≠ b := by simpa [bkv] using hn
      show ((H.t.set b .dead).set H.next _).get c = _
      rw [Tr.get_set, if_neg (by omega), Tr.get_set, if_neg hne]
theorem LL.app {lo : Nat} {H : Hp} {v x : Value} {ls : List (List Int)} {l : List Int} {b1 : Nat} (h : LL lo H v ls) (hx : El H x l) (hap : Ap v x) (h1 : one x = true) (hk : ls.length < 1000) (hlo : lo ≤ H.next) (hc : Cl H b1 [x]) :
    ∃ H1 kd, (∀ (n : Nat) (S : Rg) (d : Option Tmp) (x y : Operand) (ty : TypeId) (p : String), evS S x = some v → evS S y = some (.slice (some ⟨b1, 0, none⟩) 1 1) → heapOp Try.prog lo (frS n S) H ⟨d, .call ⟨.builtin .append, #[x, y], #[90, 90]⟩, ty, p, #[], none⟩ = some (.val (.slice (some ⟨H.next, 0, none⟩) (ls.length + 1) (ls.length + 1)) H1, kd)) ∧ (kd = .heavy ∨ ∃ b, kd = .store b ∧ lo ≤ b) ∧
      LL lo H1 (.slice (some ⟨H.next, 0, none⟩) (ls.length + 1) (ls.length + 1)) (ls ++ [l]) ∧ Keep H H1 (bkv v).toList := by
  obtain ⟨vs, e1, ha, he⟩ := h
  obtain ⟨H1, kd, q1, q2, q3, q4⟩ := heap_append_out (P := Try.prog) (lo := lo) (H := H) (t0 := 90) (t1 := 90) se90 u90 (hc.sl (Nat.le_refl 1)) rfl (by decide) (by simp [h1]) (by rw [e1, Nat.mul_one]) hk ha hlo hlo
  refine ⟨H1, kd, q1, q2, ⟨vs ++ [x], by simp [e1], by rw [List.length_append]; exact q3, fun i y m hy hm => ?_⟩, q4⟩
  have new : ∀ z, (∀ b, bkv z = some b → b < H.next) → Ap (.slice (some ⟨H.next, 0, none⟩) (ls.length + 1) (ls.length + 1)) z := fun z hz b c hb hc2 e => by
    have := hz c hc2
    simp [bkv] at hb
    omega
  rcases Nat.lt_or_ge i vs.length with hi | hi
  · rw [List.getElem?_append_left hi] at hy
    rw [List.getElem?_append_left (by omega)] at hm
    have := he i y m hy hm
    exact ⟨this.1.kb q4 this.2, new y this.1.2⟩
  · have hi2 : i = vs.length := by
      rcases Nat.lt_or_ge i (vs.length + 1) with q | q
      · omega
      · rw [List.getElem?_eq_none (by simp; omega)] at hy; cases hy
    subst hi2
    rw [List.getElem?_append_right (Nat.le_refl _)] at hy
    rw [List.getElem?_append_right (by omega)] at hm
    simp at hy
    rw [e1] at hm
    simp at hm
    subst hy; subst hm
    exact ⟨hx.kb q4 hap, new _ hx.2⟩
end Go.Ax

/-
  Late: the document's lists of n days (55) (written by program).
-/
namespace Go.Ax
open Go Go.RowKit Go.Proofs

section
variable {kn : FuncId → Option Bool} {lo : Nat} {H : Hp}
theorem sets55_ok : ∀ (n d : Nat) {H : Hp} {o ev nv : Int} {pa : Option Addr} {np pc : Nat} {pre : List Int} {ov : Value} {ls : List (List Int)}, ev = o + (d : Int) → nv = (n : Int) → 0 ≤ o ∧ o + d ≤ 1000 → np + n ≤ 100 → np = pre.length → ls.length + (cL d n o pre).length ≤ 900 → Sl H pa np pc (ints pre) → (∀ b, bkv (.slice pa np pc) = some b → b < H.next) → Ap ov (.slice pa np pc) → LL lo H ov ls → lo ≤ H.next →
    ∃ w H', FnX Try.prog kn lo 55 [iv o, iv ev, iv nv, .slice pa np pc, ov] H w H' ∧ Keep H H' (bkv ov).toList ∧ LL lo H' w (ls ++ cL d n o pre) ∧ (w = ov ∨ ∀ b, bkv w = some b → H.next ≤ b) := by
  intro n
  induction n with
  | zero =>
    intro d H o ev nv pa np pc pre ov ls hev hnv ho hnpn hnp hlen hp hpo hap hLL hlo
    obtain rfl : nv = 0 := by omega
    rw [cL_zero] at hlen
    have hlen : ls.length + 1 ≤ 900 := hlen
    refine fnX_low (kn := kn) (lo := lo) (H := H) (args := [iv o, iv ev, iv 0, .slice pa np pc, ov]) (Q := fun w H' => Keep H H' (bkv ov).toList ∧ LL lo H' w (ls ++ cL d 0 o pre) ∧ (w = ov ∨ ∀ b, bkv w = some b → H.next ≤ b)) Try.func55 B55 N55 Z55 L55 (by simp) ?_
    refine condT ?_
    have kk := Keep.refl H []
    obtain ⟨H1, hH1⟩ : ∃ H1, H.new (.cells [.slice pa np pc] 27 false) = H1 := ⟨_, rfl⟩
    refine And.intro rfl (Or.inr (And.intro (by kernel_rfl) (Exists.intro _ (Exists.intro H1 (Exists.intro _ (And.intro ((heap_build1 (v := .slice pa np pc) se90 z27 rfl rfl rfl (by decide)).trans (by rw [← hH1]; rfl)) (And.intro (fun b e => by cases e) ?_)))))))
    obtain ⟨kH1, nH1, c1⟩ := new_facts hH1; clear hH1
    have c1 : Cl H1 H.next [.slice pa np pc] := c1
    have mH1 := kH1.1
    have kk := kk.trans kH1
    obtain ⟨H2, kdH2, eH2, dH2, LH2, kH2⟩ := (hLL.keep kk).app (l := pre) (x := .slice pa np pc) (El.keep ⟨⟨pa, np, pc, rfl, hnp, hp⟩, hpo⟩ kk) hap rfl (by omega) (by omega) c1
    refine And.intro rfl (Or.inr (And.intro (by cases ov <;> kernel_rfl) (Exists.intro _ (Exists.intro H2 (Exists.intro _ (And.intro (eH2 _ _ _ _ _ _ _ rfl rfl) (And.intro (reg_ok dH2 _) ?_)))))))
    have mv : ∀ b, bkv (.slice (some ⟨H1.next, 0, none⟩) (ls.length + 1) (ls.length + 1)) = some b → H.next ≤ b := by
      intro b hb
      have hb : H1.next = b := by simpa [bkv] using hb
      omega
    exact And.intro trivial (Exists.intro _ (And.intro rfl ⟨(kk.mono (by simp)).trans kH2, by rw [cL_zero]; exact LH2, .inr mv⟩))
  | succ m ih =>
    intro d H o ev nv pa np pc pre ov ls hev hnv ho hnpn hnp hlen hp hpo hap hLL hlo
    refine fnX_low (kn := kn) (lo := lo) (H := H) (args := [iv o, iv ev, iv nv, .slice pa np pc, ov]) (Q := fun w H' => Keep H H' (bkv ov).toList ∧ LL lo H' w (ls ++ cL d (m + 1) o pre) ∧ (w = ov ∨ ∀ b, bkv w = some b → H.next ≤ b)) Try.func55 B55 N55 Z55 L55 (by simp) ?_
    refine And.intro (fun q1 => ?_) (fun q1 => ?_)
    · have q1 : nv = 0 := by simpa using q1
      exfalso; omega
    · have q1 : ¬ (nv = 0) := by simpa using q1
      refine loop_low (fn := Try.f55) E55_1 N55 L55x1 (fun x0 : Value × Int => [(1, iv ev), (2, iv nv), (3, .slice pa np pc), (4, x0.1), (11, iv x0.2)])
        (fun q x0 H' => x0.2 + (q : Int) = o + d ∧ o ≤ x0.2 ∧ Keep H H' (bkv ov).toList ∧ Sl H' pa np pc (ints pre) ∧ Ap x0.1 (.slice pa np pc) ∧ (x0.1 = ov ∨ ∀ b, bkv x0.1 = some b → H.next ≤ b) ∧ ∃ cur, LL lo H' x0.1 cur ∧ cur ++ cL q (m + 1) x0.2 pre = ls ++ cL d (m + 1) o pre) d (ov, o) ⟨rfl, Int.le_refl _, Keep.refl _ _, hp, hap, .inl rfl, ls, hLL, rfl⟩ ⟨rfl, rfl, rfl, rfl, rfl, trivial⟩ ?_
      rintro q ⟨wv, t⟩ L1 ⟨hik, hot, hK, hp, hap, hmv, cur, hLL, hcur⟩
      simp only at hik hot hap hmv hLL hcur
      have hm := hK.1
      have kk := Keep.refl L1 []
      have hp1 := hp
      refine And.intro (fun q2 => ?_) (fun q2 => ?_)
      · have q2 : t < ev := of_decide_eq_true q2
        obtain ⟨q2, rfl⟩ : ∃ q2, q = q2 + 1 := ⟨q - 1, by omega⟩
        rw [cL_succ] at hcur
        have hcl := congrArg List.length hcur
        simp only [List.length_append] at hcl
        have hpol : ∀ b, bkv (.slice pa np pc) = some b → b < L1.next := fun b e => by have := hpo b e; omega
        refine And.intro (show InR (t + 1) from ⟨by omega, by omega⟩) ?_
        refine And.intro (show InR (nv - 1) from ⟨by omega, by omega⟩) ?_
        obtain ⟨H1, hH1⟩ : ∃ H1, L1.new (.cells [] 3 false) = H1 := ⟨_, rfl⟩
        refine And.intro rfl (Or.inr (And.intro (by kernel_rfl) (Exists.intro _ (Exists.intro H1 (Exists.intro _ (And.intro ((heap_build0 se27 z3).trans (by rw [← hH1])) (And.intro (fun b e => by cases e) ?_)))))))
        have gH1 := new_get hH1
        obtain ⟨kH1, nH1, c1⟩ := new_facts hH1; clear hH1
        have mH1 := kH1.1
        have hp := kH1.sl0 hp
        have kk := kk.trans kH1
        obtain ⟨vF, H2, kdH2, eH2, dH2, aF, kH2⟩ := heap_append_first (P := Try.prog) (lo := lo) (f := L1.next) (t1 := 27) se27 u27 hp (by rw [ints_len]; omega) (by omega) (by decide) gH1 (by omega) (by omega) (by omega) (Nat.le_refl _)
        refine And.intro rfl (Or.inr (And.intro (by kernel_rfl) (Exists.intro _ (Exists.intro H2 (Exists.intro _ (And.intro (eH2 _ _ _ _ _ _ _ rfl rfl) (And.intro (fun b e => by rcases dH2 with h | h <;> exact Kd.noConfusion (h.symm.trans e)) ?_)))))))
        have mH2 := kH2.1
        have hp := kH2.sl0 hp
        have kk := kk.trans kH2
        obtain ⟨H3, hH3⟩ : ∃ H3, H2.new (.cells [iv t] 3 false) = H3 := ⟨_, rfl⟩
        refine And.intro rfl (Or.inr (And.intro (by kernel_rfl) (Exists.intro _ (Exists.intro H3 (Exists.intro _ (And.intro ((heap_build1 (v := iv t) se27 z3 rfl rfl rfl (by decide)).trans (by rw [← hH3]; rfl)) (And.intro (fun b e => by cases e) ?_)))))))
        obtain ⟨kH3, nH3, c3⟩ := new_facts hH3; clear hH3
        have c3 : Cl H3 H2.next [iv t] := c3
        have mH3 := kH3.1
        have hp := kH3.sl0 hp
        have kk := kk.trans kH3
        obtain ⟨H4, kdH4, eH4, dH4, aN, kbH4⟩ := heap_append_next (P := Try.prog) (lo := lo) (t1 := 27) se27 u27 (c3.sl (Nat.le_refl 1)) rfl (by decide) rfl (by rw [ints_len]; omega) (by omega) (aF.keep kH3) (by omega) (by omega)
        refine And.intro rfl (Or.inr (And.intro (by cases vF <;> kernel_rfl) (Exists.intro _ (Exists.intro H4 (Exists.intro _ (And.intro (eH4 _ _ _ _ _ _ _ rfl rfl) (And.intro (reg_ok dH4 _) ?_)))))))
        have apN := ((hLL.keep kk).choose_spec.2.1.ap (np + 1) (np + 1)).symm
        have kk := kbH4.keep kk (by omega)
        have mH4 := kbH4.1
        have hp := hp1.kb (v := .slice none 0 0) (kk.mono (by simp)) (fun b c hb => by simp [bkv] at hb)
        have hpN : Sl H4 (some ⟨H3.next, 0, none⟩) (np + 1) (np + 1) (ints (pre ++ [t])) := by
          obtain ⟨a2, c2, e2, hs2, _⟩ := aN.sl
          cases e2
          simp only [ints, List.map_append, List.map_cons, List.map_nil]; exact hs2
        have hbN : ∀ b, bkv (.slice (some ⟨H3.next, 0, none⟩) (np + 1) (np + 1)) = some b → b < H4.next := fun b hb => by
          obtain rfl : H3.next = b := by simpa [bkv] using hb
          rcases aN with ⟨h0, _⟩ | ⟨b2, e2, _, _, _, hn2, _⟩
          · omega
          · cases e2; exact hn2
        obtain ⟨w5, H5, f5, K5, L5, M5⟩ := ih q2 (H := H4) (o := t + 1) (ev := ev) (nv := nv - 1) (pre := pre ++ [t]) (ov := wv) (ls := cur) (by omega) (by omega) (by omega) (by omega) (by simp; omega) (by omega) hpN hbN apN (hLL.keep kk) (by omega)
        refine Exists.intro _ (Exists.intro _ (And.intro (callX_args f5) ?_))
        have m5 := K5.1
        have hK5 : Keep H H5 (bkv ov).toList := by
          refine (hK.new kk (fun b hb => by simp at hb)).new K5 (fun b hb => ?_)
          rcases hmv with h | h
          · exact .inl (h ▸ hb)
          · exact .inr (h b (by simpa using hb))
        have hp5 := hp.kb K5 hap
        have hap5 : Ap w5 (.slice pa np pc) := by
          rcases M5 with rfl | h
          · exact hap
          · intro b c hb hc e
            have h1 := h b hb
            have h2 := hpol c hc
            omega
        have hmv5 : w5 = ov ∨ ∀ b, bkv w5 = some b → H.next ≤ b := by
          rcases M5 with rfl | h
          · exact hmv
          · exact .inr fun b hb => by have := h b hb; omega
        refine And.intro (show InR (t + 1) from ⟨by omega, by omega⟩) ?_
        refine ⟨q2, (w5, t + 1), by omega, ⟨by show t + 1 + (q2 : Int) = o + d; omega, by show o ≤ t + 1; omega, hK5, hp5, hap5, hmv5, _, L5, ?_⟩, rfl, rfl, rfl, rfl, rfl, trivial⟩
        show cur ++ cL q2 m (t + 1) (pre ++ [t]) ++ cL q2 (m + 1) (t + 1) pre = _
        rw [List.append_assoc]; exact hcur
      · have q2 : ¬ (t < ev) := of_decide_eq_false q2
        obtain rfl : q = 0 := by omega
        rw [cL_nil, List.append_nil] at hcur
        subst hcur
        exact And.intro trivial (Exists.intro _ (And.intro rfl ⟨hK, hLL, hmv⟩))
end
end Go.Ax

/-
  Late: the document's Freshen (29) and the law LateFreshens, whatever the input (written by program).
-/
namespace Go.Ax
open Go Go.RowKit Go.Proofs

/-- what the document's Freshen answers -/
def Lt.Fb (g : Lt) (a b : Int) (w : Value) (H' : Hp) : Prop :=
  (g.ok = false ∧ w = .tuple #[.slice none 0 0, iv 1]) ∨ (g.ok = true ∧ (flB g a b = false ∨ 12 < b) ∧ w = .tuple #[.slice none 0 0, iv 2]) ∨
  (g.ok = true ∧ ∃ s d : Nat, a = s ∧ b = d ∧ s + d ≤ g.wn ∧ d ≤ 12 ∧
    (((∀ y, y < 2 ^ d → ¬ g.ff s d y) ∧ w = .tuple #[.slice none 0 0, iv 4]) ∨
     ∃ (y : Nat) (xa : Option Addr) (xc : Nat), y < 2 ^ d ∧ g.ff s d y ∧ (∀ z, z < 2 ^ d → g.ff s d z → cnt d y < cnt d z ∨ (cnt d y = cnt d z ∧ revB d z ≤ revB d y)) ∧ w = .tuple #[.slice xa (cnt d y) xc, iv 0] ∧ Sl H' xa (cnt d y) xc (ints (bl d y (s : Int)))))
theorem Lt.Fb.c1 {g : Lt} {a b : Int} {w : Value} {H : Hp} (h : g.Fb a b w H) (hok : g.ok = false) : w = .tuple #[.slice none 0 0, iv 1] := by
  rcases h with ⟨_, h⟩ | ⟨h, _⟩ | ⟨h, _⟩
  · exact h
  · rw [hok] at h; cases h
  · rw [hok] at h; cases h
theorem Lt.Fb.c2 {g : Lt} {a b : Int} {w : Value} {H : Hp} (h : g.Fb a b w H) (hok : g.ok = true) (hb : flB g a b = false ∨ 12 < b) : w = .tuple #[.slice none 0 0, iv 2] := by
  rcases h with ⟨h, _⟩ | ⟨_, _, h⟩ | ⟨_, s, d, rfl, rfl, h1, h2, _⟩
  · rw [hok] at h; cases h
  · exact h
  · rcases hb with hb | hb
    · rw [flB_of h1] at hb; cases hb
    · omega
theorem Lt.Fb.c3 {g : Lt} {s d : Nat} {w : Value} {H : Hp} (h : g.Fb (s : Int) (d : Int) w H) (hok : g.ok = true) (hsd : s + d ≤ g.wn) (hd : d ≤ 12) :
    ((∀ y, y < 2 ^ d → ¬ g.ff s d y) ∧ w = .tuple #[.slice none 0 0, iv 4]) ∨
     ∃ (y : Nat) (xa : Option Addr) (xc : Nat), y < 2 ^ d ∧ g.ff s d y ∧ (∀ z, z < 2 ^ d → g.ff s d z → cnt d y < cnt d z ∨ (cnt d y = cnt d z ∧ revB d z ≤ revB d y)) ∧ w = .tuple #[.slice xa (cnt d y) xc, iv 0] ∧ Sl H xa (cnt d y) xc (ints (bl d y (s : Int))) := by
  rcases h with ⟨h, _⟩ | ⟨_, h, _⟩ | ⟨_, s1, d1, h1, h2, _, _, h3⟩
  · rw [hok] at h; cases h
  · rcases h with h | h
    · rw [flB_of hsd] at h; cases h
    · omega
  · obtain rfl : s = s1 := by omega
    obtain rfl : d = d1 := by omega
    exact h3
section
variable {kn : FuncId → Option Bool} {lo : Nat} {H : Hp}
theorem tells45_ff {g : Lt} (v : g.Vd) {s d : Nat} (hsd : s + d ≤ g.wn) (hw : Sl H g.wa g.wn g.wcap (spc g.ws)) (ha : Sl H g.aa g.an g.acap (spc g.as)) {y : Nat} (hy : y < 2 ^ d) {la : Option Addr} {cap : Nat} (hl : Sl H la (cnt d y) cap (ints (bl d y (s : Int)))) (hlo : lo ≤ H.next) :
    ∃ (x z : Int) (H' : Hp), FnX Try.prog kn lo 45 [.agg g.v.toArray, iv (s : Int), iv (d : Int), .slice la (cnt d y) cap] H (.tuple #[iv x, iv z]) H' ∧ Keep H H' [] ∧ (z = 0 ↔ g.ff s d y) := by
  have hn40 := v.n40
  have hcd := cnt_le d y
  obtain ⟨H', hf, hk⟩ := tells45_ok (kn := kn) (lo := lo) (H := H) (us := bl d y (s : Int)) (n := cnt d y) v hsd hw ha hl (bl_len _ _ _) (by omega) (fun i => dayMask_has (fun x hx => by have := bl_in d y s x hx; omega) i) hlo
  have h2 := Lt.sm_sl v (F := Nat.testBit (dayMask (bl d y (s : Int)))) d hsd
  refine ⟨_, _, H', hf, hk, ?_⟩
  rw [ff_mask hy]
  show sureV (decide (g.sm s (Nat.testBit (dayMask (bl d y (s : Int)))) d > g.bear)) (decide (g.sl s (Nat.testBit (dayMask (bl d y (s : Int)))) d > g.bear)) = 0 ↔ _
  constructor
  · intro e; have := of_decide_eq_false (sure_zero e); omega
  · intro e; rw [decide_eq_false (show ¬ g.sl s (Nat.testBit (dayMask (bl d y (s : Int)))) d > g.bear by omega), decide_eq_false (show ¬ g.sm s (Nat.testBit (dayMask (bl d y (s : Int)))) d > g.bear by omega)]; rfl
set_option maxRecDepth 100000 in
theorem freshen29_ok {g : Lt} (hw : Sl H g.wa g.wn g.wcap (spc g.ws)) (ha : Sl H g.aa g.an g.acap (spc g.as)) (hwl : g.ws.length = g.wn) (hal : g.as.length = g.an) (hwn : g.wn ≤ 1000) (han : g.an ≤ 1000) {a b : Int} (hb8 : b ≤ 8 ∨ 12 < b) (hlo : lo ≤ H.next) :
    ∃ w H', FnX Try.prog kn lo 29 [.agg g.v.toArray, iv a, iv b] H w H' ∧ Keep H H' [] ∧ g.Fb a b w H' := by
  refine fnX_low (kn := kn) (lo := lo) (H := H) (args := [.agg g.v.toArray, iv a, iv b]) (Q := fun w H' => Keep H H' [] ∧ g.Fb a b w H') Try.func29 B29 N29 Z29 L29 (by simp) ?_
  have hk := Keep.refl H []
  have fw := hw.old; have fa := ha.old
  intro H1 hH1; obtain ⟨kH1, nH1, c1⟩ := new_facts hH1; clear hH1
  have mH1 := kH1.1
  have hk := hk.trans kH1
  have hw := kH1.sl0 hw
  have ha := kH1.sl0 ha
  have c1 : Cl H1 H.next [.slice g.wa g.wn g.wcap, .slice g.aa g.an g.acap, iv g.r1, iv g.r2, iv g.f1, iv g.f2, iv g.g1, iv g.g2, iv g.full, iv g.base, iv g.kill, iv g.need, iv g.bear] := c1
  refine Exists.intro _ (Exists.intro _ (And.intro c1.of (And.intro (show row 13 _ _ = some [.slice g.wa g.wn g.wcap, .slice g.aa g.an g.acap, iv g.r1, iv g.r2, iv g.f1, iv g.f2, iv g.g1, iv g.g2, iv g.full, iv g.base, iv g.kill, iv g.need, iv g.bear] from rfl) ?_)))
  refine callB (late33_ok hw ha hwl hal (by omega) (by omega)) ?_
  intro tH2 H2 hH2 kH2
  have mH2 := kH2.1
  have hk := hk.trans kH2
  have hw := kH2.sl0 hw
  have ha := kH2.sl0 ha
  have c1 := kH2.cl c1 (by simp)
  cases tH2
  · have hok := hH2
    refine And.intro rfl (Exists.intro (.bool true) (And.intro rfl ?_))
    refine condT ?_
    exact And.intro trivial (Exists.intro _ (And.intro rfl ⟨hk, .inl ⟨hok, rfl⟩⟩))
  · have hok := hH2; have v := Lt.vd hok hwl hal; have hn40 := v.n40
    refine And.intro rfl (Exists.intro (.bool false) (And.intro rfl ?_))
    refine condF ?_
    refine Exists.intro _ (Exists.intro _ (And.intro c1.of (And.intro (show row 13 _ _ = some [.slice g.wa g.wn g.wcap, .slice g.aa g.an g.acap, iv g.r1, iv g.r2, iv g.f1, iv g.f2, iv g.g1, iv g.g2, iv g.full, iv g.base, iv g.kill, iv g.need, iv g.bear] from rfl) ?_)))
    refine callB (flood34_ok (us := []) (la := none) (n := 0) (cap := 0) (by omega) (.inl ⟨.inl rfl, rfl, rfl, rfl⟩) rfl (by decide)) ?_
    intro tH3 H3 hH3 kH3
    have mH3 := kH3.1
    have hk := hk.trans kH3
    have hw := kH3.sl0 hw
    have ha := kH3.sl0 ha
    have c1 := kH3.cl c1 (by simp)
    cases tH3
    · have hnf : flB g a b = false := by simpa [setB] using hH3
      refine And.intro rfl (Exists.intro (.bool true) (And.intro rfl ?_))
      refine And.intro rfl (Exists.intro (.bool true) (And.intro rfl ?_))
      refine condT ?_
      exact And.intro trivial (Exists.intro _ (And.intro rfl ⟨hk, .inr (.inl ⟨hok, .inl hnf, rfl⟩)⟩))
    · obtain ⟨hfl, _⟩ := Bool.and_eq_true_iff.1 hH3
      obtain ⟨s, d, rfl, rfl, hsd⟩ := flB_get hfl
      refine And.intro rfl (Exists.intro (.bool false) (And.intro rfl ?_))
      intro t1 g1; cases t1
      · have g1 : ¬ ((d : Int) > 12) := of_decide_eq_false g1
        refine And.intro rfl (Exists.intro (.bool false) (And.intro rfl ?_))
        refine condF ?_
        have hd : d ≤ 8 := by omega
        have h256 : 2 ^ d ≤ 2 ^ 8 := Nat.pow_le_pow_right (by decide) hd
        have hlen : ∀ n, (cL d n (s : Int) []).length ≤ 256 := fun n => Nat.le_trans (cL_len d n s []) h256
        clear h256
        refine loop_low (fn := Try.f29) E29_1 N29 L29x1 (fun n : Nat => [(1, iv (s : Int)), (2, iv (d : Int)), (3, pt H.next), (8, iv (n : Int))])
          (fun q n H' => n + q = d + 1 ∧ Keep H H' [] ∧ Sl H' g.wa g.wn g.wcap (spc g.ws) ∧ Sl H' g.aa g.an g.acap (spc g.as) ∧ Cl H' H.next g.v ∧ ∀ y, y < 2 ^ d → cnt d y < n → ¬ g.ff s d y) (d + 1) 0 ⟨by omega, hk, hw, ha, c1, fun y _ h => by omega⟩ ⟨rfl, rfl, rfl, rfl, trivial⟩ ?_
        rintro q n L1 ⟨hik, hk, hw, ha, cA, hno⟩
        have hm := hk.1
        refine And.intro (fun q2 => ?_) (fun q2 => ?_)
        · have q2 : (n : Int) ≤ (d : Int) := of_decide_eq_true q2
          have hn : n ≤ d := by omega
          refine And.intro (show InR ((s : Int) + (d : Int)) from ⟨by omega, by omega⟩) ?_
          obtain ⟨w5, H5, f5, K5, L5, _⟩ := sets55_ok (kn := kn) (lo := lo) n d (H := L1) (o := (s : Int)) (ev := (s : Int) + (d : Int)) (nv := (n : Int)) (pa := none) (np := 0) (pc := 0) (pre := []) (ov := .slice none 0 0) (ls := []) rfl rfl (by omega) (by omega) rfl (by show 0 + _ ≤ 900; have := hlen n; omega) (.inl ⟨.inl rfl, rfl, rfl, rfl⟩) (fun b hb => by simp [bkv] at hb) (fun b c hb => by simp [bkv] at hb) (LL.nil _ _) (by omega)
          have K5 : Keep L1 H5 [] := K5
          have L5 : LL lo H5 w5 (cL d n (s : Int) []) := L5
          have mH5 := K5.1
          have hk := hk.trans K5
          have hw := K5.sl0 hw
          have ha := K5.sl0 ha
          have cA := K5.cl cA (by simp)
          obtain ⟨vs, hvl, hacc, hel⟩ := L5
          obtain ⟨oa, oc, rfl, hot, _⟩ := hacc.sl
          have fot : ∀ b, oa = some ⟨b, 0, none⟩ → b < H5.next := hot.old
          have hcl : (cL d n (s : Int) []).length = (cy d n).length := List.length_map _
          have hln := hlen n
          refine Exists.intro _ (Exists.intro _ (And.intro (callX_args f5) ?_))
          refine loop_low (fn := Try.f29) E29_2 N29 L29x2 (fun i : Nat => [(1, iv (s : Int)), (2, iv (d : Int)), (3, pt H.next), (8, iv (n : Int)), (9, .slice oa ((cL d n (s : Int) []).length) oc), (10, iv (i : Int))])
            (fun k i H' => i + k = (cL d n (s : Int) []).length ∧ Keep H5 H' [] ∧ ∀ j z, j < i → (cy d n)[j]? = some z → ¬ g.ff s d z) (cL d n (s : Int) []).length 0 ⟨by omega, Keep.refl _ _, fun j z h => by omega⟩ ⟨rfl, rfl, rfl, rfl, rfl, rfl, trivial⟩ ?_
          rintro k i L2 ⟨hik2, hki, hall⟩
          have hm2 := hki.1
          have hk := hk.trans hki
          have hw := hki.sl0 hw
          have ha := hki.sl0 ha
          have cA := hki.cl cA (by simp)
          have hot := hki.sl0 hot
          have kb := hki
          refine And.intro (fun q3 => ?_) (fun q3 => ?_)
          · have q3 : (i : Int) < ((cL d n (s : Int) []).length : Int) := of_decide_eq_true q3
            have hi : i < (cL d n (s : Int) []).length := by omega
            obtain ⟨y, hy⟩ := get_some (l := cy d n) (i := i) (by omega)
            obtain ⟨x, hx⟩ := get_some (l := vs) (i := i) (by omega)
            have hlx : (cL d n (s : Int) [])[i]? = some (bl d y (s : Int)) := by unfold cL; rw [List.getElem?_map, hy]; rfl
            obtain ⟨⟨xa, xn, xc, rfl, hxn, hxs⟩, _⟩ := ((hel i x _ hx hlx).1).keep hki
            rw [bl_len] at hxn; subst hxn
            have hyi := cy_in d n y (List.mem_of_getElem? hy)
            have hcd := cnt_le d y
            rcases hot with ⟨_, h0, _⟩ | ⟨bo, rfl, ro, _⟩
            · omega
            have lbo := ro.lt
            refine wD_seq ?_
            refine wD_lda (b := H.next) (o := 0) rfl cA.rd (show row 13 _ _ = some [.slice g.wa g.wn g.wcap, .slice g.aa g.an g.acap, iv g.r1, iv g.r2, iv g.f1, iv g.f2, iv g.g1, iv g.g2, iv g.full, iv g.base, iv g.kill, iv g.need, iv g.bear] from rfl) ?_
            refine wD_mov (v := iv (s : Int)) rfl ?_
            refine wD_mov (v := iv (d : Int)) rfl ?_
            refine wD_mov (v := .slice (some ⟨bo, 0, none⟩) ((cL d n (s : Int) []).length) oc) rfl ?_
            refine wD_mov (v := iv (i : Int)) rfl ?_
            refine wD_idx (b := bo) (o := 0) (k := i) (j := (i : Int)) rfl rfl rfl hi ?_
            refine wD_ld (b := bo) (o := 0 + i * 1) (v := .slice xa (cnt d y) xc) rfl ro (by rw [Nat.zero_add, Nat.mul_one]; exact hx) ?_
            obtain ⟨x1, z1, H4, fH4, kH4, iz1⟩ := tells45_ff (kn := kn) (lo := lo) (H := L2) (g := g) v hsd hw ha hyi.1 hxs (by omega)
            refine wD_callf (vs := [.agg g.v.toArray, iv (s : Int), iv (d : Int), .slice xa (cnt d y) xc]) rfl (callX_args fH4) ?_
            have mH4 := kH4.1
            have hk := hk.trans kH4
            have hw := kH4.sl0 hw
            have ha := kH4.sl0 ha
            have cA := kH4.cl cA (by simp)
            have kb := kb.trans kH4
            have ro := kH4.rd ro (by simp)
            have hxs := kH4.sl0 hxs
            refine wD_mov (v := .tuple #[iv x1, iv z1]) rfl ?_
            refine wD_pur (v := iv x1) rfl (by kernel_rfl) ?_
            refine wD_pur (v := iv z1) rfl (by kernel_rfl) ?_
            refine wD_mov (v := iv x1) rfl ?_
            refine wD_mov (v := iv z1) rfl ?_
            refine wD_end (by repeat' first | exact True.intro | exact (fun h => h) | refine And.intro ?_ ?_ | (intro h; have h : (_ : Nat) = _ := h; omega)) ?_
            refine And.intro (fun q4 => ?_) (fun q4 => ?_)
            · have q4 : z1 = 0 := by simpa using q4
              have hffy := iz1.1 q4
              refine Exists.intro i (And.intro rfl (And.intro hi ?_))
              refine Exists.intro _ (Exists.intro _ (And.intro ro.of (And.intro (by rw [Nat.zero_add, Nat.mul_one]; exact hx) ?_)))
              have hmin : ∀ z, z < 2 ^ d → g.ff s d z → cnt d y < cnt d z ∨ (cnt d y = cnt d z ∧ revB d z ≤ revB d y) := by
                intro z hz hfz
                have hyn := hyi.2
                rcases Nat.lt_trichotomy (cnt d z) n with h | h | h
                · exact absurd hfz (hno z hz h)
                · refine .inr ⟨by omega, ?_⟩
                  obtain ⟨j, hj, hje⟩ := List.getElem_of_mem (cy_all d n z hz h)
                  rcases Nat.lt_trichotomy j i with q | q | q
                  · exact absurd hfz (hall j z q (by rw [List.getElem?_eq_getElem hj, hje]))
                  · subst q; rw [List.getElem?_eq_getElem hj, hje] at hy; cases hy; exact Nat.le_refl _
                  · have hi2 : i < (cy d n).length := by omega
                    have ho := List.pairwise_iff_getElem.1 (cy_ord d n) i j hi2 hj q
                    rw [List.getElem?_eq_getElem hi2] at hy
                    rw [hje, Option.some.inj hy] at ho
                    omega
                · exact .inl (by omega)
              exact And.intro trivial (Exists.intro _ (And.intro rfl ⟨hk, .inr (.inr ⟨hok, s, d, rfl, rfl, hsd, by omega, .inr ⟨y, xa, xc, hyi.1, hffy, hmin, rfl, hxs⟩⟩)⟩))
            · have q4 : ¬ (z1 = 0) := by simpa using q4
              have hnf : ¬ g.ff s d y := fun h => q4 (iz1.2 h)
              refine And.intro (show InR ((i : Int) + 1) from ⟨by omega, by omega⟩) ?_
              have hall2 : ∀ j z, j < i + 1 → (cy d n)[j]? = some z → ¬ g.ff s d z := by
                intro j z hj hz
                rcases Nat.lt_or_ge j i with h | h
                · exact hall j z h hz
                · obtain rfl : i = j := by omega
                  rw [hy] at hz; cases hz; exact hnf
              exact ⟨k - 1, i + 1, by omega, ⟨by omega, kb, hall2⟩, rfl, rfl, rfl, rfl, rfl, rfl, trivial⟩
          · have q3 : ¬ ((i : Int) < ((cL d n (s : Int) []).length : Int)) := of_decide_eq_false q3
            have hi : i = (cL d n (s : Int) []).length := by omega
            have hup : ∀ z, z < 2 ^ d → cnt d z < n + 1 → ¬ g.ff s d z := by
              intro z hz hcz
              rcases Nat.lt_or_ge (cnt d z) n with h | h
              · exact hno z hz h
              · obtain ⟨j, hj, hje⟩ := List.getElem_of_mem (cy_all d n z hz (by omega))
                exact hall j z (by omega) (by rw [List.getElem?_eq_getElem hj, hje])
            refine And.intro (show InR ((n : Int) + 1) from ⟨by omega, by omega⟩) ?_
            exact ⟨q - 1, n + 1, by omega, ⟨by omega, hk, hw, ha, cA, hup⟩, rfl, rfl, rfl, rfl, trivial⟩
        · have q2 : ¬ ((n : Int) ≤ (d : Int)) := of_decide_eq_false q2
          exact And.intro trivial (Exists.intro _ (And.intro rfl ⟨hk, .inr (.inr ⟨hok, s, d, rfl, rfl, hsd, by omega, .inl ⟨fun y hy => hno y hy (by have := cnt_le d y; omega), rfl⟩⟩)⟩))
      · have g1 : (d : Int) > 12 := of_decide_eq_true g1
        have h12 : 12 < (d : Int) := by omega
        refine And.intro rfl (Exists.intro (.bool true) (And.intro rfl ?_))
        refine condT ?_
        exact And.intro trivial (Exists.intro _ (And.intro rfl ⟨hk, .inr (.inl ⟨hok, .inr h12, rfl⟩)⟩))
set_option maxRecDepth 100000 in
set_option maxHeartbeats 4000000 in
theorem law_freshens (hkn : kn 14 = some true) (h48 : kn 48 = none) {g : Lt} (hw : Sl H g.wa g.wn g.wcap (spc g.ws)) (ha : Sl H g.aa g.an g.acap (spc g.as)) (hwl : g.ws.length = g.wn) (hal : g.as.length = g.an) {a b : Int} (hlo : lo ≤ H.next) :
    ∃ H', FnX Try.prog kn lo 5 [.agg g.v.toArray, iv a, iv b] H (.bool true) H' := by
  have key := fnX_low (kn := kn) (lo := lo) (H := H) (args := [.agg g.v.toArray, iv a, iv b]) (Q := fun w H' => w = .bool true) Try.func5 B5 N5 Z5 L5 (by simp) ?_
  · obtain ⟨w, H', hf, rfl⟩ := key; exact ⟨H', hf⟩
  have al : ∀ (H9 : Hp) (K : Value → Hp → Prop), K (.bool true) H9 → ∃ v H', CallsX Try.prog kn lo (.fn (.func 14) #[]) [] H9 v H' ∧ K v H' := fun H9 K h => ⟨_, _, callX_known hkn, h⟩
  have hk := Keep.refl H []
  have fw := hw.old; have fa := ha.old
  intro H1 hH1; obtain ⟨kH1, nH1, c1⟩ := new_facts hH1; clear hH1
  have mH1 := kH1.1
  have hk := hk.trans kH1
  have hw := kH1.sl0 hw
  have ha := kH1.sl0 ha
  have c1 : Cl H1 H.next [.slice g.wa g.wn g.wcap, .slice g.aa g.an g.acap, iv g.r1, iv g.r2, iv g.f1, iv g.f2, iv g.g1, iv g.g2, iv g.full, iv g.base, iv g.kill, iv g.need, iv g.bear] := c1
  refine Exists.intro _ (Exists.intro _ (And.intro c1.of (And.intro (show row 13 _ _ = some [.slice g.wa g.wn g.wcap, .slice g.aa g.an g.acap, iv g.r1, iv g.r2, iv g.f1, iv g.f2, iv g.g1, iv g.g2, iv g.full, iv g.base, iv g.kill, iv g.need, iv g.bear] from rfl) ?_)))
  refine callB ((great_ok (la := none) (n := 0) (cap := 0))) ?_
  intro tH2 H2 hH2 kH2
  have mH2 := kH2.1
  have hk := hk.trans kH2
  have hw := kH2.sl0 hw
  have ha := kH2.sl0 ha
  have c1 := kH2.cl c1 (by simp)
  cases tH2
  · have hgr : g.wn ≤ 45 ∧ g.an ≤ 45 := by simp at hH2; omega
    intro t1 g1; cases t1
    · have g1 : ¬ (b > 8) := of_decide_eq_false g1
      refine And.intro rfl (Exists.intro (.bool false) (And.intro rfl ?_))
      refine And.intro rfl (Exists.intro (.bool false) (And.intro rfl ?_))
      refine condF ?_
      refine Exists.intro _ (Exists.intro _ (And.intro c1.of (And.intro (show row 13 _ _ = some [.slice g.wa g.wn g.wcap, .slice g.aa g.an g.acap, iv g.r1, iv g.r2, iv g.f1, iv g.f2, iv g.g1, iv g.g2, iv g.full, iv g.base, iv g.kill, iv g.need, iv g.bear] from rfl) ?_)))
      have hb8 : b ≤ 8 ∨ 12 < b := by omega
      obtain ⟨wH3, H3, fH3, kH3, hc⟩ := freshen_ok (kn := kn) (lo := lo) (H := H2) (g := g) (a := a) (b := b) h48 hw ha hwl hal (by omega) (by omega) (by omega)
      have mH3 := kH3.1
      have hk := hk.trans kH3
      have hw := kH3.sl0 hw
      have ha := kH3.sl0 ha
      have c1 := kH3.cl c1 (by simp)
      rcases hc with ⟨hok, rfl⟩ | ⟨hok, hbd, rfl⟩ | ⟨hok, s, d, rfl, rfl, hsd, hd12, ⟨hnone, rfl⟩ | ⟨y0, ov, hy0, hff0, hbest, rfl, hfa⟩⟩
      · refine Exists.intro _ (Exists.intro _ (And.intro (callX_args fH3) ?_))
        refine And.intro rfl (Exists.intro (.slice none 0 0) (And.intro (by kernel_rfl) ?_))
        refine And.intro rfl (Exists.intro (iv 1) (And.intro (by kernel_rfl) ?_))
        refine Exists.intro _ (Exists.intro _ (And.intro c1.of (And.intro (show row 13 _ _ = some [.slice g.wa g.wn g.wcap, .slice g.aa g.an g.acap, iv g.r1, iv g.r2, iv g.f1, iv g.f2, iv g.g1, iv g.g2, iv g.full, iv g.base, iv g.kill, iv g.need, iv g.bear] from rfl) ?_)))
        obtain ⟨wH4, H4, fH4, kH4, hc⟩ := freshen29_ok (kn := kn) (lo := lo) (H := H3) (g := g) (a := a) (b := b) hw ha hwl hal (by omega) (by omega) hb8 (by omega)
        have mH4 := kH4.1
        have hk := hk.trans kH4
        have hw := kH4.sl0 hw
        have ha := kH4.sl0 ha
        have c1 := kH4.cl c1 (by simp)
        obtain rfl := hc.c1 hok
        refine Exists.intro _ (Exists.intro _ (And.intro (callX_args fH4) ?_))
        refine And.intro rfl (Exists.intro (.slice none 0 0) (And.intro (by kernel_rfl) ?_))
        refine And.intro rfl (Exists.intro (iv 1) (And.intro (by kernel_rfl) ?_))
        refine callB (ints30_ok (us := []) (.inl ⟨.inl rfl, rfl, rfl, rfl⟩) (.inl ⟨.inl rfl, rfl, rfl, rfl⟩) rfl (by decide)) ?_
        intro tH5 H5 hH5 kH5
        subst hH5
        have mH5 := kH5.1
        have hk := hk.trans kH5
        have hw := kH5.sl0 hw
        have ha := kH5.sl0 ha
        have c1 := kH5.cl c1 (by simp)
        intro t2 g2; obtain rfl : t2 = true := by rw [← g2]; rfl
        refine And.intro rfl (Exists.intro (.bool true) (And.intro rfl ?_))
        refine al _ _ ?_
        refine And.intro rfl (Exists.intro (.bool true) (And.intro rfl ?_))
        exact And.intro trivial (Exists.intro _ (And.intro rfl rfl))
      · refine Exists.intro _ (Exists.intro _ (And.intro (callX_args fH3) ?_))
        refine And.intro rfl (Exists.intro (.slice none 0 0) (And.intro (by kernel_rfl) ?_))
        refine And.intro rfl (Exists.intro (iv 2) (And.intro (by kernel_rfl) ?_))
        refine Exists.intro _ (Exists.intro _ (And.intro c1.of (And.intro (show row 13 _ _ = some [.slice g.wa g.wn g.wcap, .slice g.aa g.an g.acap, iv g.r1, iv g.r2, iv g.f1, iv g.f2, iv g.g1, iv g.g2, iv g.full, iv g.base, iv g.kill, iv g.need, iv g.bear] from rfl) ?_)))
        obtain ⟨wH6, H6, fH6, kH6, hc⟩ := freshen29_ok (kn := kn) (lo := lo) (H := H3) (g := g) (a := a) (b := b) hw ha hwl hal (by omega) (by omega) hb8 (by omega)
        have mH6 := kH6.1
        have hk := hk.trans kH6
        have hw := kH6.sl0 hw
        have ha := kH6.sl0 ha
        have c1 := kH6.cl c1 (by simp)
        obtain rfl := hc.c2 hok hbd
        refine Exists.intro _ (Exists.intro _ (And.intro (callX_args fH6) ?_))
        refine And.intro rfl (Exists.intro (.slice none 0 0) (And.intro (by kernel_rfl) ?_))
        refine And.intro rfl (Exists.intro (iv 2) (And.intro (by kernel_rfl) ?_))
        refine callB (ints30_ok (us := []) (.inl ⟨.inl rfl, rfl, rfl, rfl⟩) (.inl ⟨.inl rfl, rfl, rfl, rfl⟩) rfl (by decide)) ?_
        intro tH7 H7 hH7 kH7
        subst hH7
        have mH7 := kH7.1
        have hk := hk.trans kH7
        have hw := kH7.sl0 hw
        have ha := kH7.sl0 ha
        have c1 := kH7.cl c1 (by simp)
        intro t3 g3; obtain rfl : t3 = true := by rw [← g3]; rfl
        refine And.intro rfl (Exists.intro (.bool true) (And.intro rfl ?_))
        refine al _ _ ?_
        refine And.intro rfl (Exists.intro (.bool true) (And.intro rfl ?_))
        exact And.intro trivial (Exists.intro _ (And.intro rfl rfl))
      · have v := Lt.vd hok hwl hal; have hn40 := v.n40
        refine Exists.intro _ (Exists.intro _ (And.intro (callX_args fH3) ?_))
        refine And.intro rfl (Exists.intro (.slice none 0 0) (And.intro (by kernel_rfl) ?_))
        refine And.intro rfl (Exists.intro (iv 4) (And.intro (by kernel_rfl) ?_))
        refine Exists.intro _ (Exists.intro _ (And.intro c1.of (And.intro (show row 13 _ _ = some [.slice g.wa g.wn g.wcap, .slice g.aa g.an g.acap, iv g.r1, iv g.r2, iv g.f1, iv g.f2, iv g.g1, iv g.g2, iv g.full, iv g.base, iv g.kill, iv g.need, iv g.bear] from rfl) ?_)))
        obtain ⟨wH8, H8, fH8, kH8, hc⟩ := freshen29_ok (kn := kn) (lo := lo) (H := H3) (g := g) (a := (s : Int)) (b := (d : Int)) hw ha hwl hal (by omega) (by omega) hb8 (by omega)
        have mH8 := kH8.1
        have hk := hk.trans kH8
        have hw := kH8.sl0 hw
        have ha := kH8.sl0 ha
        have c1 := kH8.cl c1 (by simp)
        obtain rfl : wH8 = .tuple #[.slice none 0 0, iv 4] := by
          rcases hc.c3 hok hsd hd12 with ⟨_, h⟩ | ⟨y, _, _, h1, h2, _⟩
          · exact h
          · exact absurd h2 (hnone y h1)
        refine Exists.intro _ (Exists.intro _ (And.intro (callX_args fH8) ?_))
        refine And.intro rfl (Exists.intro (.slice none 0 0) (And.intro (by kernel_rfl) ?_))
        refine And.intro rfl (Exists.intro (iv 4) (And.intro (by kernel_rfl) ?_))
        refine callB (ints30_ok (us := []) (.inl ⟨.inl rfl, rfl, rfl, rfl⟩) (.inl ⟨.inl rfl, rfl, rfl, rfl⟩) rfl (by decide)) ?_
        intro tH9 H9 hH9 kH9
        subst hH9
        have mH9 := kH9.1
        have hk := hk.trans kH9
        have hw := kH9.sl0 hw
        have ha := kH9.sl0 ha
        have c1 := kH9.cl c1 (by simp)
        intro t4 g4; obtain rfl : t4 = true := by rw [← g4]; rfl
        refine And.intro rfl (Exists.intro (.bool true) (And.intro rfl ?_))
        refine al _ _ ?_
        refine And.intro rfl (Exists.intro (.bool true) (And.intro rfl ?_))
        exact And.intro trivial (Exists.intro _ (And.intro rfl rfl))
      · have v := Lt.vd hok hwl hal; have hn40 := v.n40
        obtain ⟨va, vc, rfl, hfr, _⟩ := hfa.sl
        have ffr : ∀ b, va = some ⟨b, 0, none⟩ → b < H3.next := hfr.old
        have hc0 := cnt_le d y0
        refine Exists.intro _ (Exists.intro _ (And.intro (callX_args fH3) ?_))
        refine And.intro rfl (Exists.intro (.slice va (cnt d y0) vc) (And.intro (by kernel_rfl) ?_))
        refine And.intro rfl (Exists.intro (iv 0) (And.intro (by kernel_rfl) ?_))
        refine Exists.intro _ (Exists.intro _ (And.intro c1.of (And.intro (show row 13 _ _ = some [.slice g.wa g.wn g.wcap, .slice g.aa g.an g.acap, iv g.r1, iv g.r2, iv g.f1, iv g.f2, iv g.g1, iv g.g2, iv g.full, iv g.base, iv g.kill, iv g.need, iv g.bear] from rfl) ?_)))
        obtain ⟨wH10, H10, fH10, kH10, hc⟩ := freshen29_ok (kn := kn) (lo := lo) (H := H3) (g := g) (a := (s : Int)) (b := (d : Int)) hw ha hwl hal (by omega) (by omega) hb8 (by omega)
        have mH10 := kH10.1
        have hk := hk.trans kH10
        have hw := kH10.sl0 hw
        have ha := kH10.sl0 ha
        have c1 := kH10.cl c1 (by simp)
        have hfr := kH10.sl0 hfr
        obtain ⟨xa, xc, hxs, rfl⟩ : ∃ xa xc, Sl H10 xa (cnt d y0) xc (ints (bl d y0 (s : Int))) ∧ wH10 = .tuple #[.slice xa (cnt d y0) xc, iv 0] := by
          rcases hc.c3 hok hsd hd12 with ⟨h, _⟩ | ⟨y, xa, xc, h1, h2, h3, h4, h5⟩
          · exact absurd hff0 (h y0 hy0)
          · have e1 := hbest y h1 h2
            have e2 := h3 y0 hy0 hff0
            have e3 : revB d y = revB d y0 := by omega
            obtain rfl : y = y0 := by rw [← revB_rev d y h1, e3, revB_rev d y0 hy0]
            exact ⟨xa, xc, h5, h4⟩
        have fxs : ∀ b, xa = some ⟨b, 0, none⟩ → b < H10.next := hxs.old
        refine Exists.intro _ (Exists.intro _ (And.intro (callX_args fH10) ?_))
        refine And.intro rfl (Exists.intro (.slice xa (cnt d y0) xc) (And.intro (by kernel_rfl) ?_))
        refine And.intro rfl (Exists.intro (iv 0) (And.intro (by kernel_rfl) ?_))
        refine callB (ints30_ok hfr hxs (bl_len _ _ _) (by omega)) ?_
        intro tH11 H11 hH11 kH11
        subst hH11
        have mH11 := kH11.1
        have hk := hk.trans kH11
        have hw := kH11.sl0 hw
        have ha := kH11.sl0 ha
        have c1 := kH11.cl c1 (by simp)
        have hfr := kH11.sl0 hfr
        have hxs := kH11.sl0 hxs
        intro t5 g5; obtain rfl : t5 = true := by rw [← g5]; rfl
        refine And.intro rfl (Exists.intro (.bool true) (And.intro rfl ?_))
        refine al _ _ ?_
        refine And.intro rfl (Exists.intro (.bool true) (And.intro rfl ?_))
        exact And.intro trivial (Exists.intro _ (And.intro rfl rfl))
    · have g1 : b > 8 := of_decide_eq_true g1
      intro t6 g6; cases t6
      · have g6 : ¬ (b ≠ 13) := by simpa using g6
        refine And.intro rfl (Exists.intro (.bool false) (And.intro rfl ?_))
        refine And.intro rfl (Exists.intro (.bool false) (And.intro rfl ?_))
        refine condF ?_
        refine Exists.intro _ (Exists.intro _ (And.intro c1.of (And.intro (show row 13 _ _ = some [.slice g.wa g.wn g.wcap, .slice g.aa g.an g.acap, iv g.r1, iv g.r2, iv g.f1, iv g.f2, iv g.g1, iv g.g2, iv g.full, iv g.base, iv g.kill, iv g.need, iv g.bear] from rfl) ?_)))
        have hb8 : b ≤ 8 ∨ 12 < b := by omega
        obtain ⟨wH12, H12, fH12, kH12, hc⟩ := freshen_ok (kn := kn) (lo := lo) (H := H2) (g := g) (a := a) (b := b) h48 hw ha hwl hal (by omega) (by omega) (by omega)
        have mH12 := kH12.1
        have hk := hk.trans kH12
        have hw := kH12.sl0 hw
        have ha := kH12.sl0 ha
        have c1 := kH12.cl c1 (by simp)
        rcases hc with ⟨hok, rfl⟩ | ⟨hok, hbd, rfl⟩ | ⟨hok, s, d, rfl, rfl, hsd, hd12, ⟨hnone, rfl⟩ | ⟨y0, ov, hy0, hff0, hbest, rfl, hfa⟩⟩
        · refine Exists.intro _ (Exists.intro _ (And.intro (callX_args fH12) ?_))
          refine And.intro rfl (Exists.intro (.slice none 0 0) (And.intro (by kernel_rfl) ?_))
          refine And.intro rfl (Exists.intro (iv 1) (And.intro (by kernel_rfl) ?_))
          refine Exists.intro _ (Exists.intro _ (And.intro c1.of (And.intro (show row 13 _ _ = some [.slice g.wa g.wn g.wcap, .slice g.aa g.an g.acap, iv g.r1, iv g.r2, iv g.f1, iv g.f2, iv g.g1, iv g.g2, iv g.full, iv g.base, iv g.kill, iv g.need, iv g.bear] from rfl) ?_)))
          obtain ⟨wH13, H13, fH13, kH13, hc⟩ := freshen29_ok (kn := kn) (lo := lo) (H := H12) (g := g) (a := a) (b := b) hw ha hwl hal (by omega) (by omega) hb8 (by omega)
          have mH13 := kH13.1
          have hk := hk.trans kH13
          have hw := kH13.sl0 hw
          have ha := kH13.sl0 ha
          have c1 := kH13.cl c1 (by simp)
          obtain rfl := hc.c1 hok
          refine Exists.intro _ (Exists.intro _ (And.intro (callX_args fH13) ?_))
          refine And.intro rfl (Exists.intro (.slice none 0 0) (And.intro (by kernel_rfl) ?_))
          refine And.intro rfl (Exists.intro (iv 1) (And.intro (by kernel_rfl) ?_))
          refine callB (ints30_ok (us := []) (.inl ⟨.inl rfl, rfl, rfl, rfl⟩) (.inl ⟨.inl rfl, rfl, rfl, rfl⟩) rfl (by decide)) ?_
          intro tH14 H14 hH14 kH14
          subst hH14
          have mH14 := kH14.1
          have hk := hk.trans kH14
          have hw := kH14.sl0 hw
          have ha := kH14.sl0 ha
          have c1 := kH14.cl c1 (by simp)
          intro t7 g7; obtain rfl : t7 = true := by rw [← g7]; rfl
          refine And.intro rfl (Exists.intro (.bool true) (And.intro rfl ?_))
          refine al _ _ ?_
          refine And.intro rfl (Exists.intro (.bool true) (And.intro rfl ?_))
          exact And.intro trivial (Exists.intro _ (And.intro rfl rfl))
        · refine Exists.intro _ (Exists.intro _ (And.intro (callX_args fH12) ?_))
          refine And.intro rfl (Exists.intro (.slice none 0 0) (And.intro (by kernel_rfl) ?_))
          refine And.intro rfl (Exists.intro (iv 2) (And.intro (by kernel_rfl) ?_))
          refine Exists.intro _ (Exists.intro _ (And.intro c1.of (And.intro (show row 13 _ _ = some [.slice g.wa g.wn g.wcap, .slice g.aa g.an g.acap, iv g.r1, iv g.r2, iv g.f1, iv g.f2, iv g.g1, iv g.g2, iv g.full, iv g.base, iv g.kill, iv g.need, iv g.bear] from rfl) ?_)))
          obtain ⟨wH15, H15, fH15, kH15, hc⟩ := freshen29_ok (kn := kn) (lo := lo) (H := H12) (g := g) (a := a) (b := b) hw ha hwl hal (by omega) (by omega) hb8 (by omega)
          have mH15 := kH15.1
          have hk := hk.trans kH15
          have hw := kH15.sl0 hw
          have ha := kH15.sl0 ha
          have c1 := kH15.cl c1 (by simp)
          obtain rfl := hc.c2 hok hbd
          refine Exists.intro _ (Exists.intro _ (And.intro (callX_args fH15) ?_))
          refine And.intro rfl (Exists.intro (.slice none 0 0) (And.intro (by kernel_rfl) ?_))
          refine And.intro rfl (Exists.intro (iv 2) (And.intro (by kernel_rfl) ?_))
          refine callB (ints30_ok (us := []) (.inl ⟨.inl rfl, rfl, rfl, rfl⟩) (.inl ⟨.inl rfl, rfl, rfl, rfl⟩) rfl (by decide)) ?_
          intro tH16 H16 hH16 kH16
          subst hH16
          have mH16 := kH16.1
          have hk := hk.trans kH16
          have hw := kH16.sl0 hw
          have ha := kH16.sl0 ha
          have c1 := kH16.cl c1 (by simp)
          intro t8 g8; obtain rfl : t8 = true := by rw [← g8]; rfl
          refine And.intro rfl (Exists.intro (.bool true) (And.intro rfl ?_))
          refine al _ _ ?_
          refine And.intro rfl (Exists.intro (.bool true) (And.intro rfl ?_))
          exact And.intro trivial (Exists.intro _ (And.intro rfl rfl))
        · have v := Lt.vd hok hwl hal; have hn40 := v.n40
          refine Exists.intro _ (Exists.intro _ (And.intro (callX_args fH12) ?_))
          refine And.intro rfl (Exists.intro (.slice none 0 0) (And.intro (by kernel_rfl) ?_))
          refine And.intro rfl (Exists.intro (iv 4) (And.intro (by kernel_rfl) ?_))
          refine Exists.intro _ (Exists.intro _ (And.intro c1.of (And.intro (show row 13 _ _ = some [.slice g.wa g.wn g.wcap, .slice g.aa g.an g.acap, iv g.r1, iv g.r2, iv g.f1, iv g.f2, iv g.g1, iv g.g2, iv g.full, iv g.base, iv g.kill, iv g.need, iv g.bear] from rfl) ?_)))
          obtain ⟨wH17, H17, fH17, kH17, hc⟩ := freshen29_ok (kn := kn) (lo := lo) (H := H12) (g := g) (a := (s : Int)) (b := (d : Int)) hw ha hwl hal (by omega) (by omega) hb8 (by omega)
          have mH17 := kH17.1
          have hk := hk.trans kH17
          have hw := kH17.sl0 hw
          have ha := kH17.sl0 ha
          have c1 := kH17.cl c1 (by simp)
          obtain rfl : wH17 = .tuple #[.slice none 0 0, iv 4] := by
            rcases hc.c3 hok hsd hd12 with ⟨_, h⟩ | ⟨y, _, _, h1, h2, _⟩
            · exact h
            · exact absurd h2 (hnone y h1)
          refine Exists.intro _ (Exists.intro _ (And.intro (callX_args fH17) ?_))
          refine And.intro rfl (Exists.intro (.slice none 0 0) (And.intro (by kernel_rfl) ?_))
          refine And.intro rfl (Exists.intro (iv 4) (And.intro (by kernel_rfl) ?_))
          refine callB (ints30_ok (us := []) (.inl ⟨.inl rfl, rfl, rfl, rfl⟩) (.inl ⟨.inl rfl, rfl, rfl, rfl⟩) rfl (by decide)) ?_
          intro tH18 H18 hH18 kH18
          subst hH18
          have mH18 := kH18.1
          have hk := hk.trans kH18
          have hw := kH18.sl0 hw
          have ha := kH18.sl0 ha
          have c1 := kH18.cl c1 (by simp)
          intro t9 g9; obtain rfl : t9 = true := by rw [← g9]; rfl
          refine And.intro rfl (Exists.intro (.bool true) (And.intro rfl ?_))
          refine al _ _ ?_
          refine And.intro rfl (Exists.intro (.bool true) (And.intro rfl ?_))
          exact And.intro trivial (Exists.intro _ (And.intro rfl rfl))
        · have v := Lt.vd hok hwl hal; have hn40 := v.n40
          obtain ⟨va, vc, rfl, hfr, _⟩ := hfa.sl
          have ffr : ∀ b, va = some ⟨b, 0, none⟩ → b < H12.next := hfr.old
          have hc0 := cnt_le d y0
          refine Exists.intro _ (Exists.intro _ (And.intro (callX_args fH12) ?_))
          refine And.intro rfl (Exists.intro (.slice va (cnt d y0) vc) (And.intro (by kernel_rfl) ?_))
          refine And.intro rfl (Exists.intro (iv 0) (And.intro (by kernel_rfl) ?_))
          refine Exists.intro _ (Exists.intro _ (And.intro c1.of (And.intro (show row 13 _ _ = some [.slice g.wa g.wn g.wcap, .slice g.aa g.an g.acap, iv g.r1, iv g.r2, iv g.f1, iv g.f2, iv g.g1, iv g.g2, iv g.full, iv g.base, iv g.kill, iv g.need, iv g.bear] from rfl) ?_)))
          obtain ⟨wH19, H19, fH19, kH19, hc⟩ := freshen29_ok (kn := kn) (lo := lo) (H := H12) (g := g) (a := (s : Int)) (b := (d : Int)) hw ha hwl hal (by omega) (by omega) hb8 (by omega)
          have mH19 := kH19.1
          have hk := hk.trans kH19
          have hw := kH19.sl0 hw
          have ha := kH19.sl0 ha
          have c1 := kH19.cl c1 (by simp)
          have hfr := kH19.sl0 hfr
          obtain ⟨xa, xc, hxs, rfl⟩ : ∃ xa xc, Sl H19 xa (cnt d y0) xc (ints (bl d y0 (s : Int))) ∧ wH19 = .tuple #[.slice xa (cnt d y0) xc, iv 0] := by
            rcases hc.c3 hok hsd hd12 with ⟨h, _⟩ | ⟨y, xa, xc, h1, h2, h3, h4, h5⟩
            · exact absurd hff0 (h y0 hy0)
            · have e1 := hbest y h1 h2
              have e2 := h3 y0 hy0 hff0
              have e3 : revB d y = revB d y0 := by omega
              obtain rfl : y = y0 := by rw [← revB_rev d y h1, e3, revB_rev d y0 hy0]
              exact ⟨xa, xc, h5, h4⟩
          have fxs : ∀ b, xa = some ⟨b, 0, none⟩ → b < H19.next := hxs.old
          refine Exists.intro _ (Exists.intro _ (And.intro (callX_args fH19) ?_))
          refine And.intro rfl (Exists.intro (.slice xa (cnt d y0) xc) (And.intro (by kernel_rfl) ?_))
          refine And.intro rfl (Exists.intro (iv 0) (And.intro (by kernel_rfl) ?_))
          refine callB (ints30_ok hfr hxs (bl_len _ _ _) (by omega)) ?_
          intro tH20 H20 hH20 kH20
          subst hH20
          have mH20 := kH20.1
          have hk := hk.trans kH20
          have hw := kH20.sl0 hw
          have ha := kH20.sl0 ha
          have c1 := kH20.cl c1 (by simp)
          have hfr := kH20.sl0 hfr
          have hxs := kH20.sl0 hxs
          intro t10 g10; obtain rfl : t10 = true := by rw [← g10]; rfl
          refine And.intro rfl (Exists.intro (.bool true) (And.intro rfl ?_))
          refine al _ _ ?_
          refine And.intro rfl (Exists.intro (.bool true) (And.intro rfl ?_))
          exact And.intro trivial (Exists.intro _ (And.intro rfl rfl))
      · have g6 : b ≠ 13 := by simpa using g6
        refine And.intro rfl (Exists.intro (.bool true) (And.intro rfl ?_))
        refine And.intro rfl (Exists.intro (.bool true) (And.intro rfl ?_))
        refine condT ?_
        refine al _ _ ?_
        exact And.intro trivial (Exists.intro _ (And.intro rfl rfl))
  · refine And.intro rfl (Exists.intro (.bool true) (And.intro rfl ?_))
    refine condT ?_
    refine al _ _ ?_
    exact And.intro trivial (Exists.intro _ (And.intro rfl rfl))
end
end Go.Ax

namespace Go.Ax
open Go Go.RowKit Go.Proofs Go.ChangeShapes Go.WideShapes Go.Deep

/-- A type whose cells are whole numbers. -/
def IntT (P : Program) (t : TypeId) : Prop := ∀ (H : Type) (enc : TypeId × Value → H) (w : World) (base : Nat) (spare : Nat → Bool) (held : Bool) (fuel : Nat) (cs : List Value) (x : DataW H × List MemPlace),
  DataW.trod enc P w base spare held fuel t cs = some x → cs.length = P.cellsOf t ∧ ∀ j, j < cs.length → ∃ n, cs[j]? = some (.int .i64 n)
theorem IntT.int {P : Program} {t : TypeId} (ht : P.underlying t = some (.int .i64)) (hc : P.cellsOf t = 1) : IntT P t := by
  intro H enc w base spare held fuel cs x h
  obtain ⟨n, rfl, _⟩ := DataW.trod_int ht h
  refine ⟨by rw [hc]; rfl, fun j hj => ⟨n, ?_⟩⟩
  have : j = 0 := by simp at hj; omega
  subst this; rfl
theorem IntT.struct {P : Program} {t : TypeId} {fs : Array Field} (ht : P.underlying t = some (.struct fs)) (hf : ∀ f ∈ fs.toList, IntT P f.type)
    (hcov : ((List.range (P.cellsOf t)).all fun j => fs.toList.any fun f => decide (f.offset ≤ j) && decide (j < f.offset + P.cellsOf f.type)) = true) : IntT P t := by
  intro H enc w base spare held fuel cs x h
  obtain ⟨xs, n, _, _, hlen, hxl, hg⟩ := DataW.trod_struct ht h
  refine ⟨hlen, fun j hj => ?_⟩
  have h1 := List.all_eq_true.1 hcov j (List.mem_range.2 (by omega))
  obtain ⟨f, hfm, h2⟩ := List.any_eq_true.1 h1
  simp only [Bool.and_eq_true, decide_eq_true_eq] at h2
  obtain ⟨i, hi, hfi⟩ := List.getElem_of_mem hfm
  have hfs : fs[i]? = some f := by
    rw [← Array.getElem?_toList, List.getElem?_eq_getElem hi, hfi]
  have hi2 : i < xs.length := by simpa [hxl] using hi
  have h3 := hg i f hfs
  rw [List.getElem?_eq_getElem hi2] at h3
  obtain ⟨h4, h5⟩ := hf f hfm _ _ _ _ _ _ _ _ _ h3
  obtain ⟨m, hm⟩ := h5 (j - f.offset) (by omega)
  refine ⟨m, ?_⟩
  rw [List.getElem?_take] at hm
  split at hm
  · rw [List.getElem?_drop, show f.offset + (j - f.offset) = j by omega] at hm; exact hm
  · cases hm

/-- A slice of rows of whole numbers, as it is given. -/
structure Given {α : Type} (w : World) (v : Value) (f : α → List Value) (l : List α) (x : Imp) : Prop where
  ok : ∀ (i : Nat) u, x.cs[i]? = some u → w.cell? ⟨x.blk, x.off + i, none⟩ = some u ∧ flat1 u = true
  cs : x.cs = l.flatMap f
  v : (v = .slice none 0 0 ∧ l = []) ∨ ∃ cap, v = .slice (some ⟨x.blk, x.off, none⟩) l.length cap ∧ l.length ≤ cap
theorem flat_get {α : Type} {f : α → List Value} {k : Nat} (hk : 0 < k) : ∀ {l : List α} (_ : ∀ x ∈ l, (f x).length = k) (i : Nat) (u : Value), (l.flatMap f)[i]? = some u → ∃ x, l[i / k]? = some x ∧ (f x)[i % k]? = some u
  | [], _, i, u, h => by simp at h
  | y :: r, hl, i, u, h => by
    have hy := hl y (List.mem_cons_self ..)
    rw [List.flatMap_cons, List.getElem?_append] at h
    split at h
    · rename_i q
      rw [hy] at q
      refine ⟨y, ?_, ?_⟩
      · rw [Nat.div_eq_of_lt q]; rfl
      · rw [Nat.mod_eq_of_lt q]; exact h
    · rename_i q
      rw [hy] at q h
      obtain ⟨x, h1, h2⟩ := flat_get hk (fun x hx => hl x (List.mem_cons_of_mem _ hx)) _ u h
      refine ⟨x, ?_, ?_⟩
      · rw [Nat.div_eq_sub_div hk (by omega)]; exact h1
      · rw [Nat.mod_eq_sub_mod (by omega)]; exact h2
theorem slice_given {H : Type} {enc : TypeId × Value → H} {P : Program} {w : World} {base b0 : Nat} {r : Reach} {held : Bool} {α : Type} (f : α → List Value) (mk : (Nat → Int) → α) (k : Nat) {t e : TypeId} {fuel : Nat} {v : Value} {x : DataW H × List MemPlace}
    (ht : P.underlying t = some (.slice e)) (hI : IntT P e) (hc : P.cellsOf e = k) (hk : 0 < k) (hmk : ∀ N : Nat → Int, f (mk N) = (List.range k).map fun j => Value.int .i64 (N j))
    (hok : Cell.okWide P w r b0 t v) (h : DataW.trod enc P w base (fun _ => true) held fuel t [v] = some x) : ∃ (l : List α) (y : Imp), Given w v f l y := by
  rcases open_slice ht h with ⟨h0, _⟩ | ⟨a, len, cap, m, n, D, Pl, hcs, hb, hl, hm, hmm, hx, hi⟩
  · cases h0
    exact ⟨[], ⟨0, 0, []⟩, fun i u e => by simp at e, rfl, .inl ⟨rfl, rfl⟩⟩
  · cases hcs
    obtain ⟨blk, off, spot⟩ := a
    have hs : spot = none := by
      unfold Cell.okWide at hok
      rw [ht] at hok
      unfold Cell.ok at hok
      simp only [ht] at hok
      exact hok.2.2.2.1
    subst hs
    simp only [if_true] at hmm
    subst hmm
    have hcell : ∀ i, i < len → ∀ j, j < k → ∃ n, w.cell? ⟨blk, off + (i * k + j), none⟩ = some (.int .i64 n) := by
      intro i hil j hj
      obtain ⟨cs', h1, h2⟩ := hi i (by omega)
      obtain ⟨h3, h4⟩ := hI _ _ _ _ _ _ _ _ _ h2
      obtain ⟨_, h5, h6⟩ := World.cells?_some h1
      obtain ⟨n, hn⟩ := h4 j (by omega)
      refine ⟨n, ?_⟩
      have h7 := h6 j (by omega)
      rw [hn, hc, add_add] at h7
      have e : (⟨blk, off, none⟩ : Addr).add (i * k + j) = ⟨blk, off + (i * k + j), none⟩ := by
        unfold Addr.add
        by_cases q : i * k + j = 0
        · simp [q]
        · simp
      rw [e] at h7
      exact h7
    refine ⟨(List.range len).map fun i => mk fun j => match w.cell? ⟨blk, off + (i * k + j), none⟩ with | some (.int _ n) => n | _ => 0, ⟨blk, off, _⟩, ?_, rfl, .inr ⟨m, by simp, by simpa using hl⟩⟩
    intro i u hu
    obtain ⟨y, h1, h2⟩ := flat_get hk (fun y hy => by
      obtain ⟨i, _, rfl⟩ := List.mem_map.1 hy
      rw [hmk]; simp) i u hu
    have hlt : i / k < len := by
      have := get_lt h1
      simpa using this
    rw [List.getElem?_map, List.getElem?_range hlt] at h1
    simp only [Option.map_some, Option.some.injEq] at h1
    subst h1
    have hj : i % k < k := Nat.mod_lt _ hk
    rw [hmk, List.getElem?_map, List.getElem?_range hj] at h2
    simp only [Option.map_some, Option.some.injEq] at h2
    obtain ⟨n, hn⟩ := hcell _ hlt _ hj
    rw [hn] at h2
    subst h2
    rw [Nat.div_add_mod' ] at hn
    exact ⟨hn, rfl⟩
end Go.Ax

/-! Slices of rows of plain cells, as arguments. -/
namespace Go.Ax
open Go Go.RowKit Go.Proofs Go.ChangeShapes Go.WideShapes Go.Deep

theorem IntT.row {α : Type} {P : Program} {t : TypeId} {k : Nat} {f : α → List Value} {mk : (Nat → Int) → α} (h : IntT P t) (hc : P.cellsOf t = k) (hmk : ∀ N : Nat → Int, f (mk N) = (List.range k).map fun j => Value.int .i64 (N j))
    {H : Type} {enc : TypeId × Value → H} {w : World} {base : Nat} {spare : Nat → Bool} {held : Bool} (fuel : Nat) (cs : List Value) (x : DataW H × List MemPlace) (hx : DataW.trod enc P w base spare held fuel t cs = some x) : ∃ y : α, cs = f y ∧ True := by
  obtain ⟨h1, h2⟩ := h _ _ _ _ _ _ _ _ _ hx
  have : ∃ N : Nat → Int, ∀ j, j < cs.length → cs[j]? = some (.int .i64 (N j)) := by
    refine ⟨fun j => match cs[j]? with | some (.int _ n) => n | _ => 0, fun j hj => ?_⟩
    obtain ⟨n, hn⟩ := h2 j hj
    simp [hn]
  obtain ⟨N, hN⟩ := this
  refine ⟨mk N, ?_, trivial⟩
  rw [hmk]
  apply List.ext_getElem?
  intro j
  by_cases hj : j < k
  · rw [hN j (by omega), List.getElem?_map, List.getElem?_range hj]; rfl
  · rw [List.getElem?_eq_none (by omega), List.getElem?_eq_none (by simp; omega)]
end Go.Ax


import Derived.Test.YtpdoogfafjjdkaaKd
set_option linter.all false
/-
  Late: what a law looks at (13), the document's validity (49, 56, 33, 34), what is true (35) (written by program).
-/
namespace Go.Ax
open Go Go.RowKit Go.Proofs

section
variable {kn : FuncId → Option Bool} {lo : Nat} {H : Hp}
theorem great_ok {g : Lt} {la : Option Addr} {n cap : Nat} : ∃ H', FnX Try.prog kn lo 13 [.agg g.v.toArray, .slice la n cap] H (.bool (decide (g.wn > 45) || decide (g.an > 45) || decide (n > 45))) H' ∧ Keep H H' [] := by
  have key := fnX_low (kn := kn) (lo := lo) (H := H) (args := [.agg g.v.toArray, .slice la n cap]) (Q := fun w H' => w = .bool (decide (g.wn > 45) || decide (g.an > 45) || decide (n > 45)) ∧ Keep H H' []) Try.func13 B13 N13 Z13 L13 (by simp) ?_
  · obtain ⟨w, H', h, rfl, q⟩ := key; exact ⟨H', h, q⟩
  have hk := Keep.refl H []
  intro H1 hH1; obtain ⟨kH1, nH1, c1⟩ := new_facts hH1; clear hH1
  have mH1 := kH1.1
  have hk := hk.trans kH1
  have c1 : Cl H1 H.next [.slice g.wa g.wn g.wcap, .slice g.aa g.an g.acap, iv g.r1, iv g.r2, iv g.f1, iv g.f2, iv g.g1, iv g.g2, iv g.full, iv g.base, iv g.kill, iv g.need, iv g.bear] := c1
  refine Exists.intro _ (Exists.intro _ (And.intro c1.of (And.intro (show _ = some (.slice g.wa g.wn g.wcap) from rfl) ?_)))
  intro t1 g1; cases t1
  · have g1 : ¬ ((g.wn : Int) > 45) := of_decide_eq_false g1
    refine Exists.intro _ (Exists.intro _ (And.intro c1.of (And.intro (show _ = some (.slice g.aa g.an g.acap) from rfl) ?_)))
    intro t2 g2; cases t2
    · have g2 : ¬ ((g.an : Int) > 45) := of_decide_eq_false g2
      refine And.intro rfl (Exists.intro (.bool false) (And.intro rfl ?_))
      intro t3 g3; cases t3
      · have g3 : ¬ ((n : Int) > 45) := of_decide_eq_false g3
        refine And.intro rfl (Exists.intro (.bool false) (And.intro rfl ?_))
        exact And.intro trivial (Exists.intro _ (And.intro rfl ⟨by show Value.bool false = _; congr 1; symm; simp; omega, hk⟩))
      · have g3 : (n : Int) > 45 := of_decide_eq_true g3
        refine And.intro rfl (Exists.intro (.bool true) (And.intro rfl ?_))
        exact And.intro trivial (Exists.intro _ (And.intro rfl ⟨by show Value.bool true = _; congr 1; symm; simp; omega, hk⟩))
    · have g2 : (g.an : Int) > 45 := of_decide_eq_true g2
      refine And.intro rfl (Exists.intro (.bool true) (And.intro rfl ?_))
      refine And.intro rfl (Exists.intro (.bool true) (And.intro rfl ?_))
      exact And.intro trivial (Exists.intro _ (And.intro rfl ⟨by show Value.bool true = _; congr 1; symm; simp; omega, hk⟩))
  · have g1 : (g.wn : Int) > 45 := of_decide_eq_true g1
    refine And.intro rfl (Exists.intro (.bool true) (And.intro rfl ?_))
    refine And.intro rfl (Exists.intro (.bool true) (And.intro rfl ?_))
    exact And.intro trivial (Exists.intro _ (And.intro rfl ⟨by show Value.bool true = _; congr 1; symm; simp; omega, hk⟩))
theorem in49_ok {n a b : Int} : ∃ H', FnX Try.prog kn lo 49 [iv n, iv a, iv b] H (.bool (inB n a b)) H' ∧ Keep H H' [] := by
  have key := fnX_low (kn := kn) (lo := lo) (H := H) (args := [iv n, iv a, iv b]) (Q := fun w H' => w = .bool (inB n a b) ∧ Keep H H' []) Try.func49 B49 N49 Z49 L49 (by simp) ?_
  · obtain ⟨w, H', h, rfl, q⟩ := key; exact ⟨H', h, q⟩
  repeat' first
    | (intro t ht; cases t)
    | exact And.intro trivial (Exists.intro _ (And.intro rfl ⟨by simp_all [retV, inB] <;> (intros; omega), Keep.refl _ _⟩))
    | refine And.intro rfl (Exists.intro _ (And.intro rfl ?_))
theorem within56_ok {a b l m : Int} : ∃ H', FnX Try.prog kn lo 56 [spv a b, iv l, iv m] H (.bool (spanB a b l m)) H' ∧ Keep H H' [] := by
  have key := fnX_low (kn := kn) (lo := lo) (H := H) (args := [spv a b, iv l, iv m]) (Q := fun w H' => w = .bool (spanB a b l m) ∧ Keep H H' []) Try.func56 B56 N56 Z56 L56 (by simp) ?_
  · obtain ⟨w, H', h, rfl, q⟩ := key; exact ⟨H', h, q⟩
  intro H1 hH1
  obtain ⟨k1, n1, c1⟩ := new_facts hH1
  repeat' first
    | refine Exists.intro _ (Exists.intro _ (And.intro c1.of (And.intro rfl ?_)))
    | (intro t ht; cases t)
    | exact And.intro trivial (Exists.intro _ (And.intro rfl ⟨by simp_all [retV, spanB] <;> (intros; omega), k1⟩))
    | refine And.intro rfl (Exists.intro _ (And.intro rfl ?_))
theorem late33_ok {g : Lt} (hw : Sl H g.wa g.wn g.wcap (spc g.ws)) (ha : Sl H g.aa g.an g.acap (spc g.as)) (hwl : g.ws.length = g.wn) (hal : g.as.length = g.an) (hwn : g.wn ≤ 1000) (han : g.an ≤ 1000) :
    ∃ H', FnX Try.prog kn lo 33 [.agg g.v.toArray] H (.bool g.ok) H' ∧ Keep H H' [] := by
  have key := fnX_low (kn := kn) (lo := lo) (H := H) (args := [.agg g.v.toArray]) (Q := fun w H' => w = .bool g.ok ∧ Keep H H' []) Try.func33 B33 N33 Z33 L33 (by simp) ?_
  · obtain ⟨w, H', h, rfl, q⟩ := key; exact ⟨H', h, q⟩
  have hk := Keep.refl H []
  intro H1 hH1; obtain ⟨kH1, nH1, c1⟩ := new_facts hH1; clear hH1
  have mH1 := kH1.1
  have hk := hk.trans kH1
  have hw := kH1.sl0 hw
  have ha := kH1.sl0 ha
  have c1 : Cl H1 H.next [.slice g.wa g.wn g.wcap, .slice g.aa g.an g.acap, iv g.r1, iv g.r2, iv g.f1, iv g.f2, iv g.g1, iv g.g2, iv g.full, iv g.base, iv g.kill, iv g.need, iv g.bear] := c1
  refine Exists.intro _ (Exists.intro _ (And.intro c1.of (And.intro (show _ = some (.slice g.wa g.wn g.wcap) from rfl) ?_)))
  refine Exists.intro _ (Exists.intro _ (And.intro c1.of (And.intro (show _ = some (.slice g.aa g.an g.acap) from rfl) ?_)))
  intro t1 g1; cases t1
  · have g1 : ¬ ((g.wn : Int) ≠ (g.an : Int)) := by simpa using g1
    refine Exists.intro _ (Exists.intro _ (And.intro c1.of (And.intro (show _ = some (.slice g.wa g.wn g.wcap) from rfl) ?_)))
    intro t2 g2; cases t2
    · have g2 : ¬ ((g.wn : Int) > 40) := of_decide_eq_false g2
      refine And.intro rfl (Exists.intro (.bool false) (And.intro rfl ?_))
      refine condF ?_
      have hE : g.ok = ((g.ws.all fun s => spanB s.1 s.2 0 5000) && (g.as.all fun s => spanB s.1 s.2 0 20000) && spanB g.r1 g.r2 0 1000 && inB g.full 0 20000 && spanB g.f1 g.f2 0 g.full && spanB g.g1 g.g2 0 g.full && inB g.base 0 5000 && inB g.kill 0 1048576 && inB g.need 0 20000 && inB g.bear 0 40) := by
        unfold Lt.ok; rw [decide_eq_true (show g.wn = g.an by omega), decide_eq_true (show g.wn ≤ 40 by omega)]; simp only [Bool.true_and]
      refine loop_low (fn := Try.f33) E33_1 N33 L33x1 (fun i : Nat => [(1, pt H.next), (3, iv (i : Int))])
        (fun k i H' => i + k = g.wn ∧ Keep H1 H' [] ∧ ((g.ws.take i).all fun s => spanB s.1 s.2 0 5000) = true ∧ ((g.as.take i).all fun s => spanB s.1 s.2 0 20000) = true) g.wn 0 ⟨by omega, Keep.refl _ _, rfl, rfl⟩ ⟨rfl, rfl, trivial⟩ ?_
      rintro k i L1 ⟨hik, hki, hal1, hal2⟩
      have hk := hk.trans hki
      have hw := hki.sl0 hw
      have ha := hki.sl0 ha
      have c1 := hki.cl c1 (by simp)
      have kb := hki
      refine Exists.intro _ (Exists.intro _ (And.intro c1.of (And.intro (show _ = some (.slice g.wa g.wn g.wcap) from rfl) ?_)))
      refine And.intro (fun q3 => ?_) (fun q3 => ?_)
      · have q3 : (i : Int) < (g.wn : Int) := of_decide_eq_true q3
        have hi : i < g.wn := by omega
        obtain ⟨x, hx⟩ := get_some (l := g.ws) (i := i) (by omega)
        obtain ⟨y, hy⟩ := get_some (l := g.as) (i := i) (by omega)
        have hst1 := all_step (f := fun s : Int × Int => spanB s.1 s.2 0 5000) hx
        have hst2 := all_step (f := fun s : Int × Int => spanB s.1 s.2 0 20000) hy
        rcases hw with ⟨_, h0, _⟩ | ⟨wb, ewa, hwd, _⟩
        · omega
        rcases ha with ⟨_, h0, _⟩ | ⟨ab, eaa, had, _⟩
        · omega
        refine Exists.intro _ (Exists.intro _ (And.intro c1.of (And.intro (show _ = some (Value.slice (some ⟨wb, 0, none⟩) g.wn g.wcap) from by rw [← ewa]; rfl) ?_)))
        refine Exists.intro i (And.intro rfl (And.intro hi ?_))
        refine Exists.intro _ (Exists.intro _ (And.intro hwd.of (And.intro (spc_row hx) ?_)))
        refine callB (within56_ok) ?_
        intro tH2 H2 hH2 kH2
        have mH2 := kH2.1
        have hk := hk.trans kH2
        have c1 := kH2.cl c1 (by simp)
        have kb := kb.trans kH2
        have hwd := kH2.rd hwd (by simp)
        have had := kH2.rd had (by simp)
        cases tH2
        · have h1 := hH2
          refine And.intro rfl (Exists.intro (.bool true) (And.intro rfl ?_))
          refine And.intro rfl (Exists.intro (.bool true) (And.intro rfl ?_))
          refine condT ?_
          have e : g.ok = false := by rw [hE, all_fail (f := fun s : Int × Int => spanB s.1 s.2 0 5000) hx h1]; simp only [Bool.false_and]
          exact And.intro trivial (Exists.intro _ (And.intro rfl ⟨by rw [e]; rfl, hk⟩))
        · have h1 := hH2
          refine And.intro rfl (Exists.intro (.bool false) (And.intro rfl ?_))
          refine Exists.intro _ (Exists.intro _ (And.intro c1.of (And.intro (show _ = some (Value.slice (some ⟨ab, 0, none⟩) g.an g.acap) from by rw [← eaa]; rfl) ?_)))
          refine Exists.intro i (And.intro rfl (And.intro (by omega) ?_))
          refine Exists.intro _ (Exists.intro _ (And.intro had.of (And.intro (spc_row hy) ?_)))
          refine callB (within56_ok) ?_
          intro tH3 H3 hH3 kH3
          have mH3 := kH3.1
          have hk := hk.trans kH3
          have c1 := kH3.cl c1 (by simp)
          have kb := kb.trans kH3
          have hwd := kH3.rd hwd (by simp)
          have had := kH3.rd had (by simp)
          cases tH3
          · have h2 := hH3
            refine And.intro rfl (Exists.intro (.bool true) (And.intro rfl ?_))
            refine And.intro rfl (Exists.intro (.bool true) (And.intro rfl ?_))
            refine condT ?_
            have e : g.ok = false := by rw [hE, all_fail (f := fun s : Int × Int => spanB s.1 s.2 0 20000) hy h2]; simp only [Bool.and_false, Bool.false_and]
            exact And.intro trivial (Exists.intro _ (And.intro rfl ⟨by rw [e]; rfl, hk⟩))
          · have h2 := hH3
            refine And.intro rfl (Exists.intro (.bool false) (And.intro rfl ?_))
            refine And.intro rfl (Exists.intro (.bool false) (And.intro rfl ?_))
            refine condF ?_
            refine And.intro ⟨by omega, by omega⟩ ?_
            exact ⟨k - 1, i + 1, by omega, ⟨by omega, kb, by rw [hst1, hal1, h1]; rfl, by rw [hst2, hal2, h2]; rfl⟩, rfl, rfl, trivial⟩
      · have q3 : ¬ ((i : Int) < (g.wn : Int)) := of_decide_eq_false q3
        have e : i = g.wn := by omega
        subst e
        rw [List.take_of_length_le (by omega)] at hal1 hal2
        refine Exists.intro _ (Exists.intro _ (And.intro c1.of (And.intro (show _ = some (iv g.full) from rfl) ?_)))
        refine callB (in49_ok) ?_
        intro tH4 H4 hH4 kH4
        have mH4 := kH4.1
        have hk := hk.trans kH4
        have hw := kH4.sl0 hw
        have ha := kH4.sl0 ha
        have c1 := kH4.cl c1 (by simp)
        have kb := kb.trans kH4
        cases tH4
        · have h4 := hH4
          refine And.intro rfl (Exists.intro (.bool false) (And.intro rfl ?_))
          refine And.intro rfl (Exists.intro (.bool false) (And.intro rfl ?_))
          refine And.intro rfl (Exists.intro (.bool false) (And.intro rfl ?_))
          refine And.intro rfl (Exists.intro (.bool false) (And.intro rfl ?_))
          refine And.intro rfl (Exists.intro (.bool false) (And.intro rfl ?_))
          refine And.intro rfl (Exists.intro (.bool false) (And.intro rfl ?_))
          refine And.intro rfl (Exists.intro (.bool false) (And.intro rfl ?_))
          have e : g.ok = false := by rw [hE]; simp only [hal1, hal2, h4, Bool.and_true, Bool.true_and, Bool.and_false, Bool.false_and]
          exact And.intro trivial (Exists.intro _ (And.intro rfl ⟨by rw [e]; rfl, hk⟩))
        · have h4 := hH4
          refine Exists.intro _ (Exists.intro _ (And.intro c1.of (And.intro (show row 2 _ _ = some [iv g.f1, iv g.f2] from rfl) ?_)))
          refine Exists.intro _ (Exists.intro _ (And.intro c1.of (And.intro (show _ = some (iv g.full) from rfl) ?_)))
          refine callB (within56_ok) ?_
          intro tH5 H5 hH5 kH5
          have mH5 := kH5.1
          have hk := hk.trans kH5
          have hw := kH5.sl0 hw
          have ha := kH5.sl0 ha
          have c1 := kH5.cl c1 (by simp)
          have kb := kb.trans kH5
          cases tH5
          · have h5 := hH5
            refine And.intro rfl (Exists.intro (.bool false) (And.intro rfl ?_))
            refine And.intro rfl (Exists.intro (.bool false) (And.intro rfl ?_))
            refine And.intro rfl (Exists.intro (.bool false) (And.intro rfl ?_))
            refine And.intro rfl (Exists.intro (.bool false) (And.intro rfl ?_))
            refine And.intro rfl (Exists.intro (.bool false) (And.intro rfl ?_))
            refine And.intro rfl (Exists.intro (.bool false) (And.intro rfl ?_))
            refine And.intro rfl (Exists.intro (.bool false) (And.intro rfl ?_))
            have e : g.ok = false := by rw [hE]; simp only [hal1, hal2, h4, h5, Bool.and_true, Bool.true_and, Bool.and_false, Bool.false_and]
            exact And.intro trivial (Exists.intro _ (And.intro rfl ⟨by rw [e]; rfl, hk⟩))
          · have h5 := hH5
            refine And.intro rfl (Exists.intro (.bool true) (And.intro rfl ?_))
            refine Exists.intro _ (Exists.intro _ (And.intro c1.of (And.intro (show row 2 _ _ = some [iv g.g1, iv g.g2] from rfl) ?_)))
            refine Exists.intro _ (Exists.intro _ (And.intro c1.of (And.intro (show _ = some (iv g.full) from rfl) ?_)))
            refine callB (within56_ok) ?_
            intro tH6 H6 hH6 kH6
            have mH6 := kH6.1
            have hk := hk.trans kH6
            have hw := kH6.sl0 hw
            have ha := kH6.sl0 ha
            have c1 := kH6.cl c1 (by simp)
            have kb := kb.trans kH6
            cases tH6
            · have h6 := hH6
              refine And.intro rfl (Exists.intro (.bool false) (And.intro rfl ?_))
              refine And.intro rfl (Exists.intro (.bool false) (And.intro rfl ?_))
              refine And.intro rfl (Exists.intro (.bool false) (And.intro rfl ?_))
              refine And.intro rfl (Exists.intro (.bool false) (And.intro rfl ?_))
              refine And.intro rfl (Exists.intro (.bool false) (And.intro rfl ?_))
              refine And.intro rfl (Exists.intro (.bool false) (And.intro rfl ?_))
              have e : g.ok = false := by rw [hE]; simp only [hal1, hal2, h4, h5, h6, Bool.and_true, Bool.true_and, Bool.and_false, Bool.false_and]
              exact And.intro trivial (Exists.intro _ (And.intro rfl ⟨by rw [e]; rfl, hk⟩))
            · have h6 := hH6
              refine And.intro rfl (Exists.intro (.bool true) (And.intro rfl ?_))
              refine Exists.intro _ (Exists.intro _ (And.intro c1.of (And.intro (show row 2 _ _ = some [iv g.r1, iv g.r2] from rfl) ?_)))
              refine callB (within56_ok) ?_
              intro tH7 H7 hH7 kH7
              have mH7 := kH7.1
              have hk := hk.trans kH7
              have hw := kH7.sl0 hw
              have ha := kH7.sl0 ha
              have c1 := kH7.cl c1 (by simp)
              have kb := kb.trans kH7
              cases tH7
              · have h7 := hH7
                refine And.intro rfl (Exists.intro (.bool false) (And.intro rfl ?_))
                refine And.intro rfl (Exists.intro (.bool false) (And.intro rfl ?_))
                refine And.intro rfl (Exists.intro (.bool false) (And.intro rfl ?_))
                refine And.intro rfl (Exists.intro (.bool false) (And.intro rfl ?_))
                refine And.intro rfl (Exists.intro (.bool false) (And.intro rfl ?_))
                have e : g.ok = false := by rw [hE]; simp only [hal1, hal2, h4, h5, h6, h7, Bool.and_true, Bool.true_and, Bool.and_false, Bool.false_and]
                exact And.intro trivial (Exists.intro _ (And.intro rfl ⟨by rw [e]; rfl, hk⟩))
              · have h7 := hH7
                refine And.intro rfl (Exists.intro (.bool true) (And.intro rfl ?_))
                refine Exists.intro _ (Exists.intro _ (And.intro c1.of (And.intro (show _ = some (iv g.base) from rfl) ?_)))
                refine callB (in49_ok) ?_
                intro tH8 H8 hH8 kH8
                have mH8 := kH8.1
                have hk := hk.trans kH8
                have hw := kH8.sl0 hw
                have ha := kH8.sl0 ha
                have c1 := kH8.cl c1 (by simp)
                have kb := kb.trans kH8
                cases tH8
                · have h8 := hH8
                  refine And.intro rfl (Exists.intro (.bool false) (And.intro rfl ?_))
                  refine And.intro rfl (Exists.intro (.bool false) (And.intro rfl ?_))
                  refine And.intro rfl (Exists.intro (.bool false) (And.intro rfl ?_))
                  refine And.intro rfl (Exists.intro (.bool false) (And.intro rfl ?_))
                  have e : g.ok = false := by rw [hE]; simp only [hal1, hal2, h4, h5, h6, h7, h8, Bool.and_true, Bool.true_and, Bool.and_false, Bool.false_and]
                  exact And.intro trivial (Exists.intro _ (And.intro rfl ⟨by rw [e]; rfl, hk⟩))
                · have h8 := hH8
                  refine And.intro rfl (Exists.intro (.bool true) (And.intro rfl ?_))
                  refine Exists.intro _ (Exists.intro _ (And.intro c1.of (And.intro (show _ = some (iv g.kill) from rfl) ?_)))
                  refine callB (in49_ok) ?_
                  intro tH9 H9 hH9 kH9
                  have mH9 := kH9.1
                  have hk := hk.trans kH9
                  have hw := kH9.sl0 hw
                  have ha := kH9.sl0 ha
                  have c1 := kH9.cl c1 (by simp)
                  have kb := kb.trans kH9
                  cases tH9
                  · have h9 := hH9
                    refine And.intro rfl (Exists.intro (.bool false) (And.intro rfl ?_))
                    refine And.intro rfl (Exists.intro (.bool false) (And.intro rfl ?_))
                    refine And.intro rfl (Exists.intro (.bool false) (And.intro rfl ?_))
                    have e : g.ok = false := by rw [hE]; simp only [hal1, hal2, h4, h5, h6, h7, h8, h9, Bool.and_true, Bool.true_and, Bool.and_false, Bool.false_and]
                    exact And.intro trivial (Exists.intro _ (And.intro rfl ⟨by rw [e]; rfl, hk⟩))
                  · have h9 := hH9
                    refine And.intro rfl (Exists.intro (.bool true) (And.intro rfl ?_))
                    refine Exists.intro _ (Exists.intro _ (And.intro c1.of (And.intro (show _ = some (iv g.need) from rfl) ?_)))
                    refine callB (in49_ok) ?_
                    intro tH10 H10 hH10 kH10
                    have mH10 := kH10.1
                    have hk := hk.trans kH10
                    have hw := kH10.sl0 hw
                    have ha := kH10.sl0 ha
                    have c1 := kH10.cl c1 (by simp)
                    have kb := kb.trans kH10
                    cases tH10
                    · have h10 := hH10
                      refine And.intro rfl (Exists.intro (.bool false) (And.intro rfl ?_))
                      refine And.intro rfl (Exists.intro (.bool false) (And.intro rfl ?_))
                      have e : g.ok = false := by rw [hE]; simp only [hal1, hal2, h4, h5, h6, h7, h8, h9, h10, Bool.and_true, Bool.true_and, Bool.and_false, Bool.false_and]
                      exact And.intro trivial (Exists.intro _ (And.intro rfl ⟨by rw [e]; rfl, hk⟩))
                    · have h10 := hH10
                      refine And.intro rfl (Exists.intro (.bool true) (And.intro rfl ?_))
                      refine Exists.intro _ (Exists.intro _ (And.intro c1.of (And.intro (show _ = some (iv g.bear) from rfl) ?_)))
                      refine callB (in49_ok) ?_
                      intro tH11 H11 hH11 kH11
                      have mH11 := kH11.1
                      have hk := hk.trans kH11
                      have hw := kH11.sl0 hw
                      have ha := kH11.sl0 ha
                      have c1 := kH11.cl c1 (by simp)
                      have kb := kb.trans kH11
                      cases tH11
                      · have h11 := hH11
                        refine And.intro rfl (Exists.intro (.bool false) (And.intro rfl ?_))
                        have e : g.ok = false := by rw [hE]; simp only [hal1, hal2, h4, h5, h6, h7, h8, h9, h10, h11, Bool.and_true, Bool.true_and, Bool.and_false, Bool.false_and]
                        exact And.intro trivial (Exists.intro _ (And.intro rfl ⟨by rw [e]; rfl, hk⟩))
                      · have h11 := hH11
                        refine And.intro rfl (Exists.intro (.bool true) (And.intro rfl ?_))
                        have e : g.ok = true := by rw [hE]; simp only [hal1, hal2, h4, h5, h6, h7, h8, h9, h10, h11, Bool.and_true, Bool.true_and, Bool.and_false, Bool.false_and]
                        exact And.intro trivial (Exists.intro _ (And.intro rfl ⟨by rw [e]; rfl, hk⟩))
    · have g2 : (g.wn : Int) > 40 := of_decide_eq_true g2
      refine And.intro rfl (Exists.intro (.bool true) (And.intro rfl ?_))
      refine condT ?_
      have e : g.ok = false := by unfold Lt.ok; rw [decide_eq_false (show ¬ g.wn ≤ 40 by omega)]; simp only [Bool.and_false, Bool.false_and]
      exact And.intro trivial (Exists.intro _ (And.intro rfl ⟨by rw [e]; rfl, hk⟩))
  · have g1 : (g.wn : Int) ≠ (g.an : Int) := by simpa using g1
    refine And.intro rfl (Exists.intro (.bool true) (And.intro rfl ?_))
    refine condT ?_
    have e : g.ok = false := by unfold Lt.ok; rw [decide_eq_false (show ¬ g.wn = g.an by omega)]; rfl
    exact And.intro trivial (Exists.intro _ (And.intro rfl ⟨by rw [e]; rfl, hk⟩))
theorem flood34_ok {g : Lt} {a b : Int} {la : Option Addr} {n cap : Nat} {us : List Int} (hwn : g.wn ≤ 1000) (hl : Sl H la n cap (ints us)) (hul : us.length = n) (hn : n ≤ 1000) :
    ∃ H', FnX Try.prog kn lo 34 [.agg g.v.toArray, iv a, iv b, .slice la n cap] H (.bool (flB g a b && setB a (a + b) us)) H' ∧ Keep H H' [] := by
  have key := fnX_low (kn := kn) (lo := lo) (H := H) (args := [.agg g.v.toArray, iv a, iv b, .slice la n cap]) (Q := fun w H' => w = .bool (flB g a b && setB a (a + b) us) ∧ Keep H H' []) Try.func34 B34 N34 Z34 L34 (by simp) ?_
  · obtain ⟨w, H', h, rfl, q⟩ := key; exact ⟨H', h, q⟩
  have hk := Keep.refl H []
  intro H1 hH1; obtain ⟨kH1, nH1, c1⟩ := new_facts hH1; clear hH1
  have mH1 := kH1.1
  have hk := hk.trans kH1
  have hl := kH1.sl0 hl
  have c1 : Cl H1 H.next [.slice g.wa g.wn g.wcap, .slice g.aa g.an g.acap, iv g.r1, iv g.r2, iv g.f1, iv g.f2, iv g.g1, iv g.g2, iv g.full, iv g.base, iv g.kill, iv g.need, iv g.bear] := c1
  refine Exists.intro _ (Exists.intro _ (And.intro c1.of (And.intro (show _ = some (.slice g.wa g.wn g.wcap) from rfl) ?_)))
  refine callB (in49_ok) ?_
  intro tH2 H2 hH2 kH2
  have mH2 := kH2.1
  have hk := hk.trans kH2
  have hl := kH2.sl0 hl
  have c1 := kH2.cl c1 (by simp)
  cases tH2
  · have h1 := hH2
    have h1x := h1; simp only [inB, Bool.and_eq_true, Bool.and_eq_false_iff, decide_eq_true_eq, decide_eq_false_iff_not] at h1x
    refine And.intro rfl (Exists.intro (.bool true) (And.intro rfl ?_))
    refine And.intro rfl (Exists.intro (.bool true) (And.intro rfl ?_))
    refine condT ?_
    have e : (flB g a b && setB a (a + b) us) = false := by unfold flB; rw [h1]; rfl
    exact And.intro trivial (Exists.intro _ (And.intro rfl ⟨by rw [e]; rfl, hk⟩))
  · have h1 := hH2
    have h1x := h1; simp only [inB, Bool.and_eq_true, Bool.and_eq_false_iff, decide_eq_true_eq, decide_eq_false_iff_not] at h1x
    refine And.intro rfl (Exists.intro (.bool false) (And.intro rfl ?_))
    refine Exists.intro _ (Exists.intro _ (And.intro c1.of (And.intro (show _ = some (.slice g.wa g.wn g.wcap) from rfl) ?_)))
    refine And.intro ⟨by omega, by omega⟩ ?_
    refine callB (in49_ok) ?_
    intro tH3 H3 hH3 kH3
    have mH3 := kH3.1
    have hk := hk.trans kH3
    have hl := kH3.sl0 hl
    have c1 := kH3.cl c1 (by simp)
    cases tH3
    · have h2 := hH3
      have h2x := h2; simp only [inB, Bool.and_eq_true, Bool.and_eq_false_iff, decide_eq_true_eq, decide_eq_false_iff_not] at h2x
      refine And.intro rfl (Exists.intro (.bool true) (And.intro rfl ?_))
      refine And.intro rfl (Exists.intro (.bool true) (And.intro rfl ?_))
      refine condT ?_
      have e : (flB g a b && setB a (a + b) us) = false := by unfold flB; rw [h1, h2]; rfl
      exact And.intro trivial (Exists.intro _ (And.intro rfl ⟨by rw [e]; rfl, hk⟩))
    · have h2 := hH3
      have h2x := h2; simp only [inB, Bool.and_eq_true, Bool.and_eq_false_iff, decide_eq_true_eq, decide_eq_false_iff_not] at h2x
      refine And.intro rfl (Exists.intro (.bool false) (And.intro rfl ?_))
      refine And.intro rfl (Exists.intro (.bool false) (And.intro rfl ?_))
      refine condF ?_
      have hfl : flB g a b = true := by unfold flB; rw [h1, h2]; rfl
      refine loop_low (fn := Try.f34) E34_1 N34 L34x1 (fun i : Nat => [(1, iv a), (2, iv b), (3, .slice la n cap), (9, iv (i : Int))])
        (fun k i H' => i + k = n ∧ Keep H3 H' [] ∧ setB a (a + b) us = setB (if i = 0 then a else us.getD (i - 1) 0 + 1) (a + b) (us.drop i) ∧ ∀ j, j < i → a ≤ us.getD j 0 ∧ us.getD j 0 < a + b) n 0 ⟨by omega, Keep.refl _ _, rfl, fun j hj => by omega⟩ ⟨rfl, rfl, rfl, rfl, trivial⟩ ?_
      rintro k i L1 ⟨hik, hki, hset, hin⟩
      have hk := hk.trans hki
      have hl := hki.sl0 hl
      have c1 := hki.cl c1 (by simp)
      have kb := hki
      refine And.intro (fun q1 => ?_) (fun q1 => ?_)
      · have q1 : (i : Int) < (n : Int) := of_decide_eq_true q1
        have hi : i < n := by omega
        obtain ⟨x, hx⟩ := get_some (l := us) (i := i) (by omega)
        have hxd : us.getD i 0 = x := by rw [List.getD_eq_getElem?_getD, hx]; rfl
        have hdr : us.drop i = x :: us.drop (i + 1) := by rw [List.drop_eq_getElem_cons (by omega)]; rw [List.getElem?_eq_getElem (by omega)] at hx; rw [Option.some.inj hx]
        have hst : setB a (a + b) us = (decide ((if i = 0 then a else us.getD (i - 1) 0 + 1) ≤ x) && decide (x < a + b) && setB (x + 1) (a + b) (us.drop (i + 1))) := by rw [hset, hdr]; rfl
        obtain ⟨p, hp⟩ : ∃ p, us.getD (i - 1) 0 = p := ⟨_, rfl⟩
        rw [hp] at hst
        have hpi : 0 < i → a ≤ p ∧ p < a + b := fun h => by have := hin (i - 1) (by omega); rw [hp] at this; exact this
        have hpx : 0 < i → us[i - 1]? = some p := fun h => by rw [← hp, List.getD_eq_getElem?_getD, List.getElem?_eq_getElem (by omega)]; rfl
        rcases hl with ⟨_, h0, _⟩ | ⟨lb, rfl, hld, _⟩
        · omega
        refine wD_seq ?_
        refine wD_mov (v := .slice (some ⟨lb, 0, none⟩) n cap) rfl ?_
        refine wD_mov (v := iv (i : Int)) rfl ?_
        refine wD_idx (b := lb) (o := 0) (k := i) (j := (i : Int)) rfl rfl rfl hi ?_
        refine wD_ld (b := lb) (o := 0 + i * 1) (v := iv x) rfl hld (ints_at hx) ?_
        refine wD_mov (v := iv a) rfl ?_
        refine wD_mov (v := iv a) rfl ?_
        refine wD_mov (v := iv b) rfl ?_
        refine wD_add (a := a) (b := b) rfl rfl ⟨by omega, by omega⟩ ?_
        refine wD_sub (a := a + b) (b := 1) rfl rfl ⟨by omega, by omega⟩ ?_
        obtain ⟨H4, fH4, kH4⟩ := in49_ok (kn := kn) (lo := lo) (H := L1) (n := x) (a := a) (b := (a + b) - 1)
        generalize h3 : inB (x) (a) ((a + b) - 1) = t3 at fH4
        have h3x := h3
        refine wD_callf (vs := [iv x, iv a, iv ((a + b) - 1)]) rfl (callX_args fH4) ?_
        have mH4 := kH4.1
        have hk := hk.trans kH4
        have c1 := kH4.cl c1 (by simp)
        have kb := kb.trans kH4
        have hld := kH4.rd hld (by simp)
        cases t3
        · simp only [inB, Bool.and_eq_true, Bool.and_eq_false_iff, decide_eq_true_eq, decide_eq_false_iff_not] at h3x
          refine wD_pur (v := .bool true) rfl rfl ?_
          refine wD_mov (v := .bool true) rfl ?_
          refine wD_gs rfl ?_
          refine wD_gs rfl ?_
          refine wD_gs rfl ?_
          refine wD_gu rfl ?_
          refine wD_gu rfl ?_
          refine wD_gu rfl ?_
          refine wD_gu rfl ?_
          refine wD_gu rfl ?_
          refine wD_gu rfl ?_
          refine wD_gu rfl ?_
          refine wD_gu rfl ?_
          refine wD_gu rfl ?_
          refine wD_gu rfl ?_
          refine wD_gs rfl ?_
          refine wD_pur (v := .bool true) rfl rfl ?_
          refine wD_end (by repeat' first | exact True.intro | exact (fun h => h) | refine And.intro ?_ ?_ | (intro h; have h : (_ : Nat) = _ := h; omega)) ?_
          refine condT ?_
          have e : (flB g a b && setB a (a + b) us) = false := by
            rw [hfl, hst, Bool.true_and]
            have q : ¬ ((if i = 0 then a else p + 1) ≤ x ∧ x < a + b) := by split <;> omega
            rw [← Bool.decide_and, decide_eq_false q]; rfl
          exact And.intro trivial (Exists.intro _ (And.intro rfl ⟨by rw [e]; rfl, hk⟩))
        · simp only [inB, Bool.and_eq_true, Bool.and_eq_false_iff, decide_eq_true_eq, decide_eq_false_iff_not] at h3x
          refine wD_pur (v := .bool false) rfl rfl ?_
          refine wD_mov (v := .bool false) rfl ?_
          refine wD_g rfl (wD_mov (v := iv (i : Int)) rfl ?_)
          refine wD_g rfl (wD_b_gtr (a := (i : Int)) (b := 0) rfl rfl ?_)
          intro t2 g2; cases t2
          · have g2 : ¬ ((i : Int) > 0) := of_decide_eq_false g2
            refine wD_g rfl (wD_mov (v := .bool false) rfl ?_)
            refine wD_gs rfl ?_
            refine wD_gs rfl ?_
            refine wD_gs rfl ?_
            refine wD_gs rfl ?_
            refine wD_gs rfl ?_
            refine wD_gs rfl ?_
            refine wD_gs rfl ?_
            refine wD_gs rfl ?_
            refine wD_gs rfl ?_
            refine wD_gs rfl ?_
            refine wD_g rfl (wD_pur (v := .bool false) rfl rfl ?_)
            refine wD_pur (v := .bool false) rfl rfl ?_
            refine wD_end (by repeat' first | exact True.intro | exact (fun h => h) | refine And.intro ?_ ?_ | (intro h; have h : (_ : Nat) = _ := h; omega)) ?_
            refine condF ?_
            refine And.intro ⟨by omega, by omega⟩ ?_
            have hst2 : setB a (a + b) us = setB (x + 1) (a + b) (us.drop (i + 1)) := by rw [hst, decide_eq_true (by omega), decide_eq_true (by omega)]; rfl
            refine ⟨k - 1, i + 1, by omega, ⟨by omega, kb, ?_, fun j hj => ?_⟩, rfl, rfl, rfl, rfl, trivial⟩
            · rw [hst2, if_neg (by omega), Nat.add_sub_cancel, hxd]
            · rcases Nat.lt_or_ge j i with q | q
              · exact hin j q
              · have : j = i := by omega
                subst this; rw [hxd]; omega
          · have g2 : (i : Int) > 0 := of_decide_eq_true g2
            refine wD_g rfl (wD_mov (v := .bool true) rfl ?_)
            have hpos : 0 < i := by omega
            refine wD_g rfl (wD_mov (v := .slice (some ⟨lb, 0, none⟩) n cap) rfl ?_)
            refine wD_g rfl (wD_mov (v := iv (i : Int)) rfl ?_)
            refine wD_g rfl (wD_idx (b := lb) (o := 0) (k := i) (j := (i : Int)) rfl rfl rfl hi ?_)
            refine wD_g rfl (wD_ld (b := lb) (o := 0 + i * 1) (v := iv x) rfl hld (ints_at hx) ?_)
            refine wD_g rfl (wD_mov (v := .slice (some ⟨lb, 0, none⟩) n cap) rfl ?_)
            refine wD_g rfl (wD_mov (v := iv (i : Int)) rfl ?_)
            refine wD_g rfl (wD_sub (a := (i : Int)) (b := 1) rfl rfl ⟨by omega, by omega⟩ ?_)
            refine wD_g rfl (wD_idx (b := lb) (o := 0) (k := i - 1) (j := (i : Int) - 1) rfl rfl (by omega) (by omega) ?_)
            refine wD_g rfl (wD_ld (b := lb) (o := 0 + (i - 1) * 1) (v := iv p) rfl hld (ints_at (hpx hpos)) ?_)
            refine wD_g rfl (wD_b_leq (a := x) (b := p) rfl rfl ?_)
            intro t3 g3; cases t3
            · have g3 : ¬ (x ≤ p) := of_decide_eq_false g3
              refine wD_g rfl (wD_pur (v := .bool false) rfl rfl ?_)
              refine wD_pur (v := .bool false) rfl rfl ?_
              refine wD_end (by repeat' first | exact True.intro | exact (fun h => h) | refine And.intro ?_ ?_ | (intro h; have h : (_ : Nat) = _ := h; omega)) ?_
              refine condF ?_
              refine And.intro ⟨by omega, by omega⟩ ?_
              have hst2 : setB a (a + b) us = setB (x + 1) (a + b) (us.drop (i + 1)) := by rw [hst, decide_eq_true (by omega), decide_eq_true (by omega)]; rfl
              refine ⟨k - 1, i + 1, by omega, ⟨by omega, kb, ?_, fun j hj => ?_⟩, rfl, rfl, rfl, rfl, trivial⟩
              · rw [hst2, if_neg (by omega), Nat.add_sub_cancel, hxd]
              · rcases Nat.lt_or_ge j i with q | q
                · exact hin j q
                · have : j = i := by omega
                  subst this; rw [hxd]; omega
            · have g3 : x ≤ p := of_decide_eq_true g3
              refine wD_g rfl (wD_pur (v := .bool true) rfl rfl ?_)
              refine wD_pur (v := .bool true) rfl rfl ?_
              refine wD_end (by repeat' first | exact True.intro | exact (fun h => h) | refine And.intro ?_ ?_ | (intro h; have h : (_ : Nat) = _ := h; omega)) ?_
              refine condT ?_
              have e : (flB g a b && setB a (a + b) us) = false := by
                rw [hfl, hst, Bool.true_and]
                have q : ¬ ((if i = 0 then a else p + 1) ≤ x ∧ x < a + b) := by split <;> omega
                rw [← Bool.decide_and, decide_eq_false q]; rfl
              exact And.intro trivial (Exists.intro _ (And.intro rfl ⟨by rw [e]; rfl, hk⟩))
      · have q1 : ¬ ((i : Int) < (n : Int)) := of_decide_eq_false q1
        have e1 : i = n := by omega
        subst e1
        rw [List.drop_eq_nil_of_le (by omega)] at hset
        have e : (flB g a b && setB a (a + b) us) = true := by rw [hfl, hset]; rfl
        exact And.intro trivial (Exists.intro _ (And.intro rfl ⟨by rw [e]; rfl, hk⟩))
end
end Go.Ax
/-
  Late: what is true of a flood, by remainders (35) (written by program).
-/
namespace Go.Ax
open Go Go.RowKit Go.Proofs

theorem se27 : sliceElem Try.prog 27 = some (3, 1) := by kernel_rfl
theorem z3 : zeroOf Try.prog 3 = some (.int .i64 0) := by kernel_rfl
theorem u27 : Try.prog.underlying 27 = some (.slice 3) := by kernel_rfl
/-- the oxygen behind the first fresh days of a list that are looked at -/
def Lt.nowF (g : Lt) (bs : List Nat) (us : List Int) (s k j : Nat) : Int := bif (us.take j).contains ((s + k : Nat) : Int) then inn g.g1 g.g2 (remAt bs (s + k + 1)) else g.tn bs s (Nat.testBit (dayMask us)) k
theorem nowF_hit {g : Lt} {bs : List Nat} {us : List Int} {s k j : Nat} {x : Int} (hx : us[j]? = some x) (h : x = ((s + k : Nat) : Int)) : g.nowF bs us s k (j + 1) = inn g.g1 g.g2 (remAt bs (s + k + 1)) := by
  unfold Lt.nowF
  rw [List.take_add_one, hx]
  have : (us.take j ++ (some x).toList).contains ((s + k : Nat) : Int) = true := by
    rw [List.contains_iff_mem]; rw [← h]; simp
  rw [this]; rfl
theorem nowF_miss {g : Lt} {bs : List Nat} {us : List Int} {s k j : Nat} {x : Int} (hx : us[j]? = some x) (h : ¬ x = ((s + k : Nat) : Int)) : g.nowF bs us s k (j + 1) = g.nowF bs us s k j := by
  unfold Lt.nowF
  rw [List.take_add_one, hx]
  have : (us.take j ++ (some x).toList).contains ((s + k : Nat) : Int) = (us.take j).contains ((s + k : Nat) : Int) := by
    rw [Bool.eq_iff_iff, List.contains_iff_mem, List.contains_iff_mem, List.mem_append]
    constructor
    · rintro (q | q)
      · exact q
      · simp at q; exact absurd q.symm h
    · exact fun q => .inl q
  rw [this]
theorem nowF_in {g : Lt} (v : g.Vd) {bs : List Nat} {us : List Int} {s k j : Nat} (h : s + k ≤ g.wn) : 0 ≤ g.nowF bs us s k j ∧ g.nowF bs us s k j ≤ g.full := by
  have h1 := Lt.tn_in (us := bs) (F := (Nat.testBit (dayMask us))) v k h
  have h2 := Lt.lo_in (s := s) (F := (Nat.testBit (dayMask us))) v k
  have h3 := Lt.hi_in (s := s) (F := (Nat.testBit (dayMask us))) v k
  have h4 := inn_in (m := remAt bs (s + k + 1)) v.gr.2.1
  have := v.gr
  unfold Lt.nowF
  cases (us.take j).contains ((s + k : Nat) : Int) <;> simp only [cond_true, cond_false] <;> omega
theorem tn_next {g : Lt} {bs : List Nat} {us : List Int} {s k n : Nat} (hF : ∀ i : Nat, (dayMask us).testBit i = us.contains (i : Int)) (hn : us.length = n) : max 0 (min g.full (g.nowF bs us s k n + (inn (g.A (s + k)).1 (g.A (s + k)).2 (remAt bs (s + k + 2)) - g.tu bs (s + k)))) = g.tn bs s (Nat.testBit (dayMask us)) (k + 1) := by
  rw [Lt.tn]
  unfold Lt.nowF
  rw [List.take_of_length_le (by omega), ← hF]
section
variable {kn : FuncId → Option Bool} {lo : Nat} {H : Hp}
theorem live_ok {g : Lt} (v : g.Vd) {s d : Nat} (hsd : s + d ≤ g.wn) {la : Option Addr} {n cap yb ycap : Nat} {us : List Int} {bs : List Nat} (hw : Sl H g.wa g.wn g.wcap (spc g.ws)) (ha : Sl H g.aa g.an g.acap (spc g.as)) (hl : Sl H la n cap (ints us)) (hul : us.length = n) (hn : n ≤ 1000)
    (hy : Rd H yb (u32s bs)) (hu0 : 0 < bs.length) (hu2 : bs.length ≤ 9223372036854775807) (hus : ∀ n ∈ bs, n ≤ 4294967295) (hF : ∀ i : Nat, (dayMask us).testBit i = us.contains (i : Int)) (hlo : lo ≤ H.next) :
    ∃ w H', FnX Try.prog kn lo 35 [.agg g.v.toArray, iv (s : Int), iv (d : Int), .slice la n cap, slv yb bs.length ycap] H w H' ∧ Keep H H' [] ∧ ∃ ta tc, w = .tuple #[.slice ta d tc, iv (g.ts bs s d)] ∧ Sl H' ta d tc (ints ((List.range d).map (fun k => g.tn bs s (Nat.testBit (dayMask us)) (k + 1)))) := by
  refine fnX_low (kn := kn) (lo := lo) (H := H) (args := [.agg g.v.toArray, iv (s : Int), iv (d : Int), .slice la n cap, slv yb bs.length ycap]) (Q := fun w H' => Keep H H' [] ∧ ∃ ta tc, w = .tuple #[.slice ta d tc, iv (g.ts bs s d)] ∧ Sl H' ta d tc (ints ((List.range d).map (fun k => g.tn bs s (Nat.testBit (dayMask us)) (k + 1))))) Try.func35 B35 N35 Z35 L35 (by simp) ?_
  have hk := Keep.refl H []
  have fw := hw.old; have fa := ha.old; have fl := hl.old; have lty := hy.lt
  have hfu := v.fu; have hr := v.r; have hf1 := v.f; have hgr := v.gr; have hnn := v.n; have hn40 := v.n40; have hb := v.b
  intro H1 hH1; obtain ⟨kH1, nH1, c1⟩ := new_facts hH1; clear hH1
  have mH1 := kH1.1
  have hk := hk.trans kH1
  have hy := kH1.rd hy (by simp)
  have hw := kH1.sl0 hw
  have ha := kH1.sl0 ha
  have hl := kH1.sl0 hl
  have c1 : Cl H1 H.next [.slice g.wa g.wn g.wcap, .slice g.aa g.an g.acap, iv g.r1, iv g.r2, iv g.f1, iv g.f2, iv g.g1, iv g.g2, iv g.full, iv g.base, iv g.kill, iv g.need, iv g.bear] := c1
  refine wD_seq ?_
  refine wD_addo (b := H.next) (o := 0) rfl ?_
  refine wD_lda (b := H.next) (o := 4) rfl c1.rd (show row 2 _ _ = some [iv g.f1, iv g.f2] from rfl) ?_
  refine wD_mov (v := .slice (some ⟨yb, 0, none⟩) bs.length ycap) rfl ?_
  refine wD_idx (b := yb) (o := 0) (k := 0) (j := 0) rfl rfl rfl hu0 ?_
  refine wD_ld (b := yb) (o := 0 + 0 * 1) (v := .int .u32 ((bs.getD (0) 0 : Nat) : Int)) rfl hy (u32_get hu0) ?_
  obtain ⟨H2, fH2, kH2⟩ := inner_ok (kn := kn) (lo := lo) (H := H1) (l := g.f1) (h := g.f2) (x := bs.getD (0) 0) ⟨by omega, by omega, by omega⟩ (u32_le hus _)
  have eH2 : inn (g.f1) (g.f2) ((bs.getD (0) 0 : Nat) : Int) = g.tn bs s (Nat.testBit (dayMask us)) 0 := rfl
  rw [eH2] at fH2
  refine wD_callf (vs := [spv g.f1 g.f2, .int .u32 ((bs.getD (0) 0 : Nat) : Int)]) rfl (callX_args fH2) ?_
  have mH2 := kH2.1
  have hk := hk.trans kH2
  have hy := kH2.rd hy (by simp)
  have hw := kH2.sl0 hw
  have ha := kH2.sl0 ha
  have hl := kH2.sl0 hl
  have c1 := kH2.cl c1 (by simp)
  refine wD_mov (v := iv (g.tn bs s (Nat.testBit (dayMask us)) 0)) rfl ?_
  refine wD_mov (v := iv 0) rfl ?_
  refine wD_end (by repeat' first | exact True.intro | exact (fun h => h) | refine And.intro ?_ ?_ | (intro h; have h : (_ : Nat) = _ := h; omega)) ?_
  refine loop_low (fn := Try.f35) E35_1 N35 L35x1 (fun x : Value × Nat => [(1, iv (s : Int)), (2, iv (d : Int)), (3, .slice la n cap), (4, .slice (some ⟨yb, 0, none⟩) bs.length ycap), (5, pt H.next), (12, x.1), (13, iv (g.tn bs s (Nat.testBit (dayMask us)) x.2)), (14, iv (g.ts bs s x.2)), (15, iv ((s + x.2 : Nat) : Int))])
    (fun q x H' => x.2 + q = d ∧ Keep H2 H' [] ∧ Acc lo H2.next 3 H' x.1 x.2 (ints ((List.range x.2).map (fun k => g.tn bs s (Nat.testBit (dayMask us)) (k + 1))))) d (.slice none 0 0, 0) ⟨by omega, Keep.refl _ _, .inl ⟨rfl, rfl, rfl⟩⟩ ⟨rfl, rfl, rfl, rfl, rfl, rfl, rfl, rfl, rfl, trivial⟩ ?_
  rintro q ⟨wv, k⟩ L1 ⟨hik, hki, hacc⟩
  have hk := hk.trans hki
  have hy := hki.rd hy (by simp)
  have hw := hki.sl0 hw
  have ha := hki.sl0 ha
  have hl := hki.sl0 hl
  have c1 := hki.cl c1 (by simp)
  simp only at hik hacc
  have hm := hki.1
  have ki := Keep.refl L1 []
  have kb := hki
  refine And.intro (show InR ((s : Int) + (d : Int)) from ⟨by omega, by omega⟩) ?_
  refine And.intro (fun q1 => ?_) (fun q1 => ?_)
  · have q1 : ((s + k : Nat) : Int) < ((s : Int) + (d : Int)) := of_decide_eq_true q1
    have hkd : k < d := by omega
    have hsw : s + k < g.wn := by omega
    have hsa : s + k < g.an := by omega
    have hW := Lt.W_in v hsw; have hA := Lt.A_in v hsw; have hfr := v.gr
    have htw := Lt.tw_in (us := bs) v hsw; have htu := Lt.tu_ends (us := bs) v hsw; have htui := Lt.tu_in (us := bs) v hsw
    have hts := Lt.ts_in (us := bs) (s := s) v k (by omega); have hwl := Lt.wl_in (s := s) v k (by omega)
    have hai := inn_in (m := remAt bs (s + k + 2)) hA.2.2.1
    have m1 := mul_rng (a := g.r1) (b := g.tw bs (s + k)) (p := 1000) (q := 5000) ⟨by omega, by omega⟩ ⟨by omega, by omega⟩
    have m2 := mul_rng (a := g.r2) (b := g.tw bs (s + k)) (p := 1000) (q := 5000) ⟨by omega, by omega⟩ ⟨by omega, by omega⟩
    have m3 := mul_rng (a := g.r1) (b := (g.W (s + k)).1) (p := 1000) (q := 5000) ⟨by omega, by omega⟩ ⟨by omega, by omega⟩
    have m4 := mul_rng (a := g.r2) (b := (g.W (s + k)).2) (p := 1000) (q := 5000) ⟨by omega, by omega⟩ ⟨by omega, by omega⟩
    rcases hw with ⟨_, h0, _⟩ | ⟨wb, ewa, hwd, _⟩
    · omega
    rcases ha with ⟨_, h0, _⟩ | ⟨ab, eaa, had, _⟩
    · omega
    have lwb := fw wb ewa; have lab := fa ab eaa
    refine wD_seq ?_
    refine wD_addo (b := H.next) (o := 0) rfl ?_
    refine wD_ld (b := H.next) (o := 0) (v := .slice (some ⟨wb, 0, none⟩) g.wn g.wcap) rfl c1.rd (show _ = some (Value.slice (some ⟨wb, 0, none⟩) g.wn g.wcap) from by rw [← ewa]; rfl) ?_
    refine wD_mov (v := iv ((s + k : Nat) : Int)) rfl ?_
    refine wD_idx (b := wb) (o := 0) (k := (s + k)) (j := ((s + k : Nat) : Int)) rfl rfl rfl hsw ?_
    refine wD_lda (b := wb) (o := 0 + (s + k) * 2) rfl hwd (spc_row hW.1) ?_
    refine wD_mov (v := .slice (some ⟨yb, 0, none⟩) bs.length ycap) rfl ?_
    refine wD_mov (v := iv ((s + k : Nat) : Int)) rfl ?_
    refine wD_mov (v := .slice (some ⟨yb, 0, none⟩) bs.length ycap) rfl ?_
    refine wD_len (m := bs.length) rfl ?_
    refine wD_rem (a := ((s + k : Nat) : Int)) (b := (bs.length : Int)) rfl rfl (by omega) (by omega) ⟨by omega, by omega⟩ ⟨by omega, by omega⟩ ?_
    refine wD_idx (b := yb) (o := 0) (k := ((s + k) % bs.length)) (j := ((s + k : Nat) : Int) % (bs.length : Int)) rfl rfl (Int.natCast_emod (s + k) bs.length).symm (Nat.mod_lt _ hu0) ?_
    refine wD_ld (b := yb) (o := 0 + ((s + k) % bs.length) * 1) (v := .int .u32 ((bs.getD (((s + k) % bs.length)) 0 : Nat) : Int)) rfl hy (u32_get (Nat.mod_lt _ hu0)) ?_
    obtain ⟨H3, fH3, kH3⟩ := inner_ok (kn := kn) (lo := lo) (H := L1) (l := (g.W (s + k)).1) (h := (g.W (s + k)).2) (x := bs.getD (((s + k) % bs.length)) 0) ⟨by omega, by omega, by omega⟩ (u32_le hus _)
    have eH3 : inn ((g.W (s + k)).1) ((g.W (s + k)).2) ((bs.getD (((s + k) % bs.length)) 0 : Nat) : Int) = g.tw bs (s + k) := rfl
    rw [eH3] at fH3
    refine wD_callf (vs := [spv ((g.W (s + k)).1) ((g.W (s + k)).2), .int .u32 ((bs.getD (((s + k) % bs.length)) 0 : Nat) : Int)]) rfl (callX_args fH3) ?_
    have mH3 := kH3.1
    have hk := hk.trans kH3
    have hy := kH3.rd hy (by simp)
    have hl := kH3.sl0 hl
    have c1 := kH3.cl c1 (by simp)
    have ki := ki.trans kH3
    have kb := kb.trans kH3
    have hwd := kH3.rd hwd (by simp)
    have had := kH3.rd had (by simp)
    refine wD_mov (v := iv (g.tw bs (s + k))) rfl ?_
    refine wD_end (by repeat' first | exact True.intro | exact (fun h => h) | refine And.intro ?_ ?_ | (intro h; have h : (_ : Nat) = _ := h; omega)) ?_
    refine Exists.intro _ (Exists.intro _ (And.intro c1.of (And.intro (show _ = some (iv g.base) from rfl) ?_)))
    refine And.intro (show InR ((g.tw bs (s + k)) - g.base) from ⟨by omega, by omega⟩) ?_
    refine And.intro (show InR ((g.ts bs s k) + (max 0 ((g.tw bs (s + k)) - g.base))) from ⟨by omega, by omega⟩) ?_
    have hn0 : g.nowF bs us s k 0 = g.tn bs s (Nat.testBit (dayMask us)) k := by unfold Lt.nowF; simp
    refine loop_low (fn := Try.f35) E35_2 N35 L35x2 (fun j : Nat => [(1, iv (s : Int)), (2, iv (d : Int)), (3, .slice la n cap), (4, .slice (some ⟨yb, 0, none⟩) bs.length ycap), (5, pt H.next), (12, wv), (13, iv (g.nowF bs us s k j)), (14, iv ((g.ts bs s k) + (max 0 ((g.tw bs (s + k)) - g.base)))), (15, iv ((s + k : Nat) : Int)), (16, iv (g.tw bs (s + k))), (54, .slice la n cap), (55, iv (n : Int)), (56, iv (j : Int))])
      (fun p j H' => j + p = n ∧ Keep H3 H' []) n 0 ⟨by omega, Keep.refl _ _⟩ ⟨rfl, rfl, rfl, rfl, rfl, rfl, by rw [hn0]; rfl, rfl, rfl, rfl, rfl, rfl, rfl, trivial⟩ ?_
    rintro p j L2 ⟨hjp, hki2⟩
    have hk := hk.trans hki2
    have hy := hki2.rd hy (by simp)
    have hl := hki2.sl0 hl
    have c1 := hki2.cl c1 (by simp)
    have ki := ki.trans hki2
    have kb := kb.trans hki2
    have hwd := hki2.rd hwd (by simp)
    have had := hki2.rd had (by simp)
    have hnw := nowF_in v (bs := bs) (us := us) (j := j) (show s + k ≤ g.wn by omega)
    have hmm := hki2.1
    have kc := hki2
    refine And.intro (fun q2 => ?_) (fun q2 => ?_)
    · have q2 : (j : Int) < (n : Int) := of_decide_eq_true q2
      have hj : j < n := by omega
      obtain ⟨x, hx⟩ := get_some (l := us) (i := j) (by omega)
      rcases hl with ⟨_, h0, _⟩ | ⟨lb, rfl, hld, _⟩
      · omega
      refine Exists.intro j (And.intro rfl (And.intro hj ?_))
      refine Exists.intro _ (Exists.intro _ (And.intro hld.of (And.intro (ints_at hx) ?_)))
      refine And.intro (fun q3 => ?_) (fun q3 => ?_)
      · have q3 : x = ((s + k : Nat) : Int) := by simpa using q3
        have hxe := q3
        refine wD_dreg ?_
        refine wD_addo (b := H.next) (o := 0) rfl ?_
        refine wD_lda (b := H.next) (o := 6) rfl c1.rd (show row 2 _ _ = some [iv g.g1, iv g.g2] from rfl) ?_
        refine wD_mov (v := .slice (some ⟨yb, 0, none⟩) bs.length ycap) rfl ?_
        refine wD_mov (v := iv ((s + k : Nat) : Int)) rfl ?_
        refine wD_add (a := ((s + k : Nat) : Int)) (b := 1) rfl rfl ⟨by omega, by omega⟩ ?_
        refine wD_mov (v := .slice (some ⟨yb, 0, none⟩) bs.length ycap) rfl ?_
        refine wD_len (m := bs.length) rfl ?_
        refine wD_rem (a := ((s + k : Nat) : Int) + 1) (b := (bs.length : Int)) rfl rfl (by omega) (by omega) ⟨by omega, by omega⟩ ⟨by omega, by omega⟩ ?_
        refine wD_idx (b := yb) (o := 0) (k := ((s + k + 1) % bs.length)) (j := (((s + k : Nat) : Int) + 1) % (bs.length : Int)) rfl rfl (by rw [Int.natCast_emod]; rfl) (Nat.mod_lt _ hu0) ?_
        refine wD_ld (b := yb) (o := 0 + ((s + k + 1) % bs.length) * 1) (v := .int .u32 ((bs.getD (((s + k + 1) % bs.length)) 0 : Nat) : Int)) rfl hy (u32_get (Nat.mod_lt _ hu0)) ?_
        obtain ⟨H4, fH4, kH4⟩ := inner_ok (kn := kn) (lo := lo) (H := L2) (l := g.g1) (h := g.g2) (x := bs.getD (((s + k + 1) % bs.length)) 0) ⟨by omega, by omega, by omega⟩ (u32_le hus _)
        have eH4 : inn (g.g1) (g.g2) ((bs.getD (((s + k + 1) % bs.length)) 0 : Nat) : Int) = inn g.g1 g.g2 (remAt bs (s + k + 1)) := rfl
        rw [eH4] at fH4
        refine wD_callf (vs := [spv g.g1 g.g2, .int .u32 ((bs.getD (((s + k + 1) % bs.length)) 0 : Nat) : Int)]) rfl (callX_args fH4) ?_
        have mH4 := kH4.1
        have hk := hk.trans kH4
        have hy := kH4.rd hy (by simp)
        have c1 := kH4.cl c1 (by simp)
        have ki := ki.trans kH4
        have kb := kb.trans kH4
        have hwd := kH4.rd hwd (by simp)
        have had := kH4.rd had (by simp)
        have kc := kc.trans kH4
        have hld := kH4.rd hld (by simp)
        refine wD_mov (v := iv (inn g.g1 g.g2 (remAt bs (s + k + 1)))) rfl ?_
        refine wD_end (by repeat' first | exact True.intro | exact (fun h => h) | refine And.intro ?_ ?_ | (intro h; have h : (_ : Nat) = _ := h; omega)) ?_
        refine And.intro (show InR ((j : Int) + 1) from ⟨by omega, by omega⟩) ?_
        exact ⟨p - 1, j + 1, by omega, ⟨by omega, kc⟩, rfl, rfl, rfl, rfl, rfl, rfl, by rw [nowF_hit hx hxe]; rfl, rfl, rfl, rfl, rfl, rfl, rfl, trivial⟩
      · have q3 : ¬ (x = ((s + k : Nat) : Int)) := by simpa using q3
        have hxe := q3
        refine And.intro (show InR ((j : Int) + 1) from ⟨by omega, by omega⟩) ?_
        exact ⟨p - 1, j + 1, by omega, ⟨by omega, kc⟩, rfl, rfl, rfl, rfl, rfl, rfl, by rw [nowF_miss hx hxe]; rfl, rfl, rfl, rfl, rfl, rfl, rfl, trivial⟩
    · have q2 : ¬ ((j : Int) < (n : Int)) := of_decide_eq_false q2
      have hjn : j = n := by omega
      subst hjn
      refine Exists.intro _ (Exists.intro _ (And.intro c1.of (And.intro (show _ = some (iv g.r1) from rfl) ?_)))
      refine And.intro (show InR (g.r1 * (g.tw bs (s + k))) from ⟨by omega, by omega⟩) ?_
      refine And.intro (by omega) (And.intro (by omega) (And.intro ⟨by omega, by omega⟩ ?_))
      refine Exists.intro _ (Exists.intro _ (And.intro c1.of (And.intro (show _ = some (iv g.r2) from rfl) ?_)))
      refine And.intro (show InR (g.r2 * (g.tw bs (s + k))) from ⟨by omega, by omega⟩) ?_
      refine And.intro (show InR ((g.r2 * (g.tw bs (s + k))) + 99) from ⟨by omega, by omega⟩) ?_
      refine And.intro (by omega) (And.intro (by omega) (And.intro ⟨by omega, by omega⟩ ?_))
      refine And.intro rfl (Exists.intro (.agg #[iv ((g.r1 * (g.tw bs (s + k))) / 100), iv (((g.r2 * (g.tw bs (s + k))) + 99) / 100)]) (And.intro (by kernel_rfl) ?_))
      intro H5 hH5; obtain ⟨kH5, nH5, c5⟩ := new_facts hH5; clear hH5
      have c5 : Cl H5 L2.next [iv 0, iv 0] := c5
      have mH5 := kH5.1
      have hk := hk.trans kH5
      have hy := kH5.rd hy (by simp)
      have hl := kH5.sl0 hl
      have c1 := kH5.cl c1 (by simp)
      have ki := ki.trans kH5
      have kb := kb.trans kH5
      have hwd := kH5.rd hwd (by simp)
      have had := kH5.rd had (by simp)
      obtain ⟨_, eH6, lH6, gH6⟩ := id c5
      refine Exists.intro _ (Exists.intro _ (Exists.intro _ (And.intro gH6 (And.intro (by omega) (And.intro rfl (And.intro rfl (And.intro (by simp) ?_)))))))
      intro H6 hH6; obtain ⟨kH6, nH6, sH6⟩ := up_facts c5 hH6; clear hH6
      have mH6 := kH6.1
      have hk := hk.new kH6 (fun b hb => by simp at hb ⊢; omega)
      have hy := kH6.rd hy (by first | (simp; done) | (simp; omega))
      have hl := kH6.sl hl (fun b e => by have := fl b e; first | (simp; done) | (simp; omega))
      have c1 := kH6.cl c1 (by first | (simp; done) | (simp; omega))
      have ki := ki.new kH6 (fun b hb => by simp at hb ⊢; omega)
      have kb := kb.new kH6 (fun b hb => by simp at hb ⊢; omega)
      have hwd := kH6.rd hwd (by first | (simp; done) | (simp; omega))
      have had := kH6.rd had (by first | (simp; done) | (simp; omega))
      have c5 : Cl H6 L2.next [iv ((g.r1 * (g.tw bs (s + k))) / 100), iv (((g.r2 * (g.tw bs (s + k))) + 99) / 100)] := sH6
      refine wD_seq ?_
      refine wD_mov (v := iv (g.nowF bs us s k j)) rfl ?_
      refine wD_addo (b := H.next) (o := 0) rfl ?_
      refine wD_ld (b := H.next) (o := 1) (v := .slice (some ⟨ab, 0, none⟩) g.an g.acap) rfl c1.rd (show _ = some (Value.slice (some ⟨ab, 0, none⟩) g.an g.acap) from by rw [← eaa]; rfl) ?_
      refine wD_mov (v := iv ((s + k : Nat) : Int)) rfl ?_
      refine wD_idx (b := ab) (o := 0) (k := (s + k)) (j := ((s + k : Nat) : Int)) rfl rfl rfl hsa ?_
      refine wD_lda (b := ab) (o := 0 + (s + k) * 2) rfl had (spc_row hA.1) ?_
      refine wD_mov (v := .slice (some ⟨yb, 0, none⟩) bs.length ycap) rfl ?_
      refine wD_mov (v := iv ((s + k : Nat) : Int)) rfl ?_
      refine wD_add (a := ((s + k : Nat) : Int)) (b := 2) rfl rfl ⟨by omega, by omega⟩ ?_
      refine wD_mov (v := .slice (some ⟨yb, 0, none⟩) bs.length ycap) rfl ?_
      refine wD_len (m := bs.length) rfl ?_
      refine wD_rem (a := ((s + k : Nat) : Int) + 2) (b := (bs.length : Int)) rfl rfl (by omega) (by omega) ⟨by omega, by omega⟩ ⟨by omega, by omega⟩ ?_
      refine wD_idx (b := yb) (o := 0) (k := ((s + k + 2) % bs.length)) (j := (((s + k : Nat) : Int) + 2) % (bs.length : Int)) rfl rfl (by rw [Int.natCast_emod]; rfl) (Nat.mod_lt _ hu0) ?_
      refine wD_ld (b := yb) (o := 0 + ((s + k + 2) % bs.length) * 1) (v := .int .u32 ((bs.getD (((s + k + 2) % bs.length)) 0 : Nat) : Int)) rfl hy (u32_get (Nat.mod_lt _ hu0)) ?_
      obtain ⟨H7, fH7, kH7⟩ := inner_ok (kn := kn) (lo := H6.next) (H := H6) (l := (g.A (s + k)).1) (h := (g.A (s + k)).2) (x := bs.getD (((s + k + 2) % bs.length)) 0) ⟨by omega, by omega, by omega⟩ (u32_le hus _)
      have eH7 : inn ((g.A (s + k)).1) ((g.A (s + k)).2) ((bs.getD (((s + k + 2) % bs.length)) 0 : Nat) : Int) = inn (g.A (s + k)).1 (g.A (s + k)).2 (remAt bs (s + k + 2)) := rfl
      rw [eH7] at fH7
      refine wD_callh (vs := [spv ((g.A (s + k)).1) ((g.A (s + k)).2), .int .u32 ((bs.getD (((s + k + 2) % bs.length)) 0 : Nat) : Int)]) rfl (by kernel_rfl) (callX_args fH7) ?_
      have mH7 := kH7.1
      have hk := hk.trans kH7
      have hy := kH7.rd hy (by simp)
      have hl := kH7.sl0 hl
      have c1 := kH7.cl c1 (by simp)
      have ki := ki.trans kH7
      have kb := kb.trans kH7
      have hwd := kH7.rd hwd (by simp)
      have had := kH7.rd had (by simp)
      have c5 := kH7.cl c5 (by simp)
      refine wD_lda (b := L2.next) (o := 0) rfl c5.rd (show row 2 _ _ = some [iv ((g.r1 * (g.tw bs (s + k))) / 100), iv (((g.r2 * (g.tw bs (s + k))) + 99) / 100)] from rfl) ?_
      refine wD_mov (v := .slice (some ⟨yb, 0, none⟩) bs.length ycap) rfl ?_
      refine wD_mov (v := iv ((s + k : Nat) : Int)) rfl ?_
      refine wD_add (a := ((s + k : Nat) : Int)) (b := 3) rfl rfl ⟨by omega, by omega⟩ ?_
      refine wD_mov (v := .slice (some ⟨yb, 0, none⟩) bs.length ycap) rfl ?_
      refine wD_len (m := bs.length) rfl ?_
      refine wD_rem (a := ((s + k : Nat) : Int) + 3) (b := (bs.length : Int)) rfl rfl (by omega) (by omega) ⟨by omega, by omega⟩ ⟨by omega, by omega⟩ ?_
      refine wD_idx (b := yb) (o := 0) (k := ((s + k + 3) % bs.length)) (j := (((s + k : Nat) : Int) + 3) % (bs.length : Int)) rfl rfl (by rw [Int.natCast_emod]; rfl) (Nat.mod_lt _ hu0) ?_
      refine wD_ld (b := yb) (o := 0 + ((s + k + 3) % bs.length) * 1) (v := .int .u32 ((bs.getD (((s + k + 3) % bs.length)) 0 : Nat) : Int)) rfl hy (u32_get (Nat.mod_lt _ hu0)) ?_
      obtain ⟨H8, fH8, kH8⟩ := inner_ok (kn := kn) (lo := lo) (H := H7) (l := (g.r1 * (g.tw bs (s + k))) / 100) (h := ((g.r2 * (g.tw bs (s + k))) + 99) / 100) (x := bs.getD (((s + k + 3) % bs.length)) 0) ⟨by omega, by omega, by omega⟩ (u32_le hus _)
      have eH8 : inn ((g.r1 * (g.tw bs (s + k))) / 100) (((g.r2 * (g.tw bs (s + k))) + 99) / 100) ((bs.getD (((s + k + 3) % bs.length)) 0 : Nat) : Int) = g.tu bs (s + k) := rfl
      rw [eH8] at fH8
      refine wD_callf (vs := [spv ((g.r1 * (g.tw bs (s + k))) / 100) (((g.r2 * (g.tw bs (s + k))) + 99) / 100), .int .u32 ((bs.getD (((s + k + 3) % bs.length)) 0 : Nat) : Int)]) rfl (callX_args fH8) ?_
      have mH8 := kH8.1
      have hk := hk.trans kH8
      have hy := kH8.rd hy (by simp)
      have hl := kH8.sl0 hl
      have c1 := kH8.cl c1 (by simp)
      have ki := ki.trans kH8
      have kb := kb.trans kH8
      have hwd := kH8.rd hwd (by simp)
      have had := kH8.rd had (by simp)
      have c5 := kH8.cl c5 (by simp)
      refine wD_sub (a := inn (g.A (s + k)).1 (g.A (s + k)).2 (remAt bs (s + k + 2))) (b := g.tu bs (s + k)) rfl rfl ⟨by omega, by omega⟩ ?_
      refine wD_add (a := g.nowF bs us s k j) (b := (inn (g.A (s + k)).1 (g.A (s + k)).2 (remAt bs (s + k + 2))) - (g.tu bs (s + k))) rfl rfl ⟨by omega, by omega⟩ ?_
      refine wD_mov (v := iv ((g.nowF bs us s k j) + ((inn (g.A (s + k)).1 (g.A (s + k)).2 (remAt bs (s + k + 2))) - (g.tu bs (s + k))))) rfl ?_
      refine wD_end (by repeat' first | exact True.intro | exact (fun h => h) | refine And.intro ?_ ?_ | (intro h; have h : (_ : Nat) = _ := h; omega)) ?_
      refine Exists.intro _ (Exists.intro _ (And.intro c1.of (And.intro (show _ = some (iv g.full) from rfl) ?_)))
      obtain ⟨H9, hH9⟩ : ∃ H9, H8.new (.cells [iv (max 0 (min g.full ((g.nowF bs us s k j) + ((inn (g.A (s + k)).1 (g.A (s + k)).2 (remAt bs (s + k + 2))) - (g.tu bs (s + k))))))] 3 false) = H9 := ⟨_, rfl⟩
      refine And.intro rfl (Or.inr (And.intro (by kernel_rfl) (Exists.intro _ (Exists.intro H9 (Exists.intro _ (And.intro ((heap_build1 (v := iv (max 0 (min g.full ((g.nowF bs us s k j) + ((inn (g.A (s + k)).1 (g.A (s + k)).2 (remAt bs (s + k + 2))) - (g.tu bs (s + k))))))) se27 z3 rfl rfl rfl (by decide)).trans (by rw [← hH9]; rfl)) (And.intro (fun b e => by cases e) ?_)))))))
      obtain ⟨kH9, nH9, c9⟩ := new_facts hH9; clear hH9
      have c9 : Cl H9 H8.next [iv (max 0 (min g.full ((g.nowF bs us s k j) + ((inn (g.A (s + k)).1 (g.A (s + k)).2 (remAt bs (s + k + 2))) - (g.tu bs (s + k))))))] := c9
      have mH9 := kH9.1
      have hk := hk.trans kH9
      have hy := kH9.rd hy (by simp)
      have hl := kH9.sl0 hl
      have c1 := kH9.cl c1 (by simp)
      have ki := ki.trans kH9
      have kb := kb.trans kH9
      have hwd := kH9.rd hwd (by simp)
      have had := kH9.rd had (by simp)
      have c5 := kH9.cl c5 (by simp)
      obtain ⟨H10, kdH10, eH10, dH10, aH10, kbH10⟩ := heap_append_below (P := Try.prog) (lo := lo) (k := k) (t1 := 27) se27 u27 (c9.sl (Nat.le_refl 1)) rfl (by decide) rfl (by rw [ints_len]; simp) (by omega) (hacc.keep ki) (by omega) (by omega)
      refine And.intro rfl (Or.inr (And.intro (by cases wv <;> kernel_rfl) (Exists.intro _ (Exists.intro H10 (Exists.intro _ (And.intro (eH10 _ _ _ _ _ _ _ rfl rfl) (And.intro (reg_ok dH10 _) ?_)))))))
      have kb := kbH10.keep kb (by omega)
      have mH10 := kbH10.1
      refine And.intro (show InR (((s + k : Nat) : Int) + 1) from ⟨by omega, by omega⟩) ?_
      have hnx : max 0 (min g.full ((g.nowF bs us s k j) + ((inn (g.A (s + k)).1 (g.A (s + k)).2 (remAt bs (s + k + 2))) - (g.tu bs (s + k))))) = g.tn bs s (Nat.testBit (dayMask us)) (k + 1) := tn_next hF hul
      refine ⟨q - 1, (_, k + 1), by omega, ⟨by show k + 1 + (q - 1) = d; omega, kb, ?_⟩, rfl, rfl, rfl, rfl, rfl, rfl, by rw [← hnx]; rfl, rfl, rfl, trivial⟩
      show Acc _ _ _ _ _ (k + 1) (ints ((List.range (k + 1)).map (fun k => g.tn bs s (Nat.testBit (dayMask us)) (k + 1))))
      have e : ints ((List.range (k + 1)).map (fun k => g.tn bs s (Nat.testBit (dayMask us)) (k + 1))) = ints ((List.range k).map (fun k => g.tn bs s (Nat.testBit (dayMask us)) (k + 1))) ++ [iv (g.tn bs s (Nat.testBit (dayMask us)) (k + 1))] := by rw [List.range_succ]; simp [ints]
      rw [e, ← hnx]; exact aH10
  · have q1 : ¬ (((s + k : Nat) : Int) < ((s : Int) + (d : Int))) := of_decide_eq_false q1
    have hkd : k = d := by omega
    subst hkd
    obtain ⟨ta, tc, rfl, hsl, _⟩ := hacc.sl
    exact And.intro trivial (Exists.intro _ (And.intro rfl ⟨hk, ta, tc, rfl, hsl⟩))
end
end Go.Ax
/-
  Late: the law LateTrue, whatever the input (written by program).
-/
namespace Go.Ax
open Go Go.RowKit Go.Proofs

theorem sure_two {a s : Bool} (h : sureV a s = 2) : a = true := by cases a <;> cases s <;> simp [sureV] at h ⊢
theorem sure_zero {a s : Bool} (h : sureV a s = 0) : s = false := by cases a <;> cases s <;> simp [sureV] at h ⊢
theorem flB_of {g : Lt} {s d : Nat} (h : s + d ≤ g.wn) : flB g s d = true := by
  unfold flB inB
  simp only [Bool.and_eq_true, decide_eq_true_eq]
  omega
theorem Lt.Tl.c0 {g : Lt} {a b : Int} {us : List Int} {w : Value} (h : g.Tl a b us w) (hok : g.ok = false) : w = .tuple #[iv 0, iv 0, iv 1] := by
  rcases h with ⟨_, h⟩ | ⟨h, _⟩ | ⟨h, _⟩
  · exact h
  · rw [hok] at h; cases h
  · rw [hok] at h; cases h
theorem Lt.Tl.c1 {g : Lt} {a b : Int} {us : List Int} {w : Value} (h : g.Tl a b us w) (hok : g.ok = true) (hf : (flB g a b && setB a (a + b) us) = false) : w = .tuple #[iv 0, iv 0, iv 2] := by
  rcases h with ⟨h, _⟩ | ⟨_, _, h⟩ | ⟨_, s, d, rfl, rfl, h1, h2, _⟩
  · rw [hok] at h; cases h
  · exact h
  · rw [flB_of h1, h2] at hf; exact absurd hf (by decide)
theorem Lt.Tl.c2 {g : Lt} {s d : Nat} {us : List Int} {w : Value} (h : g.Tl s d us w) (hok : g.ok = true) (hsd : s + d ≤ g.wn) (hset : setB s (s + d) us = true) : w = .tuple #[iv (sureV (decide (g.wl s d ≥ g.kill)) (decide (g.wh s d ≥ g.kill))), iv (sureV (decide (g.sm s (Nat.testBit (dayMask us)) d > g.bear)) (decide (g.sl s (Nat.testBit (dayMask us)) d > g.bear))), iv 0] := by
  rcases h with ⟨h, _⟩ | ⟨_, h, _⟩ | ⟨_, s', d', e1, e2, _, _, h⟩
  · rw [hok] at h; cases h
  · rw [flB_of hsd, hset] at h; exact absurd h (by decide)
  · obtain rfl : s = s' := by omega
    obtain rfl : d = d' := by omega
    exact h
theorem Lt.Wm.any {g : Lt} {a b : Int} {w : Value} (h : g.Wm a b w) : ∃ p q e : Int, w = .tuple #[spv p q, iv e] := by
  rcases h with ⟨_, h⟩ | ⟨_, _, h⟩ | ⟨_, _, _, _, _, _, h⟩ <;> exact ⟨_, _, _, h⟩
theorem Lt.Wm.c2 {g : Lt} {s d : Nat} {w : Value} (h : g.Wm s d w) (hok : g.ok = true) (hsd : s + d ≤ g.wn) : w = .tuple #[spv (g.wl s d) (g.wh s d), iv 0] := by
  rcases h with ⟨h, _⟩ | ⟨_, h, _⟩ | ⟨_, s', d', e1, e2, _, h⟩
  · rw [hok] at h; cases h
  · rw [flB_of hsd] at h; cases h
  · obtain rfl : s = s' := by omega
    obtain rfl : d = d' := by omega
    exact h
theorem tn_get {n i : Nat} {G : Nat → Int} (h : i < n) : ((List.range n).map G)[i]? = some (G i) := by simp [h]
section
variable {P : Program} {kn : FuncId → Option Bool} {lo n : Nat} {masks : List Nat} {r : List RO} {ks : List Kd} {S : Rg} {H : Hp} {K : Rg → Hp → Prop} {d : Option Nat} {x y : Operand} {a b : Int}
theorem wD_k_geq (t : Bool) (hx : evS S x = some (.int .i64 a)) (hy : evS S y = some (.int .i64 b)) (ht : decide (a ≥ b) = t) (h : wDraw P kn lo n masks r (.pure :: ks) (putS S d (.bool t)) H K) : wDraw P kn lo n masks (⟨d, none, .cmp .geq x y⟩ :: r) ks S H K := by
  simp only [wDraw, wRO, wRI, hx, hy, ht]; exact h
theorem wD_k_gtr (t : Bool) (hx : evS S x = some (.int .i64 a)) (hy : evS S y = some (.int .i64 b)) (ht : decide (a > b) = t) (h : wDraw P kn lo n masks r (.pure :: ks) (putS S d (.bool t)) H K) : wDraw P kn lo n masks (⟨d, none, .cmp .gtr x y⟩ :: r) ks S H K := by
  simp only [wDraw, wRO, wRI, hx, hy, ht]; exact h
end
section
variable {kn : FuncId → Option Bool} {lo : Nat} {H : Hp}
theorem law_true (hkn : kn 14 = some true) (h48 : kn 48 = none) {g : Lt} {a b : Int} {la ya : Option Addr} {n cap ycap : Nat} {us : List Int} {bs : List Nat} (hw : Sl H g.wa g.wn g.wcap (spc g.ws)) (ha : Sl H g.aa g.an g.acap (spc g.as)) (hwl : g.ws.length = g.wn) (hal : g.as.length = g.an) (hl : Sl H la n cap (ints us)) (hul : us.length = n)
    (hy : Sl H ya bs.length ycap (u32s bs)) (hu2 : bs.length ≤ 9223372036854775807) (hus : ∀ n ∈ bs, n ≤ 4294967295) (hlo : lo ≤ H.next) :
    ∃ H', FnX Try.prog kn lo 7 [.agg g.v.toArray, iv a, iv b, .slice la n cap, .slice ya bs.length ycap] H (.bool true) H' := by
  have key := fnX_low (kn := kn) (lo := lo) (H := H) (args := [.agg g.v.toArray, iv a, iv b, .slice la n cap, .slice ya bs.length ycap]) (Q := fun w H' => w = .bool true) Try.func7 B7 N7 Z7 L7 (by simp) ?_
  · obtain ⟨w, H', hf, rfl⟩ := key; exact ⟨H', hf⟩
  have al : ∀ (H9 : Hp) (K : Value → Hp → Prop), K (.bool true) H9 → ∃ v H', CallsX Try.prog kn lo (.fn (.func 14) #[]) [] H9 v H' ∧ K v H' := fun H9 K h => ⟨_, _, callX_known hkn, h⟩
  have hk := Keep.refl H []
  have fw := hw.old; have fa := ha.old; have fl := hl.old; have fy := hy.old
  intro H1 hH1; obtain ⟨kH1, nH1, c1⟩ := new_facts hH1; clear hH1
  have mH1 := kH1.1
  have hk := hk.trans kH1
  have hw := kH1.sl0 hw
  have ha := kH1.sl0 ha
  have hl := kH1.sl0 hl
  have hy := kH1.sl0 hy
  have c1 : Cl H1 H.next [.slice g.wa g.wn g.wcap, .slice g.aa g.an g.acap, iv g.r1, iv g.r2, iv g.f1, iv g.f2, iv g.g1, iv g.g2, iv g.full, iv g.base, iv g.kill, iv g.need, iv g.bear] := c1
  refine Exists.intro _ (Exists.intro _ (And.intro c1.of (And.intro (show row 13 _ _ = some [.slice g.wa g.wn g.wcap, .slice g.aa g.an g.acap, iv g.r1, iv g.r2, iv g.f1, iv g.f2, iv g.g1, iv g.g2, iv g.full, iv g.base, iv g.kill, iv g.need, iv g.bear] from rfl) ?_)))
  refine callB (great_ok) ?_
  intro tH2 H2 hH2 kH2
  have mH2 := kH2.1
  have hk := hk.trans kH2
  have hw := kH2.sl0 hw
  have ha := kH2.sl0 ha
  have hl := kH2.sl0 hl
  have hy := kH2.sl0 hy
  have c1 := kH2.cl c1 (by simp)
  cases tH2
  · have hgr : g.wn ≤ 45 ∧ g.an ≤ 45 ∧ n ≤ 45 := by simp at hH2; omega
    intro t1 g1; cases t1
    · have g1 : ¬ ((bs.length : Int) = 0) := by simpa using g1
      refine And.intro rfl (Exists.intro (.bool false) (And.intro rfl ?_))
      refine condF ?_
      refine Exists.intro _ (Exists.intro _ (And.intro c1.of (And.intro (show row 13 _ _ = some [.slice g.wa g.wn g.wcap, .slice g.aa g.an g.acap, iv g.r1, iv g.r2, iv g.f1, iv g.f2, iv g.g1, iv g.g2, iv g.full, iv g.base, iv g.kill, iv g.need, iv g.bear] from rfl) ?_)))
      obtain ⟨wH3, H3, fH3, kH3, hc⟩ := oxygen_ok (kn := kn) (lo := lo) (H := H2) (g := g) (a := a) (b := b) (us := us) hw ha hwl hal (by omega) (by omega) hl hul (by omega) (by omega)
      have mH3 := kH3.1
      have hk := hk.trans kH3
      have hw := kH3.sl0 hw
      have ha := kH3.sl0 ha
      have hl := kH3.sl0 hl
      have hy := kH3.sl0 hy
      have c1 := kH3.cl c1 (by simp)
      rcases hc with ⟨hok, rfl⟩ | ⟨hok, hfl, rfl⟩ | ⟨hok, s, d, rfl, rfl, hsd, hset, oa, oc, rfl, hox, _⟩
      · refine Exists.intro _ (Exists.intro _ (And.intro (callX_args fH3) ?_))
        refine And.intro rfl (Exists.intro (.slice none 0 0) (And.intro (by kernel_rfl) ?_))
        refine And.intro rfl (Exists.intro (iv 1) (And.intro (by kernel_rfl) ?_))
        refine Exists.intro _ (Exists.intro _ (And.intro c1.of (And.intro (show row 13 _ _ = some [.slice g.wa g.wn g.wcap, .slice g.aa g.an g.acap, iv g.r1, iv g.r2, iv g.f1, iv g.f2, iv g.g1, iv g.g2, iv g.full, iv g.base, iv g.kill, iv g.need, iv g.bear] from rfl) ?_)))
        obtain ⟨wH4, H4, fH4, kH4, hc2⟩ := tells_ok (kn := kn) (lo := lo) (H := H3) h48 (g := g) (a := a) (b := b) (us := us) hw ha hwl hal (by omega) (by omega) hl hul (by omega) (by omega)
        have mH4 := kH4.1
        have hk := hk.trans kH4
        have hw := kH4.sl0 hw
        have ha := kH4.sl0 ha
        have hl := kH4.sl0 hl
        have hy := kH4.sl0 hy
        have c1 := kH4.cl c1 (by simp)
        obtain rfl := hc2.c0 hok
        refine Exists.intro _ (Exists.intro _ (And.intro (callX_args fH4) ?_))
        refine And.intro rfl (Exists.intro (iv 0) (And.intro (by kernel_rfl) ?_))
        refine And.intro rfl (Exists.intro (iv 0) (And.intro (by kernel_rfl) ?_))
        refine And.intro rfl (Exists.intro (iv 1) (And.intro (by kernel_rfl) ?_))
        refine Exists.intro _ (Exists.intro _ (And.intro c1.of (And.intro (show row 13 _ _ = some [.slice g.wa g.wn g.wcap, .slice g.aa g.an g.acap, iv g.r1, iv g.r2, iv g.f1, iv g.f2, iv g.g1, iv g.g2, iv g.full, iv g.base, iv g.kill, iv g.need, iv g.bear] from rfl) ?_)))
        obtain ⟨wH5, H5, fH5, kH5, hc3⟩ := warmth_ok (kn := kn) (lo := lo) (H := H4) h48 (g := g) (a := a) (b := b) hw ha hwl hal (by omega) (by omega) (by omega)
        have mH5 := kH5.1
        have hk := hk.trans kH5
        have hw := kH5.sl0 hw
        have ha := kH5.sl0 ha
        have hl := kH5.sl0 hl
        have hy := kH5.sl0 hy
        have c1 := kH5.cl c1 (by simp)
        obtain ⟨p3, q3, e3, rfl⟩ := hc3.any
        refine Exists.intro _ (Exists.intro _ (And.intro (callX_args fH5) ?_))
        refine And.intro rfl (Exists.intro (.agg #[iv p3, iv q3]) (And.intro (by kernel_rfl) ?_))
        refine And.intro rfl (Exists.intro (iv e3) (And.intro (by kernel_rfl) ?_))
        intro H6 hH6; obtain ⟨kH6, nH6, c6⟩ := new_facts hH6; clear hH6
        have c6 : Cl H6 H5.next [iv 0, iv 0] := c6
        have mH6 := kH6.1
        have hk := hk.trans kH6
        have hw := kH6.sl0 hw
        have ha := kH6.sl0 ha
        have hl := kH6.sl0 hl
        have hy := kH6.sl0 hy
        have c1 := kH6.cl c1 (by simp)
        obtain ⟨_, eH7, lH7, gH7⟩ := id c6
        refine Exists.intro _ (Exists.intro _ (Exists.intro _ (And.intro gH7 (And.intro (by omega) (And.intro rfl (And.intro rfl (And.intro (by simp) ?_)))))))
        intro H7 hH7; obtain ⟨kH7, nH7, sH7⟩ := up_facts c6 hH7; clear hH7
        have mH7 := kH7.1
        have hk := hk.new kH7 (fun b hb => by simp at hb ⊢; omega)
        have hw := kH7.sl hw (fun b e => by have := fw b e; first | (simp; done) | (simp; omega))
        have ha := kH7.sl ha (fun b e => by have := fa b e; first | (simp; done) | (simp; omega))
        have hl := kH7.sl hl (fun b e => by have := fl b e; first | (simp; done) | (simp; omega))
        have hy := kH7.sl hy (fun b e => by have := fy b e; first | (simp; done) | (simp; omega))
        have c1 := kH7.cl c1 (by first | (simp; done) | (simp; omega))
        have c6 : Cl H7 H5.next [iv p3, iv q3] := sH7
        refine condT ?_
        intro t2 g2; obtain rfl : t2 = true := by rw [← g2]; rfl
        intro t3 g3; obtain rfl : t3 = true := by rw [← g3]; rfl
        refine And.intro rfl (Exists.intro (.bool true) (And.intro rfl ?_))
        intro t4 g4; obtain rfl : t4 = true := by rw [← g4]; rfl
        refine And.intro rfl (Exists.intro (.bool true) (And.intro rfl ?_))
        intro t5 g5; obtain rfl : t5 = true := by rw [← g5]; rfl
        refine And.intro rfl (Exists.intro (.bool true) (And.intro rfl ?_))
        refine al _ _ ?_
        refine And.intro rfl (Exists.intro (.bool true) (And.intro rfl ?_))
        exact And.intro trivial (Exists.intro _ (And.intro rfl rfl))
      · refine Exists.intro _ (Exists.intro _ (And.intro (callX_args fH3) ?_))
        refine And.intro rfl (Exists.intro (.slice none 0 0) (And.intro (by kernel_rfl) ?_))
        refine And.intro rfl (Exists.intro (iv 2) (And.intro (by kernel_rfl) ?_))
        refine Exists.intro _ (Exists.intro _ (And.intro c1.of (And.intro (show row 13 _ _ = some [.slice g.wa g.wn g.wcap, .slice g.aa g.an g.acap, iv g.r1, iv g.r2, iv g.f1, iv g.f2, iv g.g1, iv g.g2, iv g.full, iv g.base, iv g.kill, iv g.need, iv g.bear] from rfl) ?_)))
        obtain ⟨wH8, H8, fH8, kH8, hc2⟩ := tells_ok (kn := kn) (lo := lo) (H := H3) h48 (g := g) (a := a) (b := b) (us := us) hw ha hwl hal (by omega) (by omega) hl hul (by omega) (by omega)
        have mH8 := kH8.1
        have hk := hk.trans kH8
        have hw := kH8.sl0 hw
        have ha := kH8.sl0 ha
        have hl := kH8.sl0 hl
        have hy := kH8.sl0 hy
        have c1 := kH8.cl c1 (by simp)
        obtain rfl := hc2.c1 hok hfl
        refine Exists.intro _ (Exists.intro _ (And.intro (callX_args fH8) ?_))
        refine And.intro rfl (Exists.intro (iv 0) (And.intro (by kernel_rfl) ?_))
        refine And.intro rfl (Exists.intro (iv 0) (And.intro (by kernel_rfl) ?_))
        refine And.intro rfl (Exists.intro (iv 2) (And.intro (by kernel_rfl) ?_))
        refine Exists.intro _ (Exists.intro _ (And.intro c1.of (And.intro (show row 13 _ _ = some [.slice g.wa g.wn g.wcap, .slice g.aa g.an g.acap, iv g.r1, iv g.r2, iv g.f1, iv g.f2, iv g.g1, iv g.g2, iv g.full, iv g.base, iv g.kill, iv g.need, iv g.bear] from rfl) ?_)))
        obtain ⟨wH9, H9, fH9, kH9, hc3⟩ := warmth_ok (kn := kn) (lo := lo) (H := H8) h48 (g := g) (a := a) (b := b) hw ha hwl hal (by omega) (by omega) (by omega)
        have mH9 := kH9.1
        have hk := hk.trans kH9
        have hw := kH9.sl0 hw
        have ha := kH9.sl0 ha
        have hl := kH9.sl0 hl
        have hy := kH9.sl0 hy
        have c1 := kH9.cl c1 (by simp)
        obtain ⟨p3, q3, e3, rfl⟩ := hc3.any
        refine Exists.intro _ (Exists.intro _ (And.intro (callX_args fH9) ?_))
        refine And.intro rfl (Exists.intro (.agg #[iv p3, iv q3]) (And.intro (by kernel_rfl) ?_))
        refine And.intro rfl (Exists.intro (iv e3) (And.intro (by kernel_rfl) ?_))
        intro H10 hH10; obtain ⟨kH10, nH10, c10⟩ := new_facts hH10; clear hH10
        have c10 : Cl H10 H9.next [iv 0, iv 0] := c10
        have mH10 := kH10.1
        have hk := hk.trans kH10
        have hw := kH10.sl0 hw
        have ha := kH10.sl0 ha
        have hl := kH10.sl0 hl
        have hy := kH10.sl0 hy
        have c1 := kH10.cl c1 (by simp)
        obtain ⟨_, eH11, lH11, gH11⟩ := id c10
        refine Exists.intro _ (Exists.intro _ (Exists.intro _ (And.intro gH11 (And.intro (by omega) (And.intro rfl (And.intro rfl (And.intro (by simp) ?_)))))))
        intro H11 hH11; obtain ⟨kH11, nH11, sH11⟩ := up_facts c10 hH11; clear hH11
        have mH11 := kH11.1
        have hk := hk.new kH11 (fun b hb => by simp at hb ⊢; omega)
        have hw := kH11.sl hw (fun b e => by have := fw b e; first | (simp; done) | (simp; omega))
        have ha := kH11.sl ha (fun b e => by have := fa b e; first | (simp; done) | (simp; omega))
        have hl := kH11.sl hl (fun b e => by have := fl b e; first | (simp; done) | (simp; omega))
        have hy := kH11.sl hy (fun b e => by have := fy b e; first | (simp; done) | (simp; omega))
        have c1 := kH11.cl c1 (by first | (simp; done) | (simp; omega))
        have c10 : Cl H11 H9.next [iv p3, iv q3] := sH11
        refine condT ?_
        intro t6 g6; obtain rfl : t6 = true := by rw [← g6]; rfl
        intro t7 g7; obtain rfl : t7 = true := by rw [← g7]; rfl
        refine And.intro rfl (Exists.intro (.bool true) (And.intro rfl ?_))
        intro t8 g8; obtain rfl : t8 = true := by rw [← g8]; rfl
        refine And.intro rfl (Exists.intro (.bool true) (And.intro rfl ?_))
        intro t9 g9; obtain rfl : t9 = true := by rw [← g9]; rfl
        refine And.intro rfl (Exists.intro (.bool true) (And.intro rfl ?_))
        refine al _ _ ?_
        refine And.intro rfl (Exists.intro (.bool true) (And.intro rfl ?_))
        exact And.intro trivial (Exists.intro _ (And.intro rfl rfl))
      · have v := Lt.vd hok hwl hal
        have hn40 := v.n40; have hfu := v.fu
        have hsi := setB_in hset
        have hF : ∀ i : Nat, (dayMask us).testBit i = us.contains (i : Int) := dayMask_has fun y hy => by have := hsi y hy; omega
        have fox : ∀ x, oa = some ⟨x, 0, none⟩ → x < H3.next := hox.old
        rcases hy with ⟨_, h0, _⟩ | ⟨yb, eya, hyr, _⟩
        · omega
        subst eya
        have lty := hyr.lt
        have hwi := Lt.wl_in v d hsd
        have hsl2 := Lt.sl_in (g := g) (s := s) (F := (Nat.testBit (dayMask us))) d; have hsm2 := Lt.sm_in (g := g) (s := s) (F := (Nat.testBit (dayMask us))) d
        refine Exists.intro _ (Exists.intro _ (And.intro (callX_args fH3) ?_))
        refine And.intro rfl (Exists.intro (.slice oa d oc) (And.intro (by kernel_rfl) ?_))
        refine And.intro rfl (Exists.intro (iv 0) (And.intro (by kernel_rfl) ?_))
        refine Exists.intro _ (Exists.intro _ (And.intro c1.of (And.intro (show row 13 _ _ = some [.slice g.wa g.wn g.wcap, .slice g.aa g.an g.acap, iv g.r1, iv g.r2, iv g.f1, iv g.f2, iv g.g1, iv g.g2, iv g.full, iv g.base, iv g.kill, iv g.need, iv g.bear] from rfl) ?_)))
        obtain ⟨wH12, H12, fH12, kH12, hc2⟩ := tells_ok (kn := kn) (lo := lo) (H := H3) h48 (g := g) (a := s) (b := d) (us := us) hw ha hwl hal (by omega) (by omega) hl hul (by omega) (by omega)
        have mH12 := kH12.1
        have hk := hk.trans kH12
        have hw := kH12.sl0 hw
        have ha := kH12.sl0 ha
        have hl := kH12.sl0 hl
        have c1 := kH12.cl c1 (by simp)
        have hox := kH12.sl0 hox
        have hyr := kH12.rd hyr (by simp)
        obtain rfl := hc2.c2 hok hsd hset
        refine Exists.intro _ (Exists.intro _ (And.intro (callX_args fH12) ?_))
        refine And.intro rfl (Exists.intro (iv (sureV (decide (g.wl s d ≥ g.kill)) (decide (g.wh s d ≥ g.kill)))) (And.intro (by kernel_rfl) ?_))
        refine And.intro rfl (Exists.intro (iv (sureV (decide (g.sm s (Nat.testBit (dayMask us)) d > g.bear)) (decide (g.sl s (Nat.testBit (dayMask us)) d > g.bear)))) (And.intro (by kernel_rfl) ?_))
        refine And.intro rfl (Exists.intro (iv 0) (And.intro (by kernel_rfl) ?_))
        refine Exists.intro _ (Exists.intro _ (And.intro c1.of (And.intro (show row 13 _ _ = some [.slice g.wa g.wn g.wcap, .slice g.aa g.an g.acap, iv g.r1, iv g.r2, iv g.f1, iv g.f2, iv g.g1, iv g.g2, iv g.full, iv g.base, iv g.kill, iv g.need, iv g.bear] from rfl) ?_)))
        obtain ⟨wH13, H13, fH13, kH13, hc3⟩ := warmth_ok (kn := kn) (lo := lo) (H := H12) h48 (g := g) (a := s) (b := d) hw ha hwl hal (by omega) (by omega) (by omega)
        have mH13 := kH13.1
        have hk := hk.trans kH13
        have hw := kH13.sl0 hw
        have ha := kH13.sl0 ha
        have hl := kH13.sl0 hl
        have c1 := kH13.cl c1 (by simp)
        have hox := kH13.sl0 hox
        have hyr := kH13.rd hyr (by simp)
        obtain rfl := hc3.c2 hok hsd
        refine Exists.intro _ (Exists.intro _ (And.intro (callX_args fH13) ?_))
        refine And.intro rfl (Exists.intro (.agg #[iv (g.wl s d), iv (g.wh s d)]) (And.intro (by kernel_rfl) ?_))
        refine And.intro rfl (Exists.intro (iv 0) (And.intro (by kernel_rfl) ?_))
        intro H14 hH14; obtain ⟨kH14, nH14, c14⟩ := new_facts hH14; clear hH14
        have c14 : Cl H14 H13.next [iv 0, iv 0] := c14
        have mH14 := kH14.1
        have hk := hk.trans kH14
        have hw := kH14.sl0 hw
        have ha := kH14.sl0 ha
        have hl := kH14.sl0 hl
        have c1 := kH14.cl c1 (by simp)
        have hox := kH14.sl0 hox
        have hyr := kH14.rd hyr (by simp)
        obtain ⟨_, eH15, lH15, gH15⟩ := id c14
        refine Exists.intro _ (Exists.intro _ (Exists.intro _ (And.intro gH15 (And.intro (by omega) (And.intro rfl (And.intro rfl (And.intro (by simp) ?_)))))))
        intro H15 hH15; obtain ⟨kH15, nH15, sH15⟩ := up_facts c14 hH15; clear hH15
        have mH15 := kH15.1
        have hk := hk.new kH15 (fun b hb => by simp at hb ⊢; omega)
        have hw := kH15.sl hw (fun b e => by have := fw b e; first | (simp; done) | (simp; omega))
        have ha := kH15.sl ha (fun b e => by have := fa b e; first | (simp; done) | (simp; omega))
        have hl := kH15.sl hl (fun b e => by have := fl b e; first | (simp; done) | (simp; omega))
        have c1 := kH15.cl c1 (by first | (simp; done) | (simp; omega))
        have hox := kH15.sl hox (fun b e => by have := fox b e; first | (simp; done) | (simp; omega))
        have hyr := kH15.rd hyr (by first | (simp; done) | (simp; omega))
        have c14 : Cl H15 H13.next [iv (g.wl s d), iv (g.wh s d)] := sH15
        refine condF ?_
        intro t10 g10; obtain rfl : t10 = false := by rw [← g10]; rfl
        intro t11 g11; obtain rfl : t11 = false := by rw [← g11]; rfl
        refine And.intro rfl (Exists.intro (.bool false) (And.intro rfl ?_))
        refine Exists.intro _ (Exists.intro _ (And.intro c1.of (And.intro (show row 13 _ _ = some [.slice g.wa g.wn g.wcap, .slice g.aa g.an g.acap, iv g.r1, iv g.r2, iv g.f1, iv g.f2, iv g.g1, iv g.g2, iv g.full, iv g.base, iv g.kill, iv g.need, iv g.bear] from rfl) ?_)))
        refine callB (late33_ok hw ha hwl hal (by omega) (by omega)) ?_
        intro tH16 H16 hH16 kH16
        have mH16 := kH16.1
        have hk := hk.trans kH16
        have hw := kH16.sl0 hw
        have ha := kH16.sl0 ha
        have hl := kH16.sl0 hl
        have c1 := kH16.cl c1 (by simp)
        have hox := kH16.sl0 hox
        have hyr := kH16.rd hyr (by simp)
        have c14 := kH16.cl c14 (by simp)
        cases tH16
        · rw [hok] at hH16; cases hH16
        · refine And.intro rfl (Exists.intro (.bool false) (And.intro rfl ?_))
          refine And.intro rfl (Exists.intro (.bool false) (And.intro rfl ?_))
          refine Exists.intro _ (Exists.intro _ (And.intro c1.of (And.intro (show row 13 _ _ = some [.slice g.wa g.wn g.wcap, .slice g.aa g.an g.acap, iv g.r1, iv g.r2, iv g.f1, iv g.f2, iv g.g1, iv g.g2, iv g.full, iv g.base, iv g.kill, iv g.need, iv g.bear] from rfl) ?_)))
          refine callB (flood34_ok (by omega) hl hul (by omega)) ?_
          intro tH17 H17 hH17 kH17
          have mH17 := kH17.1
          have hk := hk.trans kH17
          have hw := kH17.sl0 hw
          have ha := kH17.sl0 ha
          have hl := kH17.sl0 hl
          have c1 := kH17.cl c1 (by simp)
          have hox := kH17.sl0 hox
          have hyr := kH17.rd hyr (by simp)
          have c14 := kH17.cl c14 (by simp)
          cases tH17
          · rw [flB_of hsd, hset] at hH17; exact absurd hH17 (by decide)
          · refine And.intro rfl (Exists.intro (.bool false) (And.intro rfl ?_))
            refine And.intro rfl (Exists.intro (.bool false) (And.intro rfl ?_))
            intro t12 g12; cases t12
            · have g12 : ¬ ((d : Int) ≠ (d : Int)) := by simpa using g12
              refine And.intro rfl (Exists.intro (.bool false) (And.intro rfl ?_))
              refine condF ?_
              refine Exists.intro _ (Exists.intro _ (And.intro c1.of (And.intro (show row 13 _ _ = some [.slice g.wa g.wn g.wcap, .slice g.aa g.an g.acap, iv g.r1, iv g.r2, iv g.f1, iv g.f2, iv g.g1, iv g.g2, iv g.full, iv g.base, iv g.kill, iv g.need, iv g.bear] from rfl) ?_)))
              obtain ⟨wH18, H18, fH18, kH18, ta, tc, rfl, hta⟩ := live_ok (kn := kn) (lo := lo) (H := H17) v hsd (ycap := ycap) hw ha hl hul (by omega) hyr (by omega) hu2 hus hF (by omega)
              have mH18 := kH18.1
              have hk := hk.trans kH18
              have hw := kH18.sl0 hw
              have ha := kH18.sl0 ha
              have hl := kH18.sl0 hl
              have c1 := kH18.cl c1 (by simp)
              have hox := kH18.sl0 hox
              have hyr := kH18.rd hyr (by simp)
              have c14 := kH18.cl c14 (by simp)
              have fta : ∀ x, ta = some ⟨x, 0, none⟩ → x < H18.next := hta.old
              refine Exists.intro _ (Exists.intro _ (And.intro (callX_args fH18) ?_))
              refine And.intro rfl (Exists.intro (.slice ta d tc) (And.intro (by kernel_rfl) ?_))
              refine And.intro rfl (Exists.intro (iv (g.ts bs s d)) (And.intro (by kernel_rfl) ?_))
              refine loop_low (fn := Try.f7) E7_1 N7 L7x1 (fun i : Nat => [(5, pt H.next), (11, .slice oa d oc), (13, iv (sureV (decide (g.wl s d ≥ g.kill)) (decide (g.wh s d ≥ g.kill)))), (14, iv (sureV (decide (g.sm s (Nat.testBit (dayMask us)) d > g.bear)) (decide (g.sl s (Nat.testBit (dayMask us)) d > g.bear)))), (16, pt H13.next), (19, iv (g.ts bs s d)), (20, iv (g.tb bs s (Nat.testBit (dayMask us)) i)), (113, .slice ta d tc), (114, iv (d : Int)), (115, iv (i : Int))])
                (fun k i H' => i + k = d ∧ Keep H18 H' []) d 0 ⟨by omega, Keep.refl _ _⟩ ⟨rfl, rfl, rfl, rfl, rfl, rfl, rfl, rfl, rfl, rfl, trivial⟩ ?_
              rintro k i L1 ⟨hik, hki⟩
              have hm := hki.1
              have hk := hk.trans hki
              have hw := hki.sl0 hw
              have ha := hki.sl0 ha
              have hl := hki.sl0 hl
              have c1 := hki.cl c1 (by simp)
              have hox := hki.sl0 hox
              have hyr := hki.rd hyr (by simp)
              have c14 := hki.cl c14 (by simp)
              have hta := hki.sl0 hta
              have kb := hki
              refine And.intro (fun q13 => ?_) (fun q13 => ?_)
              · have q13 : (i : Int) < (d : Int) := of_decide_eq_true q13
                have hid : i < d := by omega
                have hti := Lt.tn_in (us := bs) (s := s) (F := (Nat.testBit (dayMask us))) v (i + 1) (by omega)
                have htb := Lt.tb_in (us := bs) (s := s) (F := (Nat.testBit (dayMask us))) v i (by omega)
                rcases hta with ⟨_, h0, _⟩ | ⟨tb, rfl, htd, _⟩
                · omega
                rcases hox with ⟨_, h0, _⟩ | ⟨ob, rfl, hod, _⟩
                · omega
                refine Exists.intro i (And.intro rfl (And.intro hid ?_))
                refine Exists.intro _ (Exists.intro _ (And.intro htd.of (And.intro (ints_at (tn_get hid)) ?_)))
                refine Exists.intro i (And.intro rfl (And.intro hid ?_))
                refine Exists.intro _ (Exists.intro _ (And.intro hod.of (And.intro (span_get (Lt.ox_get hid)).1 ?_)))
                intro t14 g14; cases t14
                · have g14 : ¬ ((g.tn bs s (Nat.testBit (dayMask us)) (i + 1)) < (g.lo s (Nat.testBit (dayMask us)) (i + 1))) := of_decide_eq_false g14
                  refine Exists.intro i (And.intro rfl (And.intro hid ?_))
                  refine Exists.intro _ (Exists.intro _ (And.intro hod.of (And.intro (span_get (Lt.ox_get hid)).2 ?_)))
                  intro t15 g15; cases t15
                  · have g15 : ¬ ((g.tn bs s (Nat.testBit (dayMask us)) (i + 1)) > (g.hi s (Nat.testBit (dayMask us)) (i + 1))) := of_decide_eq_false g15
                    refine And.intro rfl (Exists.intro (.bool false) (And.intro rfl ?_))
                    refine condF ?_
                    refine Exists.intro _ (Exists.intro _ (And.intro c1.of (And.intro (show _ = some (iv g.need) from rfl) ?_)))
                    refine And.intro (fun q16 => ?_) (fun q16 => ?_)
                    · have q16 : (g.tn bs s (Nat.testBit (dayMask us)) (i + 1)) < g.need := of_decide_eq_true q16
                      have hq := q16
                      refine And.intro (show InR ((g.tb bs s (Nat.testBit (dayMask us)) i) + 1) from ⟨by omega, by omega⟩) ?_
                      refine And.intro (show InR ((i : Int) + 1) from ⟨by omega, by omega⟩) ?_
                      have htb1 : g.tb bs s (Nat.testBit (dayMask us)) (i + 1) = g.tb bs s (Nat.testBit (dayMask us)) i + 1 := by rw [Lt.tb, decide_eq_true hq]; rfl
                      exact ⟨k - 1, i + 1, by omega, ⟨by omega, kb⟩, rfl, rfl, rfl, rfl, rfl, rfl, by rw [htb1]; rfl, rfl, rfl, rfl, trivial⟩
                    · have q16 : ¬ ((g.tn bs s (Nat.testBit (dayMask us)) (i + 1)) < g.need) := of_decide_eq_false q16
                      have hq := q16
                      refine And.intro (show InR ((i : Int) + 1) from ⟨by omega, by omega⟩) ?_
                      have htb1 : g.tb bs s (Nat.testBit (dayMask us)) (i + 1) = g.tb bs s (Nat.testBit (dayMask us)) i := by rw [Lt.tb, decide_eq_false hq]; rfl
                      exact ⟨k - 1, i + 1, by omega, ⟨by omega, kb⟩, rfl, rfl, rfl, rfl, rfl, rfl, by rw [htb1]; rfl, rfl, rfl, rfl, trivial⟩
                  · have g15 : (g.tn bs s (Nat.testBit (dayMask us)) (i + 1)) > (g.hi s (Nat.testBit (dayMask us)) (i + 1)) := of_decide_eq_true g15
                    exfalso; omega
                · have g14 : (g.tn bs s (Nat.testBit (dayMask us)) (i + 1)) < (g.lo s (Nat.testBit (dayMask us)) (i + 1)) := of_decide_eq_true g14
                  exfalso; omega
              · have q13 : ¬ ((i : Int) < (d : Int)) := of_decide_eq_false q13
                have hid : d = i := by omega
                subst hid
                have hts := Lt.ts_in (us := bs) (s := s) v d hsd
                have htbd := Lt.tb_in (us := bs) (s := s) (F := (Nat.testBit (dayMask us))) v d hsd
                refine wD_seq ?_
                refine wD_mov (v := iv (g.ts bs s d)) rfl ?_
                cases hkk : decide (g.ts bs s d ≥ g.kill)
                · refine wD_addo (b := H.next) (o := 0) rfl ?_
                  refine wD_ld (b := H.next) (o := 10) (v := iv g.kill) rfl c1.rd rfl ?_
                  refine wD_k_geq false rfl rfl hkk ?_
                  refine wD_mov (v := iv (g.tb bs s (Nat.testBit (dayMask us)) d)) rfl ?_
                  cases hhh : decide (g.tb bs s (Nat.testBit (dayMask us)) d > g.bear)
                  · refine wD_addo (b := H.next) (o := 0) rfl ?_
                    refine wD_ld (b := H.next) (o := 12) (v := iv g.bear) rfl c1.rd rfl ?_
                    refine wD_k_gtr false rfl rfl hhh ?_
                    refine wD_mov (v := .bool false) rfl ?_
                    refine wD_mov (v := .bool false) rfl ?_
                    refine wD_end (by repeat' first | exact True.intro | exact (fun h => h) | refine And.intro ?_ ?_ | (intro h; have h : (_ : Nat) = _ := h; omega)) ?_
                    refine Exists.intro _ (Exists.intro _ (And.intro c14.of (And.intro (show _ = some (iv (g.wl s d)) from rfl) ?_)))
                    intro t17 g17; cases t17
                    · have g17 : ¬ ((g.ts bs s d) < (g.wl s d)) := of_decide_eq_false g17
                      refine Exists.intro _ (Exists.intro _ (And.intro c14.of (And.intro (show _ = some (iv (g.wh s d)) from rfl) ?_)))
                      intro t18 g18; cases t18
                      · have g18 : ¬ ((g.ts bs s d) > (g.wh s d)) := of_decide_eq_false g18
                        refine And.intro rfl (Exists.intro (.bool false) (And.intro rfl ?_))
                        intro t19 g19; cases t19
                        · have g19 : ¬ ((sureV (decide (g.wl s d ≥ g.kill)) (decide (g.wh s d ≥ g.kill))) = 2) := by simpa using g19
                          refine And.intro rfl (Exists.intro (.bool false) (And.intro rfl ?_))
                          refine And.intro rfl (Exists.intro (.bool false) (And.intro rfl ?_))
                          intro t20 g20; cases t20
                          · have g20 : ¬ ((sureV (decide (g.wl s d ≥ g.kill)) (decide (g.wh s d ≥ g.kill))) = 0) := by simpa using g20
                            refine And.intro rfl (Exists.intro (.bool false) (And.intro rfl ?_))
                            refine And.intro rfl (Exists.intro (.bool false) (And.intro rfl ?_))
                            refine condF ?_
                            intro t21 g21; cases t21
                            · have g21 : ¬ ((sureV (decide (g.sm s (Nat.testBit (dayMask us)) d > g.bear)) (decide (g.sl s (Nat.testBit (dayMask us)) d > g.bear))) ≠ 2) := by simpa using g21
                              refine And.intro rfl (Exists.intro (.bool false) (And.intro rfl ?_))
                              refine And.intro rfl (Exists.intro (.bool false) (And.intro rfl ?_))
                              refine And.intro rfl (Exists.intro (.bool false) (And.intro rfl ?_))
                              exfalso; have h1 := of_decide_eq_true (sure_two (Classical.not_not.1 g21)); have h2 := of_decide_eq_false hhh; omega
                            · have g21 : (sureV (decide (g.sm s (Nat.testBit (dayMask us)) d > g.bear)) (decide (g.sl s (Nat.testBit (dayMask us)) d > g.bear))) ≠ 2 := by simpa using g21
                              refine And.intro rfl (Exists.intro (.bool true) (And.intro rfl ?_))
                              intro t22 g22; cases t22
                              · have g22 : ¬ ((sureV (decide (g.sm s (Nat.testBit (dayMask us)) d > g.bear)) (decide (g.sl s (Nat.testBit (dayMask us)) d > g.bear))) ≠ 0) := by simpa using g22
                                refine And.intro rfl (Exists.intro (.bool true) (And.intro rfl ?_))
                                refine And.intro rfl (Exists.intro (.bool true) (And.intro rfl ?_))
                                refine And.intro rfl (Exists.intro (.bool true) (And.intro rfl ?_))
                                refine al _ _ ?_
                                refine And.intro rfl (Exists.intro (.bool true) (And.intro rfl ?_))
                                exact And.intro trivial (Exists.intro _ (And.intro rfl rfl))
                              · have g22 : (sureV (decide (g.sm s (Nat.testBit (dayMask us)) d > g.bear)) (decide (g.sl s (Nat.testBit (dayMask us)) d > g.bear))) ≠ 0 := by simpa using g22
                                refine And.intro rfl (Exists.intro (.bool true) (And.intro rfl ?_))
                                refine And.intro rfl (Exists.intro (.bool true) (And.intro rfl ?_))
                                refine al _ _ ?_
                                refine And.intro rfl (Exists.intro (.bool true) (And.intro rfl ?_))
                                exact And.intro trivial (Exists.intro _ (And.intro rfl rfl))
                          · have g20 : (sureV (decide (g.wl s d ≥ g.kill)) (decide (g.wh s d ≥ g.kill))) = 0 := by simpa using g20
                            refine And.intro rfl (Exists.intro (.bool false) (And.intro rfl ?_))
                            refine And.intro rfl (Exists.intro (.bool false) (And.intro rfl ?_))
                            refine condF ?_
                            intro t23 g23; cases t23
                            · have g23 : ¬ ((sureV (decide (g.sm s (Nat.testBit (dayMask us)) d > g.bear)) (decide (g.sl s (Nat.testBit (dayMask us)) d > g.bear))) ≠ 2) := by simpa using g23
                              refine And.intro rfl (Exists.intro (.bool false) (And.intro rfl ?_))
                              refine And.intro rfl (Exists.intro (.bool false) (And.intro rfl ?_))
                              refine And.intro rfl (Exists.intro (.bool false) (And.intro rfl ?_))
                              exfalso; have h1 := of_decide_eq_true (sure_two (Classical.not_not.1 g23)); have h2 := of_decide_eq_false hhh; omega
                            · have g23 : (sureV (decide (g.sm s (Nat.testBit (dayMask us)) d > g.bear)) (decide (g.sl s (Nat.testBit (dayMask us)) d > g.bear))) ≠ 2 := by simpa using g23
                              refine And.intro rfl (Exists.intro (.bool true) (And.intro rfl ?_))
                              intro t24 g24; cases t24
                              · have g24 : ¬ ((sureV (decide (g.sm s (Nat.testBit (dayMask us)) d > g.bear)) (decide (g.sl s (Nat.testBit (dayMask us)) d > g.bear))) ≠ 0) := by simpa using g24
                                refine And.intro rfl (Exists.intro (.bool true) (And.intro rfl ?_))
                                refine And.intro rfl (Exists.intro (.bool true) (And.intro rfl ?_))
                                refine And.intro rfl (Exists.intro (.bool true) (And.intro rfl ?_))
                                refine al _ _ ?_
                                refine And.intro rfl (Exists.intro (.bool true) (And.intro rfl ?_))
                                exact And.intro trivial (Exists.intro _ (And.intro rfl rfl))
                              · have g24 : (sureV (decide (g.sm s (Nat.testBit (dayMask us)) d > g.bear)) (decide (g.sl s (Nat.testBit (dayMask us)) d > g.bear))) ≠ 0 := by simpa using g24
                                refine And.intro rfl (Exists.intro (.bool true) (And.intro rfl ?_))
                                refine And.intro rfl (Exists.intro (.bool true) (And.intro rfl ?_))
                                refine al _ _ ?_
                                refine And.intro rfl (Exists.intro (.bool true) (And.intro rfl ?_))
                                exact And.intro trivial (Exists.intro _ (And.intro rfl rfl))
                        · have g19 : (sureV (decide (g.wl s d ≥ g.kill)) (decide (g.wh s d ≥ g.kill))) = 2 := by simpa using g19
                          refine And.intro rfl (Exists.intro (.bool true) (And.intro rfl ?_))
                          refine And.intro rfl (Exists.intro (.bool true) (And.intro rfl ?_))
                          refine And.intro rfl (Exists.intro (.bool true) (And.intro rfl ?_))
                          refine And.intro rfl (Exists.intro (.bool true) (And.intro rfl ?_))
                          exfalso; have h1 := of_decide_eq_true (sure_two g19); have h2 := of_decide_eq_false hkk; omega
                      · have g18 : (g.ts bs s d) > (g.wh s d) := of_decide_eq_true g18
                        exfalso; omega
                    · have g17 : (g.ts bs s d) < (g.wl s d) := of_decide_eq_true g17
                      exfalso; omega
                  · refine wD_addo (b := H.next) (o := 0) rfl ?_
                    refine wD_ld (b := H.next) (o := 12) (v := iv g.bear) rfl c1.rd rfl ?_
                    refine wD_k_gtr true rfl rfl hhh ?_
                    refine wD_mov (v := .bool false) rfl ?_
                    refine wD_mov (v := .bool true) rfl ?_
                    refine wD_end (by repeat' first | exact True.intro | exact (fun h => h) | refine And.intro ?_ ?_ | (intro h; have h : (_ : Nat) = _ := h; omega)) ?_
                    refine Exists.intro _ (Exists.intro _ (And.intro c14.of (And.intro (show _ = some (iv (g.wl s d)) from rfl) ?_)))
                    intro t25 g25; cases t25
                    · have g25 : ¬ ((g.ts bs s d) < (g.wl s d)) := of_decide_eq_false g25
                      refine Exists.intro _ (Exists.intro _ (And.intro c14.of (And.intro (show _ = some (iv (g.wh s d)) from rfl) ?_)))
                      intro t26 g26; cases t26
                      · have g26 : ¬ ((g.ts bs s d) > (g.wh s d)) := of_decide_eq_false g26
                        refine And.intro rfl (Exists.intro (.bool false) (And.intro rfl ?_))
                        intro t27 g27; cases t27
                        · have g27 : ¬ ((sureV (decide (g.wl s d ≥ g.kill)) (decide (g.wh s d ≥ g.kill))) = 2) := by simpa using g27
                          refine And.intro rfl (Exists.intro (.bool false) (And.intro rfl ?_))
                          refine And.intro rfl (Exists.intro (.bool false) (And.intro rfl ?_))
                          intro t28 g28; cases t28
                          · have g28 : ¬ ((sureV (decide (g.wl s d ≥ g.kill)) (decide (g.wh s d ≥ g.kill))) = 0) := by simpa using g28
                            refine And.intro rfl (Exists.intro (.bool false) (And.intro rfl ?_))
                            refine And.intro rfl (Exists.intro (.bool false) (And.intro rfl ?_))
                            refine condF ?_
                            intro t29 g29; cases t29
                            · have g29 : ¬ ((sureV (decide (g.sm s (Nat.testBit (dayMask us)) d > g.bear)) (decide (g.sl s (Nat.testBit (dayMask us)) d > g.bear))) ≠ 2) := by simpa using g29
                              refine And.intro rfl (Exists.intro (.bool true) (And.intro rfl ?_))
                              intro t30 g30; cases t30
                              · have g30 : ¬ ((sureV (decide (g.sm s (Nat.testBit (dayMask us)) d > g.bear)) (decide (g.sl s (Nat.testBit (dayMask us)) d > g.bear))) ≠ 0) := by simpa using g30
                                refine And.intro rfl (Exists.intro (.bool false) (And.intro rfl ?_))
                                refine And.intro rfl (Exists.intro (.bool false) (And.intro rfl ?_))
                                refine And.intro rfl (Exists.intro (.bool false) (And.intro rfl ?_))
                                refine And.intro rfl (Exists.intro (.bool false) (And.intro rfl ?_))
                                exfalso; omega
                              · have g30 : (sureV (decide (g.sm s (Nat.testBit (dayMask us)) d > g.bear)) (decide (g.sl s (Nat.testBit (dayMask us)) d > g.bear))) ≠ 0 := by simpa using g30
                                refine And.intro rfl (Exists.intro (.bool true) (And.intro rfl ?_))
                                refine And.intro rfl (Exists.intro (.bool true) (And.intro rfl ?_))
                                refine al _ _ ?_
                                refine And.intro rfl (Exists.intro (.bool true) (And.intro rfl ?_))
                                exact And.intro trivial (Exists.intro _ (And.intro rfl rfl))
                            · have g29 : (sureV (decide (g.sm s (Nat.testBit (dayMask us)) d > g.bear)) (decide (g.sl s (Nat.testBit (dayMask us)) d > g.bear))) ≠ 2 := by simpa using g29
                              refine And.intro rfl (Exists.intro (.bool true) (And.intro rfl ?_))
                              intro t31 g31; cases t31
                              · have g31 : ¬ ((sureV (decide (g.sm s (Nat.testBit (dayMask us)) d > g.bear)) (decide (g.sl s (Nat.testBit (dayMask us)) d > g.bear))) ≠ 0) := by simpa using g31
                                refine And.intro rfl (Exists.intro (.bool false) (And.intro rfl ?_))
                                refine And.intro rfl (Exists.intro (.bool false) (And.intro rfl ?_))
                                refine And.intro rfl (Exists.intro (.bool false) (And.intro rfl ?_))
                                refine And.intro rfl (Exists.intro (.bool false) (And.intro rfl ?_))
                                exfalso; have h1 := of_decide_eq_false (sure_zero (Classical.not_not.1 g31)); have h2 := of_decide_eq_true hhh; omega
                              · have g31 : (sureV (decide (g.sm s (Nat.testBit (dayMask us)) d > g.bear)) (decide (g.sl s (Nat.testBit (dayMask us)) d > g.bear))) ≠ 0 := by simpa using g31
                                refine And.intro rfl (Exists.intro (.bool true) (And.intro rfl ?_))
                                refine And.intro rfl (Exists.intro (.bool true) (And.intro rfl ?_))
                                refine al _ _ ?_
                                refine And.intro rfl (Exists.intro (.bool true) (And.intro rfl ?_))
                                exact And.intro trivial (Exists.intro _ (And.intro rfl rfl))
                          · have g28 : (sureV (decide (g.wl s d ≥ g.kill)) (decide (g.wh s d ≥ g.kill))) = 0 := by simpa using g28
                            refine And.intro rfl (Exists.intro (.bool false) (And.intro rfl ?_))
                            refine And.intro rfl (Exists.intro (.bool false) (And.intro rfl ?_))
                            refine condF ?_
                            intro t32 g32; cases t32
                            · have g32 : ¬ ((sureV (decide (g.sm s (Nat.testBit (dayMask us)) d > g.bear)) (decide (g.sl s (Nat.testBit (dayMask us)) d > g.bear))) ≠ 2) := by simpa using g32
                              refine And.intro rfl (Exists.intro (.bool true) (And.intro rfl ?_))
                              intro t33 g33; cases t33
                              · have g33 : ¬ ((sureV (decide (g.sm s (Nat.testBit (dayMask us)) d > g.bear)) (decide (g.sl s (Nat.testBit (dayMask us)) d > g.bear))) ≠ 0) := by simpa using g33
                                refine And.intro rfl (Exists.intro (.bool false) (And.intro rfl ?_))
                                refine And.intro rfl (Exists.intro (.bool false) (And.intro rfl ?_))
                                refine And.intro rfl (Exists.intro (.bool false) (And.intro rfl ?_))
                                refine And.intro rfl (Exists.intro (.bool false) (And.intro rfl ?_))
                                exfalso; omega
                              · have g33 : (sureV (decide (g.sm s (Nat.testBit (dayMask us)) d > g.bear)) (decide (g.sl s (Nat.testBit (dayMask us)) d > g.bear))) ≠ 0 := by simpa using g33
                                refine And.intro rfl (Exists.intro (.bool true) (And.intro rfl ?_))
                                refine And.intro rfl (Exists.intro (.bool true) (And.intro rfl ?_))
                                refine al _ _ ?_
                                refine And.intro rfl (Exists.intro (.bool true) (And.intro rfl ?_))
                                exact And.intro trivial (Exists.intro _ (And.intro rfl rfl))
                            · have g32 : (sureV (decide (g.sm s (Nat.testBit (dayMask us)) d > g.bear)) (decide (g.sl s (Nat.testBit (dayMask us)) d > g.bear))) ≠ 2 := by simpa using g32
                              refine And.intro rfl (Exists.intro (.bool true) (And.intro rfl ?_))
                              intro t34 g34; cases t34
                              · have g34 : ¬ ((sureV (decide (g.sm s (Nat.testBit (dayMask us)) d > g.bear)) (decide (g.sl s (Nat.testBit (dayMask us)) d > g.bear))) ≠ 0) := by simpa using g34
                                refine And.intro rfl (Exists.intro (.bool false) (And.intro rfl ?_))
                                refine And.intro rfl (Exists.intro (.bool false) (And.intro rfl ?_))
                                refine And.intro rfl (Exists.intro (.bool false) (And.intro rfl ?_))
                                refine And.intro rfl (Exists.intro (.bool false) (And.intro rfl ?_))
                                exfalso; have h1 := of_decide_eq_false (sure_zero (Classical.not_not.1 g34)); have h2 := of_decide_eq_true hhh; omega
                              · have g34 : (sureV (decide (g.sm s (Nat.testBit (dayMask us)) d > g.bear)) (decide (g.sl s (Nat.testBit (dayMask us)) d > g.bear))) ≠ 0 := by simpa using g34
                                refine And.intro rfl (Exists.intro (.bool true) (And.intro rfl ?_))
                                refine And.intro rfl (Exists.intro (.bool true) (And.intro rfl ?_))
                                refine al _ _ ?_
                                refine And.intro rfl (Exists.intro (.bool true) (And.intro rfl ?_))
                                exact And.intro trivial (Exists.intro _ (And.intro rfl rfl))
                        · have g27 : (sureV (decide (g.wl s d ≥ g.kill)) (decide (g.wh s d ≥ g.kill))) = 2 := by simpa using g27
                          refine And.intro rfl (Exists.intro (.bool true) (And.intro rfl ?_))
                          refine And.intro rfl (Exists.intro (.bool true) (And.intro rfl ?_))
                          refine And.intro rfl (Exists.intro (.bool true) (And.intro rfl ?_))
                          refine And.intro rfl (Exists.intro (.bool true) (And.intro rfl ?_))
                          exfalso; have h1 := of_decide_eq_true (sure_two g27); have h2 := of_decide_eq_false hkk; omega
                      · have g26 : (g.ts bs s d) > (g.wh s d) := of_decide_eq_true g26
                        exfalso; omega
                    · have g25 : (g.ts bs s d) < (g.wl s d) := of_decide_eq_true g25
                      exfalso; omega
                · refine wD_addo (b := H.next) (o := 0) rfl ?_
                  refine wD_ld (b := H.next) (o := 10) (v := iv g.kill) rfl c1.rd rfl ?_
                  refine wD_k_geq true rfl rfl hkk ?_
                  refine wD_mov (v := iv (g.tb bs s (Nat.testBit (dayMask us)) d)) rfl ?_
                  cases hhh : decide (g.tb bs s (Nat.testBit (dayMask us)) d > g.bear)
                  · refine wD_addo (b := H.next) (o := 0) rfl ?_
                    refine wD_ld (b := H.next) (o := 12) (v := iv g.bear) rfl c1.rd rfl ?_
                    refine wD_k_gtr false rfl rfl hhh ?_
                    refine wD_mov (v := .bool true) rfl ?_
                    refine wD_mov (v := .bool false) rfl ?_
                    refine wD_end (by repeat' first | exact True.intro | exact (fun h => h) | refine And.intro ?_ ?_ | (intro h; have h : (_ : Nat) = _ := h; omega)) ?_
                    refine Exists.intro _ (Exists.intro _ (And.intro c14.of (And.intro (show _ = some (iv (g.wl s d)) from rfl) ?_)))
                    intro t35 g35; cases t35
                    · have g35 : ¬ ((g.ts bs s d) < (g.wl s d)) := of_decide_eq_false g35
                      refine Exists.intro _ (Exists.intro _ (And.intro c14.of (And.intro (show _ = some (iv (g.wh s d)) from rfl) ?_)))
                      intro t36 g36; cases t36
                      · have g36 : ¬ ((g.ts bs s d) > (g.wh s d)) := of_decide_eq_false g36
                        refine And.intro rfl (Exists.intro (.bool false) (And.intro rfl ?_))
                        intro t37 g37; cases t37
                        · have g37 : ¬ ((sureV (decide (g.wl s d ≥ g.kill)) (decide (g.wh s d ≥ g.kill))) = 2) := by simpa using g37
                          refine And.intro rfl (Exists.intro (.bool false) (And.intro rfl ?_))
                          refine And.intro rfl (Exists.intro (.bool false) (And.intro rfl ?_))
                          intro t38 g38; cases t38
                          · have g38 : ¬ ((sureV (decide (g.wl s d ≥ g.kill)) (decide (g.wh s d ≥ g.kill))) = 0) := by simpa using g38
                            refine And.intro rfl (Exists.intro (.bool false) (And.intro rfl ?_))
                            refine And.intro rfl (Exists.intro (.bool false) (And.intro rfl ?_))
                            refine condF ?_
                            intro t39 g39; cases t39
                            · have g39 : ¬ ((sureV (decide (g.sm s (Nat.testBit (dayMask us)) d > g.bear)) (decide (g.sl s (Nat.testBit (dayMask us)) d > g.bear))) ≠ 2) := by simpa using g39
                              refine And.intro rfl (Exists.intro (.bool false) (And.intro rfl ?_))
                              refine And.intro rfl (Exists.intro (.bool false) (And.intro rfl ?_))
                              refine And.intro rfl (Exists.intro (.bool false) (And.intro rfl ?_))
                              exfalso; have h1 := of_decide_eq_true (sure_two (Classical.not_not.1 g39)); have h2 := of_decide_eq_false hhh; omega
                            · have g39 : (sureV (decide (g.sm s (Nat.testBit (dayMask us)) d > g.bear)) (decide (g.sl s (Nat.testBit (dayMask us)) d > g.bear))) ≠ 2 := by simpa using g39
                              refine And.intro rfl (Exists.intro (.bool true) (And.intro rfl ?_))
                              intro t40 g40; cases t40
                              · have g40 : ¬ ((sureV (decide (g.sm s (Nat.testBit (dayMask us)) d > g.bear)) (decide (g.sl s (Nat.testBit (dayMask us)) d > g.bear))) ≠ 0) := by simpa using g40
                                refine And.intro rfl (Exists.intro (.bool true) (And.intro rfl ?_))
                                refine And.intro rfl (Exists.intro (.bool true) (And.intro rfl ?_))
                                refine And.intro rfl (Exists.intro (.bool true) (And.intro rfl ?_))
                                refine al _ _ ?_
                                refine And.intro rfl (Exists.intro (.bool true) (And.intro rfl ?_))
                                exact And.intro trivial (Exists.intro _ (And.intro rfl rfl))
                              · have g40 : (sureV (decide (g.sm s (Nat.testBit (dayMask us)) d > g.bear)) (decide (g.sl s (Nat.testBit (dayMask us)) d > g.bear))) ≠ 0 := by simpa using g40
                                refine And.intro rfl (Exists.intro (.bool true) (And.intro rfl ?_))
                                refine And.intro rfl (Exists.intro (.bool true) (And.intro rfl ?_))
                                refine al _ _ ?_
                                refine And.intro rfl (Exists.intro (.bool true) (And.intro rfl ?_))
                                exact And.intro trivial (Exists.intro _ (And.intro rfl rfl))
                          · have g38 : (sureV (decide (g.wl s d ≥ g.kill)) (decide (g.wh s d ≥ g.kill))) = 0 := by simpa using g38
                            refine And.intro rfl (Exists.intro (.bool true) (And.intro rfl ?_))
                            refine And.intro rfl (Exists.intro (.bool true) (And.intro rfl ?_))
                            exfalso; have h1 := of_decide_eq_false (sure_zero g38); have h2 := of_decide_eq_true hkk; omega
                        · have g37 : (sureV (decide (g.wl s d ≥ g.kill)) (decide (g.wh s d ≥ g.kill))) = 2 := by simpa using g37
                          refine And.intro rfl (Exists.intro (.bool false) (And.intro rfl ?_))
                          refine And.intro rfl (Exists.intro (.bool false) (And.intro rfl ?_))
                          refine And.intro rfl (Exists.intro (.bool false) (And.intro rfl ?_))
                          intro t41 g41; cases t41
                          · have g41 : ¬ ((sureV (decide (g.wl s d ≥ g.kill)) (decide (g.wh s d ≥ g.kill))) = 0) := by simpa using g41
                            refine And.intro rfl (Exists.intro (.bool false) (And.intro rfl ?_))
                            refine And.intro rfl (Exists.intro (.bool false) (And.intro rfl ?_))
                            refine condF ?_
                            intro t42 g42; cases t42
                            · have g42 : ¬ ((sureV (decide (g.sm s (Nat.testBit (dayMask us)) d > g.bear)) (decide (g.sl s (Nat.testBit (dayMask us)) d > g.bear))) ≠ 2) := by simpa using g42
                              refine And.intro rfl (Exists.intro (.bool false) (And.intro rfl ?_))
                              refine And.intro rfl (Exists.intro (.bool false) (And.intro rfl ?_))
                              refine And.intro rfl (Exists.intro (.bool false) (And.intro rfl ?_))
                              exfalso; have h1 := of_decide_eq_true (sure_two (Classical.not_not.1 g42)); have h2 := of_decide_eq_false hhh; omega
                            · have g42 : (sureV (decide (g.sm s (Nat.testBit (dayMask us)) d > g.bear)) (decide (g.sl s (Nat.testBit (dayMask us)) d > g.bear))) ≠ 2 := by simpa using g42
                              refine And.intro rfl (Exists.intro (.bool true) (And.intro rfl ?_))
                              intro t43 g43; cases t43
                              · have g43 : ¬ ((sureV (decide (g.sm s (Nat.testBit (dayMask us)) d > g.bear)) (decide (g.sl s (Nat.testBit (dayMask us)) d > g.bear))) ≠ 0) := by simpa using g43
                                refine And.intro rfl (Exists.intro (.bool true) (And.intro rfl ?_))
                                refine And.intro rfl (Exists.intro (.bool true) (And.intro rfl ?_))
                                refine And.intro rfl (Exists.intro (.bool true) (And.intro rfl ?_))
                                refine al _ _ ?_
                                refine And.intro rfl (Exists.intro (.bool true) (And.intro rfl ?_))
                                exact And.intro trivial (Exists.intro _ (And.intro rfl rfl))
                              · have g43 : (sureV (decide (g.sm s (Nat.testBit (dayMask us)) d > g.bear)) (decide (g.sl s (Nat.testBit (dayMask us)) d > g.bear))) ≠ 0 := by simpa using g43
                                refine And.intro rfl (Exists.intro (.bool true) (And.intro rfl ?_))
                                refine And.intro rfl (Exists.intro (.bool true) (And.intro rfl ?_))
                                refine al _ _ ?_
                                refine And.intro rfl (Exists.intro (.bool true) (And.intro rfl ?_))
                                exact And.intro trivial (Exists.intro _ (And.intro rfl rfl))
                          · have g41 : (sureV (decide (g.wl s d ≥ g.kill)) (decide (g.wh s d ≥ g.kill))) = 0 := by simpa using g41
                            refine And.intro rfl (Exists.intro (.bool true) (And.intro rfl ?_))
                            refine And.intro rfl (Exists.intro (.bool true) (And.intro rfl ?_))
                            exfalso; omega
                      · have g36 : (g.ts bs s d) > (g.wh s d) := of_decide_eq_true g36
                        exfalso; omega
                    · have g35 : (g.ts bs s d) < (g.wl s d) := of_decide_eq_true g35
                      exfalso; omega
                  · refine wD_addo (b := H.next) (o := 0) rfl ?_
                    refine wD_ld (b := H.next) (o := 12) (v := iv g.bear) rfl c1.rd rfl ?_
                    refine wD_k_gtr true rfl rfl hhh ?_
                    refine wD_mov (v := .bool true) rfl ?_
                    refine wD_mov (v := .bool true) rfl ?_
                    refine wD_end (by repeat' first | exact True.intro | exact (fun h => h) | refine And.intro ?_ ?_ | (intro h; have h : (_ : Nat) = _ := h; omega)) ?_
                    refine Exists.intro _ (Exists.intro _ (And.intro c14.of (And.intro (show _ = some (iv (g.wl s d)) from rfl) ?_)))
                    intro t44 g44; cases t44
                    · have g44 : ¬ ((g.ts bs s d) < (g.wl s d)) := of_decide_eq_false g44
                      refine Exists.intro _ (Exists.intro _ (And.intro c14.of (And.intro (show _ = some (iv (g.wh s d)) from rfl) ?_)))
                      intro t45 g45; cases t45
                      · have g45 : ¬ ((g.ts bs s d) > (g.wh s d)) := of_decide_eq_false g45
                        refine And.intro rfl (Exists.intro (.bool false) (And.intro rfl ?_))
                        intro t46 g46; cases t46
                        · have g46 : ¬ ((sureV (decide (g.wl s d ≥ g.kill)) (decide (g.wh s d ≥ g.kill))) = 2) := by simpa using g46
                          refine And.intro rfl (Exists.intro (.bool false) (And.intro rfl ?_))
                          refine And.intro rfl (Exists.intro (.bool false) (And.intro rfl ?_))
                          intro t47 g47; cases t47
                          · have g47 : ¬ ((sureV (decide (g.wl s d ≥ g.kill)) (decide (g.wh s d ≥ g.kill))) = 0) := by simpa using g47
                            refine And.intro rfl (Exists.intro (.bool false) (And.intro rfl ?_))
                            refine And.intro rfl (Exists.intro (.bool false) (And.intro rfl ?_))
                            refine condF ?_
                            intro t48 g48; cases t48
                            · have g48 : ¬ ((sureV (decide (g.sm s (Nat.testBit (dayMask us)) d > g.bear)) (decide (g.sl s (Nat.testBit (dayMask us)) d > g.bear))) ≠ 2) := by simpa using g48
                              refine And.intro rfl (Exists.intro (.bool true) (And.intro rfl ?_))
                              intro t49 g49; cases t49
                              · have g49 : ¬ ((sureV (decide (g.sm s (Nat.testBit (dayMask us)) d > g.bear)) (decide (g.sl s (Nat.testBit (dayMask us)) d > g.bear))) ≠ 0) := by simpa using g49
                                refine And.intro rfl (Exists.intro (.bool false) (And.intro rfl ?_))
                                refine And.intro rfl (Exists.intro (.bool false) (And.intro rfl ?_))
                                refine And.intro rfl (Exists.intro (.bool false) (And.intro rfl ?_))
                                refine And.intro rfl (Exists.intro (.bool false) (And.intro rfl ?_))
                                exfalso; omega
                              · have g49 : (sureV (decide (g.sm s (Nat.testBit (dayMask us)) d > g.bear)) (decide (g.sl s (Nat.testBit (dayMask us)) d > g.bear))) ≠ 0 := by simpa using g49
                                refine And.intro rfl (Exists.intro (.bool true) (And.intro rfl ?_))
                                refine And.intro rfl (Exists.intro (.bool true) (And.intro rfl ?_))
                                refine al _ _ ?_
                                refine And.intro rfl (Exists.intro (.bool true) (And.intro rfl ?_))
                                exact And.intro trivial (Exists.intro _ (And.intro rfl rfl))
                            · have g48 : (sureV (decide (g.sm s (Nat.testBit (dayMask us)) d > g.bear)) (decide (g.sl s (Nat.testBit (dayMask us)) d > g.bear))) ≠ 2 := by simpa using g48
                              refine And.intro rfl (Exists.intro (.bool true) (And.intro rfl ?_))
                              intro t50 g50; cases t50
                              · have g50 : ¬ ((sureV (decide (g.sm s (Nat.testBit (dayMask us)) d > g.bear)) (decide (g.sl s (Nat.testBit (dayMask us)) d > g.bear))) ≠ 0) := by simpa using g50
                                refine And.intro rfl (Exists.intro (.bool false) (And.intro rfl ?_))
                                refine And.intro rfl (Exists.intro (.bool false) (And.intro rfl ?_))
                                refine And.intro rfl (Exists.intro (.bool false) (And.intro rfl ?_))
                                refine And.intro rfl (Exists.intro (.bool false) (And.intro rfl ?_))
                                exfalso; have h1 := of_decide_eq_false (sure_zero (Classical.not_not.1 g50)); have h2 := of_decide_eq_true hhh; omega
                              · have g50 : (sureV (decide (g.sm s (Nat.testBit (dayMask us)) d > g.bear)) (decide (g.sl s (Nat.testBit (dayMask us)) d > g.bear))) ≠ 0 := by simpa using g50
                                refine And.intro rfl (Exists.intro (.bool true) (And.intro rfl ?_))
                                refine And.intro rfl (Exists.intro (.bool true) (And.intro rfl ?_))
                                refine al _ _ ?_
                                refine And.intro rfl (Exists.intro (.bool true) (And.intro rfl ?_))
                                exact And.intro trivial (Exists.intro _ (And.intro rfl rfl))
                          · have g47 : (sureV (decide (g.wl s d ≥ g.kill)) (decide (g.wh s d ≥ g.kill))) = 0 := by simpa using g47
                            refine And.intro rfl (Exists.intro (.bool true) (And.intro rfl ?_))
                            refine And.intro rfl (Exists.intro (.bool true) (And.intro rfl ?_))
                            exfalso; have h1 := of_decide_eq_false (sure_zero g47); have h2 := of_decide_eq_true hkk; omega
                        · have g46 : (sureV (decide (g.wl s d ≥ g.kill)) (decide (g.wh s d ≥ g.kill))) = 2 := by simpa using g46
                          refine And.intro rfl (Exists.intro (.bool false) (And.intro rfl ?_))
                          refine And.intro rfl (Exists.intro (.bool false) (And.intro rfl ?_))
                          refine And.intro rfl (Exists.intro (.bool false) (And.intro rfl ?_))
                          intro t51 g51; cases t51
                          · have g51 : ¬ ((sureV (decide (g.wl s d ≥ g.kill)) (decide (g.wh s d ≥ g.kill))) = 0) := by simpa using g51
                            refine And.intro rfl (Exists.intro (.bool false) (And.intro rfl ?_))
                            refine And.intro rfl (Exists.intro (.bool false) (And.intro rfl ?_))
                            refine condF ?_
                            intro t52 g52; cases t52
                            · have g52 : ¬ ((sureV (decide (g.sm s (Nat.testBit (dayMask us)) d > g.bear)) (decide (g.sl s (Nat.testBit (dayMask us)) d > g.bear))) ≠ 2) := by simpa using g52
                              refine And.intro rfl (Exists.intro (.bool true) (And.intro rfl ?_))
                              intro t53 g53; cases t53
                              · have g53 : ¬ ((sureV (decide (g.sm s (Nat.testBit (dayMask us)) d > g.bear)) (decide (g.sl s (Nat.testBit (dayMask us)) d > g.bear))) ≠ 0) := by simpa using g53
                                refine And.intro rfl (Exists.intro (.bool false) (And.intro rfl ?_))
                                refine And.intro rfl (Exists.intro (.bool false) (And.intro rfl ?_))
                                refine And.intro rfl (Exists.intro (.bool false) (And.intro rfl ?_))
                                refine And.intro rfl (Exists.intro (.bool false) (And.intro rfl ?_))
                                exfalso; omega
                              · have g53 : (sureV (decide (g.sm s (Nat.testBit (dayMask us)) d > g.bear)) (decide (g.sl s (Nat.testBit (dayMask us)) d > g.bear))) ≠ 0 := by simpa using g53
                                refine And.intro rfl (Exists.intro (.bool true) (And.intro rfl ?_))
                                refine And.intro rfl (Exists.intro (.bool true) (And.intro rfl ?_))
                                refine al _ _ ?_
                                refine And.intro rfl (Exists.intro (.bool true) (And.intro rfl ?_))
                                exact And.intro trivial (Exists.intro _ (And.intro rfl rfl))
                            · have g52 : (sureV (decide (g.sm s (Nat.testBit (dayMask us)) d > g.bear)) (decide (g.sl s (Nat.testBit (dayMask us)) d > g.bear))) ≠ 2 := by simpa using g52
                              refine And.intro rfl (Exists.intro (.bool true) (And.intro rfl ?_))
                              intro t54 g54; cases t54
                              · have g54 : ¬ ((sureV (decide (g.sm s (Nat.testBit (dayMask us)) d > g.bear)) (decide (g.sl s (Nat.testBit (dayMask us)) d > g.bear))) ≠ 0) := by simpa using g54
                                refine And.intro rfl (Exists.intro (.bool false) (And.intro rfl ?_))
                                refine And.intro rfl (Exists.intro (.bool false) (And.intro rfl ?_))
                                refine And.intro rfl (Exists.intro (.bool false) (And.intro rfl ?_))
                                refine And.intro rfl (Exists.intro (.bool false) (And.intro rfl ?_))
                                exfalso; have h1 := of_decide_eq_false (sure_zero (Classical.not_not.1 g54)); have h2 := of_decide_eq_true hhh; omega
                              · have g54 : (sureV (decide (g.sm s (Nat.testBit (dayMask us)) d > g.bear)) (decide (g.sl s (Nat.testBit (dayMask us)) d > g.bear))) ≠ 0 := by simpa using g54
                                refine And.intro rfl (Exists.intro (.bool true) (And.intro rfl ?_))
                                refine And.intro rfl (Exists.intro (.bool true) (And.intro rfl ?_))
                                refine al _ _ ?_
                                refine And.intro rfl (Exists.intro (.bool true) (And.intro rfl ?_))
                                exact And.intro trivial (Exists.intro _ (And.intro rfl rfl))
                          · have g51 : (sureV (decide (g.wl s d ≥ g.kill)) (decide (g.wh s d ≥ g.kill))) = 0 := by simpa using g51
                            refine And.intro rfl (Exists.intro (.bool true) (And.intro rfl ?_))
                            refine And.intro rfl (Exists.intro (.bool true) (And.intro rfl ?_))
                            exfalso; omega
                      · have g45 : (g.ts bs s d) > (g.wh s d) := of_decide_eq_true g45
                        exfalso; omega
                    · have g44 : (g.ts bs s d) < (g.wl s d) := of_decide_eq_true g44
                      exfalso; omega
            · have g12 : (d : Int) ≠ (d : Int) := by simpa using g12
              exact absurd rfl g12
    · have g1 : (bs.length : Int) = 0 := by simpa using g1
      refine And.intro rfl (Exists.intro (.bool true) (And.intro rfl ?_))
      refine condT ?_
      refine al _ _ ?_
      exact And.intro trivial (Exists.intro _ (And.intro rfl rfl))
  · refine And.intro rfl (Exists.intro (.bool true) (And.intro rfl ?_))
    refine condT ?_
    refine al _ _ ?_
    exact And.intro trivial (Exists.intro _ (And.intro rfl rfl))
end
end Go.Ax

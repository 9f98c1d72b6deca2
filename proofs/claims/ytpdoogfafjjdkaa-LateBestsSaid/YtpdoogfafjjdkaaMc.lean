import Derived.Test.YtpdoogfafjjdkaaMb
import Derived.Test.YtpdoogfafjjdkaaAxW9
import Derived.Test.YtpdoogfafjjdkaaChecked
import Derived.Test.YtpdoogfafjjdkaaAxW10
set_option linter.all false
/-
  Late: what a law looks at (13), the document's validity (49, 56, 33, 34), what is true (35) (written by program).
-/
namespace Go.Ax
open Go Go.RowKit Go.Proofs

section
variable {kn : FuncId → Option Bool} {lo : Nat} {H : Hp}
theorem great_ok {g : Lt} {la : Option Addr} {n cap : Nat} : ∃ H', FnX Try.prog kn lo 13 [.agg g.v.toArray, .slice la n cap] H (.bool (decide (g.wn > 45) || decide (g.an > 45) || decide (n > 45))) H' ∧ Keep H H' [] := by
  have key := fnX_low (kn := kn) (lo := lo) (H := H) (args := [.agg g.v.toArray, .slice la n cap]) (Q := fun w H' => w = .bool (decide (g.wn > 45) || decide (g.an > 45) || decide (n > 45)) ∧ Keep H H' []) Try.func13 B13 N13 Z13 L13 (by simp) ?_
  · obtain ⟨w, H', h, rfl, q⟩ := key; exact ⟨H', h, q⟩
  have hk := Keep.refl H []
  intro H1 hH1; obtain ⟨kH1, nH1, c1⟩ := new_facts hH1; clear hH1
  have mH1 := kH1.1
  have hk := hk.trans kH1
  have c1 : Cl H1 H.next [.slice g.wa g.wn g.wcap, .slice g.aa g.an g.acap, iv g.r1, iv g.r2, iv g.f1, iv g.f2, iv g.g1, iv g.g2, iv g.full, iv g.base, iv g.kill, iv g.need, iv g.bear] := c1
  refine Exists.intro _ (Exists.intro _ (And.intro c1.of (And.intro (show _ = some (.slice g.wa g.wn g.wcap) from rfl) ?_)))
  intro t1 g1; cases t1
  · have g1 : ¬ ((g.wn : Int) > 45) := of_decide_eq_false g1
    refine Exists.intro _ (Exists.intro _ (And.intro c1.of (And.intro (show _ = some (.slice g.aa g.an g.acap) from rfl) ?_)))
    intro t2 g2; cases t2
    · have g2 : ¬ ((g.an : Int) > 45) := of_decide_eq_false g2
      refine And.intro rfl (Exists.intro (.bool false) (And.intro rfl ?_))
      intro t3 g3; cases t3
      · have g3 : ¬ ((n : Int) > 45) := of_decide_eq_false g3
        refine And.intro rfl (Exists.intro (.bool false) (And.intro rfl ?_))
        exact And.intro trivial (Exists.intro _ (And.intro rfl ⟨by show Value.bool false = _; congr 1; symm; simp; omega, hk⟩))
      · have g3 : (n : Int) > 45 := of_decide_eq_true g3
        refine And.intro rfl (Exists.intro (.bool true) (And.intro rfl ?_))
        exact And.intro trivial (Exists.intro _ (And.intro rfl ⟨by show Value.bool true = _; congr 1; symm; simp; omega, hk⟩))
    · have g2 : (g.an : Int) > 45 := of_decide_eq_true g2
      refine And.intro rfl (Exists.intro (.bool true) (And.intro rfl ?_))
      refine And.intro rfl (Exists.intro (.bool true) (And.intro rfl ?_))
      exact And.intro trivial (Exists.intro _ (And.intro rfl ⟨by show Value.bool true = _; congr 1; symm; simp; omega, hk⟩))
  · have g1 : (g.wn : Int) > 45 := of_decide_eq_true g1
    refine And.intro rfl (Exists.intro (.bool true) (And.intro rfl ?_))
    refine And.intro rfl (Exists.intro (.bool true) (And.intro rfl ?_))
    exact And.intro trivial (Exists.intro _ (And.intro rfl ⟨by show Value.bool true = _; congr 1; symm; simp; omega, hk⟩))
theorem in49_ok {n a b : Int} : ∃ H', FnX Try.prog kn lo 49 [iv n, iv a, iv b] H (.bool (inB n a b)) H' ∧ Keep H H' [] := by
  have key := fnX_low (kn := kn) (lo := lo) (H := H) (args := [iv n, iv a, iv b]) (Q := fun w H' => w = .bool (inB n a b) ∧ Keep H H' []) Try.func49 B49 N49 Z49 L49 (by simp) ?_
  · obtain ⟨w, H', h, rfl, q⟩ := key; exact ⟨H', h, q⟩
  repeat' first
    | (intro t ht; cases t)
    | exact And.intro trivial (Exists.intro _ (And.intro rfl ⟨by simp_all [retV, inB] <;> (intros; omega), Keep.refl _ _⟩))
    | refine And.intro rfl (Exists.intro _ (And.intro rfl ?_))
theorem within56_ok {a b l m : Int} : ∃ H', FnX Try.prog kn lo 56 [spv a b, iv l, iv m] H (.bool (spanB a b l m)) H' ∧ Keep H H' [] := by
  have key := fnX_low (kn := kn) (lo := lo) (H := H) (args := [spv a b, iv l, iv m]) (Q := fun w H' => w = .bool (spanB a b l m) ∧ Keep H H' []) Try.func56 B56 N56 Z56 L56 (by simp) ?_
  · obtain ⟨w, H', h, rfl, q⟩ := key; exact ⟨H', h, q⟩
  intro H1 hH1
  obtain ⟨k1, n1, c1⟩ := new_facts hH1
  repeat' first
    | refine Exists.intro _ (Exists.intro _ (And.intro c1.of (And.intro rfl ?_)))
    | (intro t ht; cases t)
    | exact And.intro trivial (Exists.intro _ (And.intro rfl ⟨by simp_all [retV, spanB] <;> (intros; omega), k1⟩))
    | refine And.intro rfl (Exists.intro _ (And.intro rfl ?_))
theorem late33_ok {g : Lt} (hw : Sl H g.wa g.wn g.wcap (spc g.ws)) (ha : Sl H g.aa g.an g.acap (spc g.as)) (hwl : g.ws.length = g.wn) (hal : g.as.length = g.an) (hwn : g.wn ≤ 1000) (han : g.an ≤ 1000) :
    ∃ H', FnX Try.prog kn lo 33 [.agg g.v.toArray] H (.bool g.ok) H' ∧ Keep H H' [] := by
  have key := fnX_low (kn := kn) (lo := lo) (H := H) (args := [.agg g.v.toArray]) (Q := fun w H' => w = .bool g.ok ∧ Keep H H' []) Try.func33 B33 N33 Z33 L33 (by simp) ?_
  · obtain ⟨w, H', h, rfl, q⟩ := key; exact ⟨H', h, q⟩
  have hk := Keep.refl H []
  intro H1 hH1; obtain ⟨kH1, nH1, c1⟩ := new_facts hH1; clear hH1
  have mH1 := kH1.1
  have hk := hk.trans kH1
  have hw := kH1.sl0 hw
  have ha := kH1.sl0 ha
  have c1 : Cl H1 H.next [.slice g.wa g.wn g.wcap, .slice g.aa g.an g.acap, iv g.r1, iv g.r2, iv g.f1, iv g.f2, iv g.g1, iv g.g2, iv g.full, iv g.base, iv g.kill, iv g.need, iv g.bear] := c1
  refine Exists.intro _ (Exists.intro _ (And.intro c1.of (And.intro (show _ = some (.slice g.wa g.wn g.wcap) from rfl) ?_)))
  refine Exists.intro _ (Exists.intro _ (And.intro c1.of (And.intro (show _ = some (.slice g.aa g.an g.acap) from rfl) ?_)))
  intro t1 g1; cases t1
  · have g1 : ¬ ((g.wn : Int) ≠ (g.an : Int)) := by simpa using g1
    refine Exists.intro _ (Exists.intro _ (And.intro c1.of (And.intro (show _ = some (.slice g.wa g.wn g.wcap) from rfl) ?_)))
    intro t2 g2; cases t2
    · have g2 : ¬ ((g.wn : Int) > 40) := of_decide_eq_false g2
      refine And.intro rfl (Exists.intro (.bool false) (And.intro rfl ?_))
      refine condF ?_
      have hE : g.ok = ((g.ws.all fun s => spanB s.1 s.2 0 5000) && (g.as.all fun s => spanB s.1 s.2 0 20000) && spanB g.r1 g.r2 0 1000 && inB g.full 0 20000 && spanB g.f1 g.f2 0 g.full && spanB g.g1 g.g2 0 g.full && inB g.base 0 5000 && inB g.kill 0 1048576 && inB g.need 0 20000 && inB g.bear 0 40) := by
        unfold Lt.ok; rw [decide_eq_true (show g.wn = g.an by omega), decide_eq_true (show g.wn ≤ 40 by omega)]; simp only [Bool.true_and]
      refine loop_low (fn := Try.f33) E33_1 N33 L33x1 (fun i : Nat => [(1, pt H.next), (3, iv (i : Int))])
        (fun k i H' => i + k = g.wn ∧ Keep H1 H' [] ∧ ((g.ws.take i).all fun s => spanB s.1 s.2 0 5000) = true ∧ ((g.as.take i).all fun s => spanB s.1 s.2 0 20000) = true) g.wn 0 ⟨by omega, Keep.refl _ _, rfl, rfl⟩ ⟨rfl, rfl, trivial⟩ ?_
      rintro k i L1 ⟨hik, hki, hal1, hal2⟩
      have hk := hk.trans hki
      have hw := hki.sl0 hw
      have ha := hki.sl0 ha
      have c1 := hki.cl c1 (by simp)
      have kb := hki
      refine Exists.intro _ (Exists.intro _ (And.intro c1.of (And.intro (show _ = some (.slice g.wa g.wn g.wcap) from rfl) ?_)))
      refine And.intro (fun q3 => ?_) (fun q3 => ?_)
      · have q3 : (i : Int) < (g.wn : Int) := of_decide_eq_true q3
        have hi : i < g.wn := by omega
        obtain ⟨x, hx⟩ := get_some (l := g.ws) (i := i) (by omega)
        obtain ⟨y, hy⟩ := get_some (l := g.as) (i := i) (by omega)
        have hst1 := all_step (f := fun s : Int × Int => spanB s.1 s.2 0 5000) hx
        have hst2 := all_step (f := fun s : Int × Int => spanB s.1 s.2 0 20000) hy
        rcases hw with ⟨_, h0, _⟩ | ⟨wb, ewa, hwd, _⟩
        · omega
        rcases ha with ⟨_, h0, _⟩ | ⟨ab, eaa, had, _⟩
        · omega
        refine Exists.intro _ (Exists.intro _ (And.intro c1.of (And.intro (show _ = some (Value.slice (some ⟨wb, 0, none⟩) g.wn g.wcap) from by rw [← ewa]; rfl) ?_)))
        refine Exists.intro i (And.intro rfl (And.intro hi ?_))
        refine Exists.intro _ (Exists.intro _ (And.intro hwd.of (And.intro (spc_row hx) ?_)))
        refine callB (within56_ok) ?_
        intro tH2 H2 hH2 kH2
        have mH2 := kH2.1
        have hk := hk.trans kH2
        have c1 := kH2.cl c1 (by simp)
        have kb := kb.trans kH2
        have hwd := kH2.rd hwd (by simp)
        have had := kH2.rd had (by simp)
        cases tH2
        · have h1 := hH2
          refine And.intro rfl (Exists.intro (.bool true) (And.intro rfl ?_))
          refine And.intro rfl (Exists.intro (.bool true) (And.intro rfl ?_))
          refine condT ?_
          have e : g.ok = false := by rw [hE, all_fail (f := fun s : Int × Int => spanB s.1 s.2 0 5000) hx h1]; simp only [Bool.false_and]
          exact And.intro trivial (Exists.intro _ (And.intro rfl ⟨by rw [e]; rfl, hk⟩))
        · have h1 := hH2
          refine And.intro rfl (Exists.intro (.bool false) (And.intro rfl ?_))
          refine Exists.intro _ (Exists.intro _ (And.intro c1.of (And.intro (show _ = some (Value.slice (some ⟨ab, 0, none⟩) g.an g.acap) from by rw [← eaa]; rfl) ?_)))
          refine Exists.intro i (And.intro rfl (And.intro (by omega) ?_))
          refine Exists.intro _ (Exists.intro _ (And.intro had.of (And.intro (spc_row hy) ?_)))
          refine callB (within56_ok) ?_
          intro tH3 H3 hH3 kH3
          have mH3 := kH3.1
          have hk := hk.trans kH3
          have c1 := kH3.cl c1 (by simp)
          have kb := kb.trans kH3
          have hwd := kH3.rd hwd (by simp)
          have had := kH3.rd had (by simp)
          cases tH3
          · have h2 := hH3
            refine And.intro rfl (Exists.intro (.bool true) (And.intro rfl ?_))
            refine And.intro rfl (Exists.intro (.bool true) (And.intro rfl ?_))
            refine condT ?_
            have e : g.ok = false := by rw [hE, all_fail (f := fun s : Int × Int => spanB s.1 s.2 0 20000) hy h2]; simp only [Bool.and_false, Bool.false_and]
            exact And.intro trivial (Exists.intro _ (And.intro rfl ⟨by rw [e]; rfl, hk⟩))
          · have h2 := hH3
            refine And.intro rfl (Exists.intro (.bool false) (And.intro rfl ?_))
            refine And.intro rfl (Exists.intro (.bool false) (And.intro rfl ?_))
            refine condF ?_
            refine And.intro ⟨by omega, by omega⟩ ?_
            exact ⟨k - 1, i + 1, by omega, ⟨by omega, kb, by rw [hst1, hal1, h1]; rfl, by rw [hst2, hal2, h2]; rfl⟩, rfl, rfl, trivial⟩
      · have q3 : ¬ ((i : Int) < (g.wn : Int)) := of_decide_eq_false q3
        have e : i = g.wn := by omega
        subst e
        rw [List.take_of_length_le (by omega)] at hal1 hal2
        refine Exists.intro _ (Exists.intro _ (And.intro c1.of (And.intro (show _ = some (iv g.full) from rfl) ?_)))
        refine callB (in49_ok) ?_
        intro tH4 H4 hH4 kH4
        have mH4 := kH4.1
        have hk := hk.trans kH4
        have hw := kH4.sl0 hw
        have ha := kH4.sl0 ha
        have c1 := kH4.cl c1 (by simp)
        have kb := kb.trans kH4
        cases tH4
        · have h4 := hH4
          refine And.intro rfl (Exists.intro (.bool false) (And.intro rfl ?_))
          refine And.intro rfl (Exists.intro (.bool false) (And.intro rfl ?_))
          refine And.intro rfl (Exists.intro (.bool false) (And.intro rfl ?_))
          refine And.intro rfl (Exists.intro (.bool false) (And.intro rfl ?_))
          refine And.intro rfl (Exists.intro (.bool false) (And.intro rfl ?_))
          refine And.intro rfl (Exists.intro (.bool false) (And.intro rfl ?_))
          refine And.intro rfl (Exists.intro (.bool false) (And.intro rfl ?_))
          have e : g.ok = false := by rw [hE]; simp only [hal1, hal2, h4, Bool.and_true, Bool.true_and, Bool.and_false, Bool.false_and]
          exact And.intro trivial (Exists.intro _ (And.intro rfl ⟨by rw [e]; rfl, hk⟩))
        · have h4 := hH4
          refine Exists.intro _ (Exists.intro _ (And.intro c1.of (And.intro (show row 2 _ _ = some [iv g.f1, iv g.f2] from rfl) ?_)))
          refine Exists.intro _ (Exists.intro _ (And.intro c1.of (And.intro (show _ = some (iv g.full) from rfl) ?_)))
          refine callB (within56_ok) ?_
          intro tH5 H5 hH5 kH5
          have mH5 := kH5.1
          have hk := hk.trans kH5
          have hw := kH5.sl0 hw
          have ha := kH5.sl0 ha
          have c1 := kH5.cl c1 (by simp)
          have kb := kb.trans kH5
          cases tH5
          · have h5 := hH5
            refine And.intro rfl (Exists.intro (.bool false) (And.intro rfl ?_))
            refine And.intro rfl (Exists.intro (.bool false) (And.intro rfl ?_))
            refine And.intro rfl (Exists.intro (.bool false) (And.intro rfl ?_))
            refine And.intro rfl (Exists.intro (.bool false) (And.intro rfl ?_))
            refine And.intro rfl (Exists.intro (.bool false) (And.intro rfl ?_))
            refine And.intro rfl (Exists.intro (.bool false) (And.intro rfl ?_))
            refine And.intro rfl (Exists.intro (.bool false) (And.intro rfl ?_))
            have e : g.ok = false := by rw [hE]; simp only [hal1, hal2, h4, h5, Bool.and_true, Bool.true_and, Bool.and_false, Bool.false_and]
            exact And.intro trivial (Exists.intro _ (And.intro rfl ⟨by rw [e]; rfl, hk⟩))
          · have h5 := hH5
            refine And.intro rfl (Exists.intro (.bool true) (And.intro rfl ?_))
            refine Exists.intro _ (Exists.intro _ (And.intro c1.of (And.intro (show row 2 _ _ = some [iv g.g1, iv g.g2] from rfl) ?_)))
            refine Exists.intro _ (Exists.intro _ (And.intro c1.of (And.intro (show _ = some (iv g.full) from rfl) ?_)))
            refine callB (within56_ok) ?_
            intro tH6 H6 hH6 kH6
            have mH6 := kH6.1
            have hk := hk.trans kH6
            have hw := kH6.sl0 hw
            have ha := kH6.sl0 ha
            have c1 := kH6.cl c1 (by simp)
            have kb := kb.trans kH6
            cases tH6
            · have h6 := hH6
              refine And.intro rfl (Exists.intro (.bool false) (And.intro rfl ?_))
              refine And.intro rfl (Exists.intro (.bool false) (And.intro rfl ?_))
              refine And.intro rfl (Exists.intro (.bool false) (And.intro rfl ?_))
              refine And.intro rfl (Exists.intro (.bool false) (And.intro rfl ?_))
              refine And.intro rfl (Exists.intro (.bool false) (And.intro rfl ?_))
              refine And.intro rfl (Exists.intro (.bool false) (And.intro rfl ?_))
              have e : g.ok = false := by rw [hE]; simp only [hal1, hal2, h4, h5, h6, Bool.and_true, Bool.true_and, Bool.and_false, Bool.false_and]
              exact And.intro trivial (Exists.intro _ (And.intro rfl ⟨by rw [e]; rfl, hk⟩))
            · have h6 := hH6
              refine And.intro rfl (Exists.intro (.bool true) (And.intro rfl ?_))
              refine Exists.intro _ (Exists.intro _ (And.intro c1.of (And.intro (show row 2 _ _ = some [iv g.r1, iv g.r2] from rfl) ?_)))
              refine callB (within56_ok) ?_
              intro tH7 H7 hH7 kH7
              have mH7 := kH7.1
              have hk := hk.trans kH7
              have hw := kH7.sl0 hw
              have ha := kH7.sl0 ha
              have c1 := kH7.cl c1 (by simp)
              have kb := kb.trans kH7
              cases tH7
              · have h7 := hH7
                refine And.intro rfl (Exists.intro (.bool false) (And.intro rfl ?_))
                refine And.intro rfl (Exists.intro (.bool false) (And.intro rfl ?_))
                refine And.intro rfl (Exists.intro (.bool false) (And.intro rfl ?_))
                refine And.intro rfl (Exists.intro (.bool false) (And.intro rfl ?_))
                refine And.intro rfl (Exists.intro (.bool false) (And.intro rfl ?_))
                have e : g.ok = false := by rw [hE]; simp only [hal1, hal2, h4, h5, h6, h7, Bool.and_true, Bool.true_and, Bool.and_false, Bool.false_and]
                exact And.intro trivial (Exists.intro _ (And.intro rfl ⟨by rw [e]; rfl, hk⟩))
              · have h7 := hH7
                refine And.intro rfl (Exists.intro (.bool true) (And.intro rfl ?_))
                refine Exists.intro _ (Exists.intro _ (And.intro c1.of (And.intro (show _ = some (iv g.base) from rfl) ?_)))
                refine callB (in49_ok) ?_
                intro tH8 H8 hH8 kH8
                have mH8 := kH8.1
                have hk := hk.trans kH8
                have hw := kH8.sl0 hw
                have ha := kH8.sl0 ha
                have c1 := kH8.cl c1 (by simp)
                have kb := kb.trans kH8
                cases tH8
                · have h8 := hH8
                  refine And.intro rfl (Exists.intro (.bool false) (And.intro rfl ?_))
                  refine And.intro rfl (Exists.intro (.bool false) (And.intro rfl ?_))
                  refine And.intro rfl (Exists.intro (.bool false) (And.intro rfl ?_))
                  refine And.intro rfl (Exists.intro (.bool false) (And.intro rfl ?_))
                  have e : g.ok = false := by rw [hE]; simp only [hal1, hal2, h4, h5, h6, h7, h8, Bool.and_true, Bool.true_and, Bool.and_false, Bool.false_and]
                  exact And.intro trivial (Exists.intro _ (And.intro rfl ⟨by rw [e]; rfl, hk⟩))
                · have h8 := hH8
                  refine And.intro rfl (Exists.intro (.bool true) (And.intro rfl ?_))
                  refine Exists.intro _ (Exists.intro _ (And.intro c1.of (And.intro (show _ = some (iv g.kill) from rfl) ?_)))
                  refine callB (in49_ok) ?_
                  intro tH9 H9 hH9 kH9
                  have mH9 := kH9.1
                  have hk := hk.trans kH9
                  have hw := kH9.sl0 hw
                  have ha := kH9.sl0 ha
                  have c1 := kH9.cl c1 (by simp)
                  have kb := kb.trans kH9
                  cases tH9
                  · have h9 := hH9
                    refine And.intro rfl (Exists.intro (.bool false) (And.intro rfl ?_))
                    refine And.intro rfl (Exists.intro (.bool false) (And.intro rfl ?_))
                    refine And.intro rfl (Exists.intro (.bool false) (And.intro rfl ?_))
                    have e : g.ok = false := by rw [hE]; simp only [hal1, hal2, h4, h5, h6, h7, h8, h9, Bool.and_true, Bool.true_and, Bool.and_false, Bool.false_and]
                    exact And.intro trivial (Exists.intro _ (And.intro rfl ⟨by rw [e]; rfl, hk⟩))
                  · have h9 := hH9
                    refine And.intro rfl (Exists.intro (.bool true) (And.intro rfl ?_))
                    refine Exists.intro _ (Exists.intro _ (And.intro c1.of (And.intro (show _ = some (iv g.need) from rfl) ?_)))
                    refine callB (in49_ok) ?_
                    intro tH10 H10 hH10 kH10
                    have mH10 := kH10.1
                    have hk := hk.trans kH10
                    have hw := kH10.sl0 hw
                    have ha := kH10.sl0 ha
                    have c1 := kH10.cl c1 (by simp)
                    have kb := kb.trans kH10
                    cases tH10
                    · have h10 := hH10
                      refine And.intro rfl (Exists.intro (.bool false) (And.intro rfl ?_))
                      refine And.intro rfl (Exists.intro (.bool false) (And.intro rfl ?_))
                      have e : g.ok = false := by rw [hE]; simp only [hal1, hal2, h4, h5, h6, h7, h8, h9, h10, Bool.and_true, Bool.true_and, Bool.and_false, Bool.false_and]
                      exact And.intro trivial (Exists.intro _ (And.intro rfl ⟨by rw [e]; rfl, hk⟩))
                    · have h10 := hH10
                      refine And.intro rfl (Exists.intro (.bool true) (And.intro rfl ?_))
                      refine Exists.intro _ (Exists.intro _ (And.intro c1.of (And.intro (show _ = some (iv g.bear) from rfl) ?_)))
                      refine callB (in49_ok) ?_
                      intro tH11 H11 hH11 kH11
                      have mH11 := kH11.1
                      have hk := hk.trans kH11
                      have hw := kH11.sl0 hw
                      have ha := kH11.sl0 ha
                      have c1 := kH11.cl c1 (by simp)
                      have kb := kb.trans kH11
                      cases tH11
                      · have h11 := hH11
                        refine And.intro rfl (Exists.intro (.bool false) (And.intro rfl ?_))
                        have e : g.ok = false := by rw [hE]; simp only [hal1, hal2, h4, h5, h6, h7, h8, h9, h10, h11, Bool.and_true, Bool.true_and, Bool.and_false, Bool.false_and]
                        exact And.intro trivial (Exists.intro _ (And.intro rfl ⟨by rw [e]; rfl, hk⟩))
                      · have h11 := hH11
                        refine And.intro rfl (Exists.intro (.bool true) (And.intro rfl ?_))
                        have e : g.ok = true := by rw [hE]; simp only [hal1, hal2, h4, h5, h6, h7, h8, h9, h10, h11, Bool.and_true, Bool.true_and, Bool.and_false, Bool.false_and]
                        exact And.intro trivial (Exists.intro _ (And.intro rfl ⟨by rw [e]; rfl, hk⟩))
    · have g2 : (g.wn : Int) > 40 := of_decide_eq_true g2
      refine And.intro rfl (Exists.intro (.bool true) (And.intro rfl ?_))
      refine condT ?_
      have e : g.ok = false := by unfold Lt.ok; rw [decide_eq_false (show ¬ g.wn ≤ 40 by omega)]; simp only [Bool.and_false, Bool.false_and]
      exact And.intro trivial (Exists.intro _ (And.intro rfl ⟨by rw [e]; rfl, hk⟩))
  · have g1 : (g.wn : Int) ≠ (g.an : Int) := by simpa using g1
    refine And.intro rfl (Exists.intro (.bool true) (And.intro rfl ?_))
    refine condT ?_
    have e : g.ok = false := by unfold Lt.ok; rw [decide_eq_false (show ¬ g.wn = g.an by omega)]; rfl
    exact And.intro trivial (Exists.intro _ (And.intro rfl ⟨by rw [e]; rfl, hk⟩))
end
end Go.Ax

/-
  Late: what is true of a flood, by remainders (35) (written by program).
-/
namespace Go.Ax
open Go Go.RowKit Go.Proofs

section
variable {kn : FuncId → Option Bool} {lo : Nat} {H : Hp}
end
end Go.Ax

/-
  Late: the law LateTrue, whatever the input (written by program).
-/
namespace Go.Ax
open Go Go.RowKit Go.Proofs

theorem sure_two {a s : Bool} (h : sureV a s = 2) : a = true := by cases a <;> cases s <;> simp [sureV] at h ⊢
theorem sure_zero {a s : Bool} (h : sureV a s = 0) : s = false := by cases a <;> cases s <;> simp [sureV] at h ⊢
theorem flB_of {g : Lt} {s d : Nat} (h : s + d ≤ g.wn) : flB g s d = true := by
  unfold flB inB
  simp only [Bool.and_eq_true, decide_eq_true_eq]
  omega
theorem Lt.Tl.c0 {g : Lt} {a b : Int} {us : List Int} {w : Value} (h : g.Tl a b us w) (hok : g.ok = false) : w = .tuple #[iv 0, iv 0, iv 1] := by
  rcases h with ⟨_, h⟩ | ⟨h, _⟩ | ⟨h, _⟩
  · exact h
  · rw [hok] at h; cases h
  · rw [hok] at h; cases h
theorem Lt.Tl.c1 {g : Lt} {a b : Int} {us : List Int} {w : Value} (h : g.Tl a b us w) (hok : g.ok = true) (hf : (flB g a b && setB a (a + b) us) = false) : w = .tuple #[iv 0, iv 0, iv 2] := by
  rcases h with ⟨h, _⟩ | ⟨_, _, h⟩ | ⟨_, s, d, rfl, rfl, h1, h2, _⟩
  · rw [hok] at h; cases h
  · exact h
  · rw [flB_of h1, h2] at hf; exact absurd hf (by decide)
theorem Lt.Tl.c2 {g : Lt} {s d : Nat} {us : List Int} {w : Value} (h : g.Tl s d us w) (hok : g.ok = true) (hsd : s + d ≤ g.wn) (hset : setB s (s + d) us = true) : w = .tuple #[iv (sureV (decide (g.wl s d ≥ g.kill)) (decide (g.wh s d ≥ g.kill))), iv (sureV (decide (g.sm s (Nat.testBit (dayMask us)) d > g.bear)) (decide (g.sl s (Nat.testBit (dayMask us)) d > g.bear))), iv 0] := by
  rcases h with ⟨h, _⟩ | ⟨_, h, _⟩ | ⟨_, s', d', e1, e2, _, _, h⟩
  · rw [hok] at h; cases h
  · rw [flB_of hsd, hset] at h; exact absurd h (by decide)
  · obtain rfl : s = s' := by omega
    obtain rfl : d = d' := by omega
    exact h
theorem Lt.Wm.any {g : Lt} {a b : Int} {w : Value} (h : g.Wm a b w) : ∃ p q e : Int, w = .tuple #[spv p q, iv e] := by
  rcases h with ⟨_, h⟩ | ⟨_, _, h⟩ | ⟨_, _, _, _, _, _, h⟩ <;> exact ⟨_, _, _, h⟩
theorem Lt.Wm.c2 {g : Lt} {s d : Nat} {w : Value} (h : g.Wm s d w) (hok : g.ok = true) (hsd : s + d ≤ g.wn) : w = .tuple #[spv (g.wl s d) (g.wh s d), iv 0] := by
  rcases h with ⟨h, _⟩ | ⟨_, h, _⟩ | ⟨_, s', d', e1, e2, _, h⟩
  · rw [hok] at h; cases h
  · rw [flB_of hsd] at h; cases h
  · obtain rfl : s = s' := by omega
    obtain rfl : d = d' := by omega
    exact h
section
variable {P : Program} {kn : FuncId → Option Bool} {lo n : Nat} {masks : List Nat} {r : List RO} {ks : List Kd} {S : Rg} {H : Hp} {K : Rg → Hp → Prop} {d : Option Nat} {x y : Operand} {a b : Int}
theorem wD_k_geq (t : Bool) (hx : evS S x = some (.int .i64 a)) (hy : evS S y = some (.int .i64 b)) (ht : decide (a ≥ b) = t) (h : wDraw P kn lo n masks r (.pure :: ks) (putS S d (.bool t)) H K) : wDraw P kn lo n masks (⟨d, none, .cmp .geq x y⟩ :: r) ks S H K := by
  simp only [wDraw, wRO, wRI, hx, hy, ht]; exact h
theorem wD_k_gtr (t : Bool) (hx : evS S x = some (.int .i64 a)) (hy : evS S y = some (.int .i64 b)) (ht : decide (a > b) = t) (h : wDraw P kn lo n masks r (.pure :: ks) (putS S d (.bool t)) H K) : wDraw P kn lo n masks (⟨d, none, .cmp .gtr x y⟩ :: r) ks S H K := by
  simp only [wDraw, wRO, wRI, hx, hy, ht]; exact h
end
section
variable {kn : FuncId → Option Bool} {lo : Nat} {H : Hp}
end
end Go.Ax

/-! What 'low' makes of more functions of late (written by program). -/
namespace Go.Ax
open Go Go.RowKit Go.Proofs
theorem N40 : Try.f40.ntmps = 46 := by kernel_rfl
theorem Z40 : Try.f40.results.toList = ((List.toArray [(.cell 6 24)]) : Array ResultVar).toList := by kernel_rfl
theorem B40 : Try.f40.body = some (at_ Try.f40 []) := by kernel_rfl
noncomputable def R40 : RC := (.seq (.reg [⟨(some 3), none, (.box 26 (.tmp 0))⟩, ⟨(some 6), none, (.alc 24 [(.int .i64 0), (.int .i64 0)])⟩])
  (.seq (.reg [⟨(some 7), none, (.alc 24 [(.int .i64 0), (.int .i64 0)])⟩])
  (.seq (.seq (.reg [⟨(some 9), none, (.mov (.tmp 1))⟩, ⟨(some 8), none, (.mov (.tmp 9))⟩])
  (.block 0 (.other (at_ Try.f40 [1, 1, 0, 1, 0]))))
  (.seq (.reg [⟨(some 45), none, (.lda (.tmp 7) 2)⟩, ⟨none, none, (.sta (.tmp 6) (.tmp 45) 2)⟩])
  .ret))))
theorem L40 : low Try.prog Try.f40.ntmps (at_ Try.f40 []) = some R40 := by kernel_rfl
theorem E40_1 : at_ Try.f40 [1, 1, 0, 1, 0] = .loop (at_ Try.f40 [1, 1, 0, 1, 0, 0]) := by kernel_rfl
noncomputable def R40x1 : RC := (.seq (.seq (.reg [⟨(some 10), none, (.mov (.tmp 8))⟩, ⟨(some 11), none, (.mov (.tmp 1))⟩, ⟨(some 12), none, (.mov (.tmp 2))⟩, ⟨(some 13), none, (.ari .add (.tmp 11) (.tmp 12))⟩, ⟨(some 14), none, (.cmp .lss (.tmp 10) (.tmp 13))⟩])
  (.cond (.tmp 14) .skip
  (.exit 0)))
  (.seq (.block 1 (.seq (.dreg [⟨(some 17), none, (.addo (.tmp 7) 0)⟩, ⟨(some 18), none, (.ld (.tmp 17) 1)⟩, ⟨(some 19), none, (.addo (.tmp 3) 0)⟩, ⟨(some 20), none, (.ld (.tmp 19) 1)⟩, ⟨(some 21), none, (.mov (.tmp 8))⟩, ⟨(some 22), none, (.idx (.tmp 20) (.tmp 21) 2)⟩, ⟨(some 23), none, (.addo (.tmp 22) 0)⟩, ⟨(some 24), none, (.ld (.tmp 23) 1)⟩, ⟨(some 25), none, (.addo (.tmp 3) 9)⟩, ⟨(some 26), none, (.ld (.tmp 25) 1)⟩, ⟨(some 27), none, (.ari .sub (.tmp 24) (.tmp 26))⟩, ⟨(some 28), none, (.mm false (.const (.int .i64 0)) (.tmp 27))⟩, ⟨(some 29), none, (.ari .add (.tmp 18) (.tmp 28))⟩, ⟨(some 30), none, (.addo (.tmp 7) 0)⟩, ⟨none, none, (.st (.tmp 30) (.tmp 29))⟩] [16383, 8191, 4095, 2044, 1020, 256, 0, 124, 60, 28, 0, 4, 0, 1, 0])
  (.dreg [⟨(some 31), none, (.addo (.tmp 7) 1)⟩, ⟨(some 32), none, (.ld (.tmp 31) 1)⟩, ⟨(some 33), none, (.addo (.tmp 3) 0)⟩, ⟨(some 34), none, (.ld (.tmp 33) 1)⟩, ⟨(some 35), none, (.mov (.tmp 8))⟩, ⟨(some 36), none, (.idx (.tmp 34) (.tmp 35) 2)⟩, ⟨(some 37), none, (.addo (.tmp 36) 1)⟩, ⟨(some 38), none, (.ld (.tmp 37) 1)⟩, ⟨(some 39), none, (.addo (.tmp 3) 9)⟩, ⟨(some 40), none, (.ld (.tmp 39) 1)⟩, ⟨(some 41), none, (.ari .sub (.tmp 38) (.tmp 40))⟩, ⟨(some 42), none, (.mm false (.const (.int .i64 0)) (.tmp 41))⟩, ⟨(some 43), none, (.ari .add (.tmp 32) (.tmp 42))⟩, ⟨(some 44), none, (.addo (.tmp 7) 1)⟩, ⟨none, none, (.st (.tmp 44) (.tmp 43))⟩] [16383, 8191, 4095, 2044, 1020, 256, 0, 124, 60, 28, 0, 4, 0, 1, 0])))
  (.reg [⟨(some 15), none, (.mov (.tmp 8))⟩, ⟨(some 16), none, (.ari .add (.tmp 15) (.const (.int .i64 1)))⟩, ⟨(some 8), none, (.mov (.tmp 16))⟩])))
theorem L40x1 : low Try.prog Try.f40.ntmps (at_ Try.f40 [1, 1, 0, 1, 0, 0]) = some R40x1 := by kernel_rfl
theorem N43 : Try.f43.ntmps = 93 := by kernel_rfl
theorem Z43 : Try.f43.results.toList = ((List.toArray [(.tmp 8)]) : Array ResultVar).toList := by kernel_rfl
theorem B43 : Try.f43.body = some (at_ Try.f43 []) := by kernel_rfl
noncomputable def R43 : RC := (.seq (.reg [⟨(some 4), none, (.box 26 (.tmp 0))⟩, ⟨(some 8), none, (.mov (.const (.slice none 0 0)))⟩])
  (.seq (.reg [⟨(some 9), none, (.mov (.const (.slice none 0 0)))⟩])
  (.seq (.reg [⟨(some 15), none, (.addo (.tmp 4) 4)⟩, ⟨(some 16), none, (.lda (.tmp 15) 2)⟩, ⟨(some 10), none, (.alc 24 [(.int .i64 0), (.int .i64 0)])⟩, ⟨none, none, (.sta (.tmp 10) (.tmp 16) 2)⟩])
  (.seq (.seq (.reg [⟨(some 17), none, (.mov (.tmp 1))⟩, ⟨(some 11), none, (.mov (.tmp 17))⟩])
  (.block 0 (.other (at_ Try.f43 [1, 1, 1, 0, 1, 0]))))
  (.seq (.reg [⟨(some 92), none, (.mov (.tmp 9))⟩, ⟨(some 8), none, (.mov (.tmp 92))⟩])
  .ret)))))
theorem L43 : low Try.prog Try.f43.ntmps (at_ Try.f43 []) = some R43 := by kernel_rfl
theorem E43_1 : at_ Try.f43 [1, 1, 1, 0, 1, 0] = .loop (at_ Try.f43 [1, 1, 1, 0, 1, 0, 0]) := by kernel_rfl
noncomputable def R43x1 : RC := (.seq (.seq (.reg [⟨(some 18), none, (.mov (.tmp 11))⟩, ⟨(some 19), none, (.mov (.tmp 1))⟩, ⟨(some 20), none, (.mov (.tmp 2))⟩, ⟨(some 21), none, (.ari .add (.tmp 19) (.tmp 20))⟩, ⟨(some 22), none, (.cmp .lss (.tmp 18) (.tmp 21))⟩])
  (.cond (.tmp 22) .skip
  (.exit 0)))
  (.seq (.block 1 (.seq (.seq (.reg [⟨(some 12), none, (.mov (.const (.int .i64 0)))⟩])
  (.block 2 (.other (at_ Try.f43 [1, 1, 1, 0, 1, 0, 0, 1, 0, 0, 0, 1, 0]))))
  (.seq (.dreg [⟨(some 39), none, (.lda (.tmp 4) 13)⟩, ⟨(some 40), none, (.addo (.tmp 4) 0)⟩, ⟨(some 41), none, (.ld (.tmp 40) 1)⟩, ⟨(some 42), none, (.mov (.tmp 11))⟩, ⟨(some 43), none, (.idx (.tmp 41) (.tmp 42) 2)⟩, ⟨(some 44), none, (.addo (.tmp 43) 1)⟩, ⟨(some 45), none, (.ld (.tmp 44) 1)⟩, ⟨(some 46), none, (.call ⟨(.value (.func 67)), (List.toArray [(.tmp 39), (.tmp 45)]), (List.toArray [26, 3])⟩ false)⟩, ⟨(some 47), none, (.pur ⟨(some 47), (.field 24 (.tmp 46) 1), 3, "", (List.toArray []), none⟩)⟩, ⟨(some 48), none, (.lda (.tmp 4) 13)⟩, ⟨(some 49), none, (.addo (.tmp 4) 0)⟩, ⟨(some 50), none, (.ld (.tmp 49) 1)⟩, ⟨(some 51), none, (.mov (.tmp 11))⟩, ⟨(some 52), none, (.idx (.tmp 50) (.tmp 51) 2)⟩, ⟨(some 53), none, (.addo (.tmp 52) 0)⟩, ⟨(some 54), none, (.ld (.tmp 53) 1)⟩, ⟨(some 55), none, (.call ⟨(.value (.func 67)), (List.toArray [(.tmp 48), (.tmp 54)]), (List.toArray [26, 3])⟩ true)⟩, ⟨(some 56), none, (.pur ⟨(some 56), (.field 24 (.tmp 55) 0), 3, "", (List.toArray []), none⟩)⟩, ⟨(some 13), none, (.mov (.tmp 47))⟩, ⟨(some 14), none, (.mov (.tmp 56))⟩] [524287, 131071, 130815, 65279, 31744, 15360, 7168, 0, 1024, 0, 0, 255, 127, 62, 30, 14, 0, 2, 0, 0])
  (.seq (.dreg [⟨(some 57), none, (.addo (.tmp 4) 8)⟩, ⟨(some 58), none, (.ld (.tmp 57) 1)⟩, ⟨(some 59), none, (.addo (.tmp 10) 0)⟩, ⟨(some 60), none, (.ld (.tmp 59) 1)⟩, ⟨(some 61), none, (.addo (.tmp 4) 1)⟩, ⟨(some 62), none, (.ld (.tmp 61) 1)⟩, ⟨(some 63), none, (.mov (.tmp 11))⟩, ⟨(some 64), none, (.idx (.tmp 62) (.tmp 63) 2)⟩, ⟨(some 65), none, (.addo (.tmp 64) 0)⟩, ⟨(some 66), none, (.ld (.tmp 65) 1)⟩, ⟨(some 67), none, (.ari .add (.tmp 60) (.tmp 66))⟩, ⟨(some 68), none, (.mov (.tmp 13))⟩, ⟨(some 69), none, (.ari .sub (.tmp 67) (.tmp 68))⟩, ⟨(some 70), none, (.mm false (.const (.int .i64 0)) (.tmp 69))⟩, ⟨(some 71), none, (.mm true (.tmp 58) (.tmp 70))⟩, ⟨(some 72), none, (.addo (.tmp 4) 8)⟩, ⟨(some 73), none, (.ld (.tmp 72) 1)⟩, ⟨(some 74), none, (.addo (.tmp 10) 1)⟩, ⟨(some 75), none, (.ld (.tmp 74) 1)⟩, ⟨(some 76), none, (.addo (.tmp 4) 1)⟩, ⟨(some 77), none, (.ld (.tmp 76) 1)⟩, ⟨(some 78), none, (.mov (.tmp 11))⟩, ⟨(some 79), none, (.idx (.tmp 77) (.tmp 78) 2)⟩, ⟨(some 80), none, (.addo (.tmp 79) 1)⟩, ⟨(some 81), none, (.ld (.tmp 80) 1)⟩, ⟨(some 82), none, (.ari .add (.tmp 75) (.tmp 81))⟩, ⟨(some 83), none, (.mov (.tmp 14))⟩, ⟨(some 84), none, (.ari .sub (.tmp 82) (.tmp 83))⟩, ⟨(some 85), none, (.mm false (.const (.int .i64 0)) (.tmp 84))⟩, ⟨(some 86), none, (.mm true (.tmp 73) (.tmp 85))⟩, ⟨(some 87), none, (.pur ⟨(some 87), (.build 24 (List.toArray [(0, (.tmp 71)), (1, (.tmp 86))])), 24, "", (List.toArray []), none⟩)⟩, ⟨none, none, (.sta (.tmp 10) (.tmp 87) 2)⟩] [2147483647, 1073741823, 536838144, 268304384, 134086656, 0, 33423360, 16252928, 7864320, 3670016, 0, 524288, 0, 131072, 0, 32768, 0, 16383, 8188, 4092, 0, 1020, 496, 240, 112, 0, 16, 0, 4, 0, 1, 0])
  (.reg [⟨(some 88), none, (.mov (.tmp 9))⟩, ⟨(some 89), none, (.lda (.tmp 10) 2)⟩, ⟨(some 90), none, (.mem ⟨(some 90), (.buildSlice 22 1 (List.toArray [(0, (.tmp 89))])), 22, "", (List.toArray []), none⟩)⟩, ⟨(some 91), none, (.mem ⟨(some 91), (.call ⟨(.builtin .append), (List.toArray [(.tmp 88), (.tmp 90)]), (List.toArray [22, 22])⟩), 22, "", (List.toArray []), none⟩)⟩, ⟨(some 9), none, (.mov (.tmp 91))⟩])))))
  (.reg [⟨(some 23), none, (.mov (.tmp 11))⟩, ⟨(some 24), none, (.ari .add (.tmp 23) (.const (.int .i64 1)))⟩, ⟨(some 11), none, (.mov (.tmp 24))⟩])))
theorem L43x1 : low Try.prog Try.f43.ntmps (at_ Try.f43 [1, 1, 1, 0, 1, 0, 0]) = some R43x1 := by kernel_rfl
theorem E43_2 : at_ Try.f43 [1, 1, 1, 0, 1, 0, 0, 1, 0, 0, 0, 1, 0] = .loop (at_ Try.f43 [1, 1, 1, 0, 1, 0, 0, 1, 0, 0, 0, 1, 0, 0]) := by kernel_rfl
noncomputable def R43x2 : RC := (.seq (.seq (.reg [⟨(some 25), none, (.mov (.tmp 12))⟩, ⟨(some 26), none, (.mov (.tmp 3))⟩, ⟨(some 27), none, (.len (.tmp 26))⟩, ⟨(some 28), none, (.cmp .lss (.tmp 25) (.tmp 27))⟩])
  (.cond (.tmp 28) .skip
  (.exit 2)))
  (.seq (.block 3 (.seq (.reg [⟨(some 31), none, (.mov (.tmp 3))⟩, ⟨(some 32), none, (.mov (.tmp 12))⟩, ⟨(some 33), none, (.idx (.tmp 31) (.tmp 32) 1)⟩, ⟨(some 34), none, (.ld (.tmp 33) 1)⟩, ⟨(some 35), none, (.mov (.tmp 11))⟩, ⟨(some 36), none, (.cmp .eql (.tmp 34) (.tmp 35))⟩])
  (.cond (.tmp 36) (.reg [⟨(some 37), none, (.addo (.tmp 4) 6)⟩, ⟨(some 38), none, (.lda (.tmp 37) 2)⟩, ⟨none, none, (.sta (.tmp 10) (.tmp 38) 2)⟩])
  .skip)))
  (.reg [⟨(some 29), none, (.mov (.tmp 12))⟩, ⟨(some 30), none, (.ari .add (.tmp 29) (.const (.int .i64 1)))⟩, ⟨(some 12), none, (.mov (.tmp 30))⟩])))
theorem L43x2 : low Try.prog Try.f43.ntmps (at_ Try.f43 [1, 1, 1, 0, 1, 0, 0, 1, 0, 0, 0, 1, 0, 0]) = some R43x2 := by kernel_rfl
theorem N45 : Try.f45.ntmps = 70 := by kernel_rfl
theorem Z45 : Try.f45.results.toList = ((List.toArray [(.tmp 8), (.tmp 9)]) : Array ResultVar).toList := by kernel_rfl
theorem B45 : Try.f45.body = some (at_ Try.f45 []) := by kernel_rfl
noncomputable def R45 : RC := (.seq (.reg [⟨(some 4), none, (.box 26 (.tmp 0))⟩, ⟨(some 8), none, (.mov (.const (.int .i64 0)))⟩, ⟨(some 9), none, (.mov (.const (.int .i64 0)))⟩])
  (.seq (.reg [⟨(some 15), none, (.lda (.tmp 4) 13)⟩, ⟨(some 16), none, (.mov (.tmp 1))⟩, ⟨(some 17), none, (.mov (.tmp 2))⟩, ⟨(some 18), none, (.call ⟨(.value (.func 40)), (List.toArray [(.tmp 15), (.tmp 16), (.tmp 17)]), (List.toArray [26, 3, 3])⟩ true)⟩, ⟨(some 10), none, (.alc 24 [(.int .i64 0), (.int .i64 0)])⟩, ⟨none, none, (.sta (.tmp 10) (.tmp 18) 2)⟩])
  (.seq (.reg [⟨(some 11), none, (.mov (.const (.int .i64 0)))⟩, ⟨(some 12), none, (.mov (.const (.int .i64 0)))⟩])
  (.seq (.reg [⟨(some 19), none, (.lda (.tmp 4) 13)⟩, ⟨(some 20), none, (.mov (.tmp 1))⟩, ⟨(some 21), none, (.mov (.tmp 2))⟩, ⟨(some 22), none, (.mov (.tmp 3))⟩, ⟨(some 23), none, (.call ⟨(.value (.func 43)), (List.toArray [(.tmp 19), (.tmp 20), (.tmp 21), (.tmp 22)]), (List.toArray [26, 3, 3, 27])⟩ true)⟩, ⟨(some 13), none, (.mov (.tmp 23))⟩])
  (.seq (.seq (.reg [⟨(some 14), none, (.mov (.const (.int .i64 0)))⟩])
  (.block 0 (.other (at_ Try.f45 [1, 1, 1, 1, 0, 1, 0]))))
  (.seq (.dreg [⟨(some 50), none, (.addo (.tmp 10) 1)⟩, ⟨(some 51), none, (.ld (.tmp 50) 1)⟩, ⟨(some 52), none, (.addo (.tmp 4) 10)⟩, ⟨(some 53), none, (.ld (.tmp 52) 1)⟩, ⟨(some 54), none, (.cmp .geq (.tmp 51) (.tmp 53))⟩, ⟨(some 55), none, (.addo (.tmp 10) 0)⟩, ⟨(some 56), none, (.ld (.tmp 55) 1)⟩, ⟨(some 57), none, (.addo (.tmp 4) 10)⟩, ⟨(some 58), none, (.ld (.tmp 57) 1)⟩, ⟨(some 59), none, (.cmp .geq (.tmp 56) (.tmp 58))⟩, ⟨(some 60), none, (.call ⟨(.value (.func 68)), (List.toArray [(.tmp 54), (.tmp 59)]), (List.toArray [4, 4])⟩ false)⟩, ⟨(some 61), none, (.mov (.tmp 12))⟩, ⟨(some 62), none, (.addo (.tmp 4) 12)⟩, ⟨(some 63), none, (.ld (.tmp 62) 1)⟩, ⟨(some 64), none, (.cmp .gtr (.tmp 61) (.tmp 63))⟩, ⟨(some 65), none, (.mov (.tmp 11))⟩, ⟨(some 66), none, (.addo (.tmp 4) 12)⟩, ⟨(some 67), none, (.ld (.tmp 66) 1)⟩, ⟨(some 68), none, (.cmp .gtr (.tmp 65) (.tmp 67))⟩, ⟨(some 69), none, (.call ⟨(.value (.func 68)), (List.toArray [(.tmp 64), (.tmp 68)]), (List.toArray [4, 4])⟩ true)⟩, ⟨(some 8), none, (.mov (.tmp 60))⟩, ⟨(some 9), none, (.mov (.tmp 69))⟩] [2097151, 1048575, 524287, 229376, 65536, 0, 0, 14336, 4096, 0, 0, 1023, 480, 128, 0, 32, 0, 15, 4, 0, 1, 0])
  .ret))))))
theorem L45 : low Try.prog Try.f45.ntmps (at_ Try.f45 []) = some R45 := by kernel_rfl
theorem E45_1 : at_ Try.f45 [1, 1, 1, 1, 0, 1, 0] = .loop (at_ Try.f45 [1, 1, 1, 1, 0, 1, 0, 0]) := by kernel_rfl
noncomputable def R45x1 : RC := (.seq (.seq (.reg [⟨(some 24), none, (.mov (.tmp 14))⟩, ⟨(some 25), none, (.mov (.tmp 13))⟩, ⟨(some 26), none, (.len (.tmp 25))⟩, ⟨(some 27), none, (.cmp .lss (.tmp 24) (.tmp 26))⟩])
  (.cond (.tmp 27) .skip
  (.exit 0)))
  (.seq (.block 1 (.seq (.seq (.dreg [⟨(some 30), none, (.mov (.tmp 13))⟩, ⟨(some 31), none, (.mov (.tmp 14))⟩, ⟨(some 32), none, (.idx (.tmp 30) (.tmp 31) 2)⟩, ⟨(some 33), none, (.addo (.tmp 32) 0)⟩, ⟨(some 34), none, (.ld (.tmp 33) 1)⟩, ⟨(some 35), none, (.addo (.tmp 4) 11)⟩, ⟨(some 36), none, (.ld (.tmp 35) 1)⟩, ⟨(some 37), none, (.cmp .lss (.tmp 34) (.tmp 36))⟩] [127, 32, 0, 15, 7, 3, 0, 0])
  (.cond (.tmp 37) (.reg [⟨(some 38), none, (.mov (.tmp 12))⟩, ⟨(some 39), none, (.ari .add (.tmp 38) (.const (.int .i64 1)))⟩, ⟨(some 12), none, (.mov (.tmp 39))⟩])
  .skip))
  (.seq (.dreg [⟨(some 40), none, (.mov (.tmp 13))⟩, ⟨(some 41), none, (.mov (.tmp 14))⟩, ⟨(some 42), none, (.idx (.tmp 40) (.tmp 41) 2)⟩, ⟨(some 43), none, (.addo (.tmp 42) 1)⟩, ⟨(some 44), none, (.ld (.tmp 43) 1)⟩, ⟨(some 45), none, (.addo (.tmp 4) 11)⟩, ⟨(some 46), none, (.ld (.tmp 45) 1)⟩, ⟨(some 47), none, (.cmp .lss (.tmp 44) (.tmp 46))⟩] [127, 32, 0, 15, 7, 3, 0, 0])
  (.cond (.tmp 47) (.reg [⟨(some 48), none, (.mov (.tmp 11))⟩, ⟨(some 49), none, (.ari .add (.tmp 48) (.const (.int .i64 1)))⟩, ⟨(some 11), none, (.mov (.tmp 49))⟩])
  .skip))))
  (.reg [⟨(some 28), none, (.mov (.tmp 14))⟩, ⟨(some 29), none, (.ari .add (.tmp 28) (.const (.int .i64 1)))⟩, ⟨(some 14), none, (.mov (.tmp 29))⟩])))
theorem L45x1 : low Try.prog Try.f45.ntmps (at_ Try.f45 [1, 1, 1, 1, 0, 1, 0, 0]) = some R45x1 := by kernel_rfl
theorem N67 : Try.f67.ntmps = 19 := by kernel_rfl
theorem Z67 : Try.f67.results.toList = ((List.toArray [(.cell 4 24)]) : Array ResultVar).toList := by kernel_rfl
theorem B67 : Try.f67.body = some (at_ Try.f67 []) := by kernel_rfl
noncomputable def R67 : RC := (.seq (.reg [⟨(some 2), none, (.box 26 (.tmp 0))⟩, ⟨(some 4), none, (.alc 24 [(.int .i64 0), (.int .i64 0)])⟩])
  (.seq (.reg [⟨(some 5), none, (.addo (.tmp 2) 2)⟩, ⟨(some 6), none, (.addo (.tmp 5) 0)⟩, ⟨(some 7), none, (.ld (.tmp 6) 1)⟩, ⟨(some 8), none, (.mov (.tmp 1))⟩, ⟨(some 9), none, (.ari .mul (.tmp 7) (.tmp 8))⟩, ⟨(some 10), none, (.ari .quo (.tmp 9) (.const (.int .i64 100)))⟩, ⟨(some 11), none, (.addo (.tmp 2) 2)⟩, ⟨(some 12), none, (.addo (.tmp 11) 1)⟩, ⟨(some 13), none, (.ld (.tmp 12) 1)⟩, ⟨(some 14), none, (.mov (.tmp 1))⟩, ⟨(some 15), none, (.ari .mul (.tmp 13) (.tmp 14))⟩, ⟨(some 16), none, (.ari .add (.tmp 15) (.const (.int .i64 99)))⟩, ⟨(some 17), none, (.ari .quo (.tmp 16) (.const (.int .i64 100)))⟩, ⟨(some 18), none, (.pur ⟨(some 18), (.build 24 (List.toArray [(0, (.tmp 10)), (1, (.tmp 17))])), 24, "", (List.toArray []), none⟩)⟩, ⟨none, none, (.sta (.tmp 4) (.tmp 18) 2)⟩])
  .ret))
theorem L67 : low Try.prog Try.f67.ntmps (at_ Try.f67 []) = some R67 := by kernel_rfl
theorem N68 : Try.f68.ntmps = 7 := by kernel_rfl
theorem Z68 : Try.f68.results.toList = ((List.toArray [(.tmp 4)]) : Array ResultVar).toList := by kernel_rfl
theorem B68 : Try.f68.body = some (at_ Try.f68 []) := by kernel_rfl
noncomputable def R68 : RC := (.seq (.reg [⟨(some 4), none, (.mov (.const (.int .i64 0)))⟩])
  (.seq (.seq (.reg [⟨(some 5), none, (.mov (.tmp 1))⟩])
  (.cond (.tmp 5) (.seq (.reg [⟨(some 4), none, (.mov (.const (.int .i64 2)))⟩])
  .ret)
  .skip))
  (.seq (.seq (.reg [⟨(some 6), none, (.mov (.tmp 0))⟩])
  (.cond (.tmp 6) (.seq (.reg [⟨(some 4), none, (.mov (.const (.int .i64 1)))⟩])
  .ret)
  .skip))
  (.seq (.reg [⟨(some 4), none, (.mov (.const (.int .i64 0)))⟩])
  .ret))))
theorem L68 : low Try.prog Try.f68.ntmps (at_ Try.f68 []) = some R68 := by kernel_rfl
end Go.Ax

/-
  Late: the document's functions: spans compared, what is used, sureness, the warmth (21, 67, 68, 40) (written by program).
-/
namespace Go.Ax
open Go Go.RowKit Go.Proofs

theorem prun_bind {P : Program} {α β : Type} (f : α → Sem β) : ∀ (x : Sem α), prun P (x >>= f) = match prun P x with | some a => prun P (f a) | none => none := by
  intro x
  induction x with
  | pure a => rfl
  | program k ih => exact ih P
  | _ => rfl
theorem prun_pure {P : Program} {α : Type} (a : α) : prun P (pure a) = some a := rfl
theorem prun_und : prun Try.prog (underlying 3) = some (.int .i64) := by kernel_rfl
theorem prun_eqi (d : Nat) (a b : Int) : prun Try.prog (Op.equalIn (d + 1) 3 (iv a) (iv b)) = some (a == b) := by
  rw [Op.equalIn]
  rw [prun_bind, prun_und]
  rfl
theorem md : Op.maxDepth = 9998 + 2 := by decide
section
variable {kn : FuncId → Option Bool} {lo : Nat} {H : Hp}
theorem used67_ok {g : Lt} {x : Int} (v : g.Vd) (hx : 0 ≤ x ∧ x ≤ 5000) (hlo : lo ≤ H.next) : ∃ H', FnX Try.prog kn lo 67 [.agg g.v.toArray, iv x] H (spv (g.r1 * x / 100) ((g.r2 * x + 99) / 100)) H' ∧ Keep H H' [] := by
  have key := fnX_low (kn := kn) (lo := lo) (H := H) (args := [.agg g.v.toArray, iv x]) (Q := fun w H' => w = spv (g.r1 * x / 100) ((g.r2 * x + 99) / 100) ∧ Keep H H' []) Try.func67 B67 N67 Z67 L67 (by simp) ?_
  · obtain ⟨w, H', h, rfl, q⟩ := key; exact ⟨H', h, q⟩
  have hr := v.r
  have m1 := mul_rng (a := g.r1) (b := x) (p := 1000) (q := 5000) ⟨by omega, by omega⟩ hx
  have m2 := mul_rng (a := g.r2) (b := x) (p := 1000) (q := 5000) ⟨by omega, by omega⟩ hx
  have hk := Keep.refl H []
  intro H1 hH1; obtain ⟨kH1, nH1, c1⟩ := new_facts hH1; clear hH1
  have mH1 := kH1.1
  have hk := hk.trans kH1
  have c1 : Cl H1 H.next [.slice g.wa g.wn g.wcap, .slice g.aa g.an g.acap, iv g.r1, iv g.r2, iv g.f1, iv g.f2, iv g.g1, iv g.g2, iv g.full, iv g.base, iv g.kill, iv g.need, iv g.bear] := c1
  intro H2 hH2; obtain ⟨kH2, nH2, c2⟩ := new_facts hH2; clear hH2
  have c2 : Cl H2 H1.next [iv 0, iv 0] := c2
  have mH2 := kH2.1
  have hk := hk.trans kH2
  have c1 := kH2.cl c1 (by simp)
  refine Exists.intro _ (Exists.intro _ (And.intro c1.of (And.intro (show _ = some (iv g.r1) from rfl) ?_)))
  refine And.intro (show InR (g.r1 * x) from ⟨by omega, by omega⟩) ?_
  refine And.intro (by omega) (And.intro (by omega) (And.intro ⟨by omega, by omega⟩ ?_))
  refine Exists.intro _ (Exists.intro _ (And.intro c1.of (And.intro (show _ = some (iv g.r2) from rfl) ?_)))
  refine And.intro (show InR (g.r2 * x) from ⟨by omega, by omega⟩) ?_
  refine And.intro (show InR ((g.r2 * x) + 99) from ⟨by omega, by omega⟩) ?_
  refine And.intro (by omega) (And.intro (by omega) (And.intro ⟨by omega, by omega⟩ ?_))
  refine And.intro rfl (Exists.intro (.agg #[iv ((g.r1 * x) / 100), iv (((g.r2 * x) + 99) / 100)]) (And.intro (by kernel_rfl) ?_))
  obtain ⟨_, eH3, lH3, gH3⟩ := id c2
  refine Exists.intro _ (Exists.intro _ (Exists.intro _ (And.intro gH3 (And.intro (by omega) (And.intro rfl (And.intro rfl (And.intro (by simp) ?_)))))))
  intro H3 hH3; obtain ⟨kH3, nH3, sH3⟩ := up_facts c2 hH3; clear hH3
  have mH3 := kH3.1
  have hk := hk.new kH3 (fun b hb => by simp at hb ⊢; omega)
  have c1 := kH3.cl c1 (by first | (simp; done) | (simp; omega))
  have c2 : Cl H3 H1.next [iv ((g.r1 * x) / 100), iv (((g.r2 * x) + 99) / 100)] := sH3
  exact And.intro trivial (Exists.intro _ (And.intro (res_cell rfl a24 i24s rfl c2) ⟨rfl, hk⟩))
theorem sure68_ok {s a : Bool} : ∃ H', FnX Try.prog kn lo 68 [.bool s, .bool a] H (iv (sureV a s)) H' ∧ Keep H H' [] := by
  have key := fnX_low (kn := kn) (lo := lo) (H := H) (args := [.bool s, .bool a]) (Q := fun w H' => w = iv (sureV a s) ∧ Keep H H' []) Try.func68 B68 N68 Z68 L68 (by simp) ?_
  · obtain ⟨w, H', h, rfl, q⟩ := key; exact ⟨H', h, q⟩
  have hk := Keep.refl H []
  cases s <;> cases a
  · refine condF ?_
    refine condF ?_
    exact And.intro trivial (Exists.intro _ (And.intro rfl ⟨rfl, hk⟩))
  · refine condT ?_
    exact And.intro trivial (Exists.intro _ (And.intro rfl ⟨rfl, hk⟩))
  · refine condF ?_
    refine condT ?_
    exact And.intro trivial (Exists.intro _ (And.intro rfl ⟨rfl, hk⟩))
  · refine condT ?_
    exact And.intro trivial (Exists.intro _ (And.intro rfl ⟨rfl, hk⟩))
theorem warm40_ok {g : Lt} (v : g.Vd) {s d : Nat} (hsd : s + d ≤ g.wn) (hw : Sl H g.wa g.wn g.wcap (spc g.ws)) (hlo : lo ≤ H.next) :
    ∃ H', FnX Try.prog kn lo 40 [.agg g.v.toArray, iv (s : Int), iv (d : Int)] H (spv (g.wl s d) (g.wh s d)) H' ∧ Keep H H' [] := by
  have key := fnX_low (kn := kn) (lo := lo) (H := H) (args := [.agg g.v.toArray, iv (s : Int), iv (d : Int)]) (Q := fun w H' => w = spv (g.wl s d) (g.wh s d) ∧ Keep H H' []) Try.func40 B40 N40 Z40 L40 (by simp) ?_
  · obtain ⟨w, H', h, rfl, q⟩ := key; exact ⟨H', h, q⟩
  have hk := Keep.refl H []
  have fw := hw.old; have hn40 := v.n40
  intro H1 hH1; obtain ⟨kH1, nH1, c1⟩ := new_facts hH1; clear hH1
  have mH1 := kH1.1
  have hk := hk.trans kH1
  have hw := kH1.sl0 hw
  have c1 : Cl H1 H.next [.slice g.wa g.wn g.wcap, .slice g.aa g.an g.acap, iv g.r1, iv g.r2, iv g.f1, iv g.f2, iv g.g1, iv g.g2, iv g.full, iv g.base, iv g.kill, iv g.need, iv g.bear] := c1
  intro H2 hH2; obtain ⟨kH2, nH2, c2⟩ := new_facts hH2; clear hH2
  have c2 : Cl H2 H1.next [iv 0, iv 0] := c2
  have mH2 := kH2.1
  have hk := hk.trans kH2
  have hw := kH2.sl0 hw
  have c1 := kH2.cl c1 (by simp)
  intro H3 hH3; obtain ⟨kH3, nH3, c3⟩ := new_facts hH3; clear hH3
  have c3 : Cl H3 H2.next [iv 0, iv 0] := c3
  have mH3 := kH3.1
  have hk := hk.trans kH3
  have hw := kH3.sl0 hw
  have c1 := kH3.cl c1 (by simp)
  have c2 := kH3.cl c2 (by simp)
  obtain ⟨z0, hz0⟩ : ∃ z, z = H.next := ⟨_, rfl⟩
  obtain ⟨z1, hz1⟩ : ∃ z, z = H1.next := ⟨_, rfl⟩
  obtain ⟨z2, hz2⟩ : ∃ z, z = H2.next := ⟨_, rfl⟩
  have b36 : z0 < z1 ∧ z1 < z2 ∧ H.next ≤ z0 := by omega
  rw [← hz0] at c1
  rw [← hz1] at c2
  rw [← hz2] at c3
  rw [← hz0, ← hz1, ← hz2]
  clear hz0 hz1 hz2
  refine loop_low (fn := Try.f40) E40_1 N40 L40x1 (fun k : Nat => [(1, iv (s : Int)), (2, iv (d : Int)), (3, pt z0), (6, pt z1), (7, pt z2), (8, iv ((s + k : Nat) : Int))])
    (fun q k H' => k + q = d ∧ Keep H H' [] ∧ Sl H' g.wa g.wn g.wcap (spc g.ws) ∧ Cl H' z0 g.v ∧ Cl H' z1 [iv 0, iv 0] ∧ Cl H' z2 [iv (g.wl s k), iv (g.wh s k)]) d 0 ⟨by omega, hk, hw, c1, c2, c3⟩ ⟨rfl, rfl, rfl, rfl, rfl, rfl, trivial⟩ ?_
  rintro q k L1 ⟨hik, hk, hw, c3, c6, c7⟩
  have hm := hk.1
  have l3 := c3.lt
  have l6 := c6.lt
  have l7 := c7.lt
  have hwb := fun h : s + k ≤ g.wn => Lt.wl_in (s := s) v k h
  refine And.intro (show InR ((s : Int) + (d : Int)) from ⟨by omega, by omega⟩) ?_
  refine And.intro (fun q1 => ?_) (fun q1 => ?_)
  · have q1 : ((s + k : Nat) : Int) < ((s : Int) + (d : Int)) := of_decide_eq_true q1
    have hkd : k < d := by omega
    have hsw : s + k < g.wn := by omega
    have hW := Lt.W_in v hsw; have hbb := v.b; have hwb := hwb (by omega)
    rcases hw with ⟨_, h0, _⟩ | ⟨wb, ewa, hwd, qw⟩
    · omega
    have lwb := fw wb ewa
    refine wD_seq ?_
    refine wD_addo (b := z2) (o := 0) rfl ?_
    refine wD_ld (b := z2) (o := 0) (v := iv (g.wl s k)) rfl c7.rd rfl ?_
    refine wD_addo (b := z0) (o := 0) rfl ?_
    refine wD_ld (b := z0) (o := 0) (v := .slice (some ⟨wb, 0, none⟩) g.wn g.wcap) rfl c3.rd (show _ = some (Value.slice (some ⟨wb, 0, none⟩) g.wn g.wcap) from by rw [← ewa]; rfl) ?_
    refine wD_mov (v := iv ((s + k : Nat) : Int)) rfl ?_
    refine wD_idx (b := wb) (o := 0) (k := (s + k)) (j := ((s + k : Nat) : Int)) rfl rfl rfl hsw ?_
    refine wD_addo (b := wb) (o := 0 + (s + k) * 2) rfl ?_
    refine wD_ld (b := wb) (o := 0 + (s + k) * 2) (v := iv ((g.W (s + k)).1)) rfl hwd (span_get hW.1).1 ?_
    refine wD_addo (b := z0) (o := 0) rfl ?_
    refine wD_ld (b := z0) (o := 9) (v := iv g.base) rfl c3.rd rfl ?_
    refine wD_sub (a := (g.W (s + k)).1) (b := g.base) rfl rfl ⟨by omega, by omega⟩ ?_
    refine wD_mm (a := 0) (b := ((g.W (s + k)).1) - g.base) rfl rfl ?_
    refine wD_add (a := g.wl s k) (b := max 0 (((g.W (s + k)).1) - g.base)) rfl rfl ⟨by omega, by omega⟩ ?_
    refine wD_addo (b := z2) (o := 0) rfl ?_
    refine wD_st (b := z2) (o := 0) rfl rfl c7 (by omega) rfl rfl (by simp) ?_
    intro H4 kH4 nH4 sH4
    have mH4 := kH4.1
    have hk := hk.new kH4 (fun b hb => by simp at hb ⊢; omega)
    have c3 := kH4.cl c3 (by first | (simp; done) | (simp; omega))
    have c6 := kH4.cl c6 (by first | (simp; done) | (simp; omega))
    have hwd := kH4.rd hwd (by first | (simp; done) | (simp; omega))
    have c7 : Cl H4 z2 [iv ((g.wl s k) + (max 0 (((g.W (s + k)).1) - g.base))), iv (g.wh s k)] := sH4
    refine wD_end (by repeat' first | exact True.intro | exact (fun h => h) | refine And.intro ?_ ?_ | (intro h; have h : (_ : Nat) = _ := h; omega)) ?_
    refine wD_dreg ?_
    refine wD_addo (b := z2) (o := 0) rfl ?_
    refine wD_ld (b := z2) (o := 1) (v := iv (g.wh s k)) rfl c7.rd rfl ?_
    refine wD_addo (b := z0) (o := 0) rfl ?_
    refine wD_ld (b := z0) (o := 0) (v := .slice (some ⟨wb, 0, none⟩) g.wn g.wcap) rfl c3.rd (show _ = some (Value.slice (some ⟨wb, 0, none⟩) g.wn g.wcap) from by rw [← ewa]; rfl) ?_
    refine wD_mov (v := iv ((s + k : Nat) : Int)) rfl ?_
    refine wD_idx (b := wb) (o := 0) (k := (s + k)) (j := ((s + k : Nat) : Int)) rfl rfl rfl hsw ?_
    refine wD_addo (b := wb) (o := 0 + (s + k) * 2) rfl ?_
    refine wD_ld (b := wb) (o := 0 + (s + k) * 2 + 1) (v := iv ((g.W (s + k)).2)) rfl hwd (span_get hW.1).2 ?_
    refine wD_addo (b := z0) (o := 0) rfl ?_
    refine wD_ld (b := z0) (o := 9) (v := iv g.base) rfl c3.rd rfl ?_
    refine wD_sub (a := (g.W (s + k)).2) (b := g.base) rfl rfl ⟨by omega, by omega⟩ ?_
    refine wD_mm (a := 0) (b := ((g.W (s + k)).2) - g.base) rfl rfl ?_
    refine wD_add (a := g.wh s k) (b := max 0 (((g.W (s + k)).2) - g.base)) rfl rfl ⟨by omega, by omega⟩ ?_
    refine wD_addo (b := z2) (o := 0) rfl ?_
    refine wD_st (b := z2) (o := 1) rfl rfl c7 (by omega) rfl rfl (by simp) ?_
    intro H5 kH5 nH5 sH5
    have mH5 := kH5.1
    have hk := hk.new kH5 (fun b hb => by simp at hb ⊢; omega)
    have c3 := kH5.cl c3 (by first | (simp; done) | (simp; omega))
    have c6 := kH5.cl c6 (by first | (simp; done) | (simp; omega))
    have hwd := kH5.rd hwd (by first | (simp; done) | (simp; omega))
    have c7 : Cl H5 z2 [iv ((g.wl s k) + (max 0 (((g.W (s + k)).1) - g.base))), iv ((g.wh s k) + (max 0 (((g.W (s + k)).2) - g.base)))] := sH5
    refine wD_end (by repeat' first | exact True.intro | exact (fun h => h) | refine And.intro ?_ ?_ | (intro h; have h : (_ : Nat) = _ := h; omega)) ?_
    refine And.intro (show InR (((s + k : Nat) : Int) + 1) from ⟨by omega, by omega⟩) ?_
    exact ⟨q - 1, k + 1, by omega, ⟨by omega, hk, .inr ⟨wb, ewa, hwd, qw⟩, c3, c6, c7⟩, rfl, rfl, rfl, rfl, rfl, rfl, trivial⟩
  · have q1 : ¬ (((s + k : Nat) : Int) < ((s : Int) + (d : Int))) := of_decide_eq_false q1
    have hkd : k = d := by omega
    subst hkd
    refine Exists.intro _ (Exists.intro _ (And.intro c7.of (And.intro (show row 2 _ _ = some [iv (g.wl s k), iv (g.wh s k)] from rfl) ?_)))
    obtain ⟨_, eH6, lH6, gH6⟩ := id c6
    refine Exists.intro _ (Exists.intro _ (Exists.intro _ (And.intro gH6 (And.intro (by omega) (And.intro rfl (And.intro rfl (And.intro (by simp) ?_)))))))
    intro H6 hH6; obtain ⟨kH6, nH6, sH6⟩ := up_facts c6 hH6; clear hH6
    have mH6 := kH6.1
    have hk := hk.new kH6 (fun b hb => by simp at hb ⊢; omega)
    have hw := kH6.sl hw (fun b e => by have := fw b e; first | (simp; done) | (simp; omega))
    have c3 := kH6.cl c3 (by first | (simp; done) | (simp; omega))
    have c7 := kH6.cl c7 (by first | (simp; done) | (simp; omega))
    have c6 : Cl H6 z1 [iv (g.wl s k), iv (g.wh s k)] := sH6
    exact And.intro trivial (Exists.intro _ (And.intro (res_cell rfl a24 i24s rfl c6) ⟨rfl, hk⟩))
end
end Go.Ax

/-
  Late: the document's functions: the oxygen (43) (written by program).
-/
namespace Go.Ax
open Go Go.RowKit Go.Proofs

/-- a number, or another one if a day is among the first of a list -/
def nowV (us : List Int) (j : Nat) (x a b : Int) : Int := bif (us.take j).contains x then a else b
theorem nowV_zero {us : List Int} {x a b : Int} : nowV us 0 x a b = b := by simp [nowV]
theorem nowV_hit {us : List Int} {j : Nat} {x y a b : Int} (hy : us[j]? = some y) (h : x = y) : nowV us (j + 1) x a b = a := by
  unfold nowV
  rw [List.take_add_one, hy]
  have : (us.take j ++ (some y).toList).contains x = true := by rw [List.contains_iff_mem, h]; simp
  rw [this]; rfl
theorem nowV_miss {us : List Int} {j : Nat} {x y a b : Int} (hy : us[j]? = some y) (h : ¬ x = y) : nowV us (j + 1) x a b = nowV us j x a b := by
  unfold nowV
  rw [List.take_add_one, hy]
  have : (us.take j ++ (some y).toList).contains x = (us.take j).contains x := by
    rw [Bool.eq_iff_iff, List.contains_iff_mem, List.contains_iff_mem, List.mem_append]
    constructor
    · rintro (q | q)
      · exact q
      · simp at q; exact absurd q h
    · exact fun q => .inl q
  rw [this]
theorem nowV_in {us : List Int} {j : Nat} {x a b l m : Int} (ha : l ≤ a ∧ a ≤ m) (hb : l ≤ b ∧ b ≤ m) : l ≤ nowV us j x a b ∧ nowV us j x a b ≤ m := by
  unfold nowV
  cases (us.take j).contains x <;> simp only [cond_true, cond_false] <;> assumption
theorem lo_next {g : Lt} {us : List Int} {s k n : Nat} (hF : ∀ i : Nat, (dayMask us).testBit i = us.contains (i : Int)) (hn : us.length = n) : min g.full (max 0 (nowV us n ((s + k : Nat) : Int) g.g1 (g.lo s (Nat.testBit (dayMask us)) k) + (g.A (s + k)).1 - (g.r2 * (g.W (s + k)).2 + 99) / 100)) = g.lo s (Nat.testBit (dayMask us)) (k + 1) := by
  rw [Lt.lo]
  unfold nowV Lt.loDay
  rw [List.take_of_length_le (by omega), ← hF]
  omega
theorem hi_next {g : Lt} {us : List Int} {s k n : Nat} (hF : ∀ i : Nat, (dayMask us).testBit i = us.contains (i : Int)) (hn : us.length = n) : min g.full (max 0 (nowV us n ((s + k : Nat) : Int) g.g2 (g.hi s (Nat.testBit (dayMask us)) k) + (g.A (s + k)).2 - g.r1 * (g.W (s + k)).1 / 100)) = g.hi s (Nat.testBit (dayMask us)) (k + 1) := by
  rw [Lt.hi]
  unfold nowV Lt.hiDay
  rw [List.take_of_length_le (by omega), ← hF]
  omega
section
variable {kn : FuncId → Option Bool} {lo : Nat} {H : Hp}
theorem levels_ok {g : Lt} (v : g.Vd) {s d : Nat} (hsd : s + d ≤ g.wn) {la : Option Addr} {n cap : Nat} {us : List Int} (hw : Sl H g.wa g.wn g.wcap (spc g.ws)) (ha : Sl H g.aa g.an g.acap (spc g.as)) (hl : Sl H la n cap (ints us)) (hul : us.length = n) (hn : n ≤ 1000)
    (hF : ∀ i : Nat, (dayMask us).testBit i = us.contains (i : Int)) (hlo : lo ≤ H.next) :
    ∃ w H', FnX Try.prog kn lo 43 [.agg g.v.toArray, iv (s : Int), iv (d : Int), .slice la n cap] H w H' ∧ Keep H H' [] ∧ ∃ ta tc, w = .slice ta d tc ∧ Sl H' ta d tc (spc (g.ox s (Nat.testBit (dayMask us)) d)) := by
  refine fnX_low (kn := kn) (lo := lo) (H := H) (args := [.agg g.v.toArray, iv (s : Int), iv (d : Int), .slice la n cap]) (Q := fun w H' => Keep H H' [] ∧ ∃ ta tc, w = .slice ta d tc ∧ Sl H' ta d tc (spc (g.ox s (Nat.testBit (dayMask us)) d))) Try.func43 B43 N43 Z43 L43 (by simp) ?_
  have hk := Keep.refl H []
  have fw := hw.old; have fa := ha.old; have fl := hl.old
  have hfu := v.fu; have hr := v.r; have hf1 := v.f; have hgr := v.gr; have hnn := v.n; have hn40 := v.n40; have hb := v.b
  intro H1 hH1; obtain ⟨kH1, nH1, c1⟩ := new_facts hH1; clear hH1
  have mH1 := kH1.1
  have hk := hk.trans kH1
  have hw := kH1.sl0 hw
  have ha := kH1.sl0 ha
  have hl := kH1.sl0 hl
  have c1 : Cl H1 H.next [.slice g.wa g.wn g.wcap, .slice g.aa g.an g.acap, iv g.r1, iv g.r2, iv g.f1, iv g.f2, iv g.g1, iv g.g2, iv g.full, iv g.base, iv g.kill, iv g.need, iv g.bear] := c1
  refine Exists.intro _ (Exists.intro _ (And.intro c1.of (And.intro (show row 2 _ _ = some [iv g.f1, iv g.f2] from rfl) ?_)))
  intro H2 hH2; obtain ⟨kH2, nH2, c2⟩ := new_facts hH2; clear hH2
  have c2 : Cl H2 H1.next [iv 0, iv 0] := c2
  have mH2 := kH2.1
  have hk := hk.trans kH2
  have hw := kH2.sl0 hw
  have ha := kH2.sl0 ha
  have hl := kH2.sl0 hl
  have c1 := kH2.cl c1 (by simp)
  obtain ⟨_, eH3, lH3, gH3⟩ := id c2
  refine Exists.intro _ (Exists.intro _ (Exists.intro _ (And.intro gH3 (And.intro (by omega) (And.intro rfl (And.intro rfl (And.intro (by simp) ?_)))))))
  intro H3 hH3; obtain ⟨kH3, nH3, sH3⟩ := up_facts c2 hH3; clear hH3
  have mH3 := kH3.1
  have hk := hk.new kH3 (fun b hb => by simp at hb ⊢; omega)
  have hw := kH3.sl hw (fun b e => by have := fw b e; first | (simp; done) | (simp; omega))
  have ha := kH3.sl ha (fun b e => by have := fa b e; first | (simp; done) | (simp; omega))
  have hl := kH3.sl hl (fun b e => by have := fl b e; first | (simp; done) | (simp; omega))
  have c1 := kH3.cl c1 (by first | (simp; done) | (simp; omega))
  have c2 : Cl H3 H1.next [iv g.f1, iv g.f2] := sH3
  obtain ⟨z0, hz0⟩ : ∃ z, z = H.next := ⟨_, rfl⟩
  obtain ⟨z1, hz1⟩ : ∃ z, z = H1.next := ⟨_, rfl⟩
  obtain ⟨ff, hff⟩ : ∃ z, z = H3.next := ⟨_, rfl⟩
  have b36 : z0 < z1 ∧ z1 < ff ∧ H.next ≤ z0 := by omega
  rw [← hz0] at c1
  rw [← hz1] at c2
  rw [← hz0, ← hz1]
  have hfm : ff ≤ H3.next := by omega
  clear hz0 hz1 hff
  refine loop_low (fn := Try.f43) E43_1 N43 L43x1 (fun x : Value × Nat => [(1, iv (s : Int)), (2, iv (d : Int)), (3, .slice la n cap), (4, pt z0), (9, x.1), (10, pt z1), (11, iv ((s + x.2 : Nat) : Int))])
    (fun q x H' => x.2 + q = d ∧ Keep H H' [] ∧ Sl H' g.wa g.wn g.wcap (spc g.ws) ∧ Sl H' g.aa g.an g.acap (spc g.as) ∧ Sl H' la n cap (ints us) ∧ Cl H' z0 g.v ∧ Cl H' z1 [iv (g.lo s (Nat.testBit (dayMask us)) x.2), iv (g.hi s (Nat.testBit (dayMask us)) x.2)] ∧ Acc lo ff 24 H' x.1 x.2 (spc (g.ox s (Nat.testBit (dayMask us)) x.2)) ∧ ff ≤ H'.next) d (.slice none 0 0, 0) ⟨by omega, hk, hw, ha, hl, c1, c2, .inl ⟨rfl, rfl, rfl⟩, hfm⟩ ⟨rfl, rfl, rfl, rfl, rfl, rfl, rfl, trivial⟩ ?_
  rintro q ⟨wv, k⟩ L1 ⟨hik, hk, hw, ha, hl, c4, c10, hacc, hfl⟩
  try simp only at hik
  try simp only at hacc
  try simp only at c10
  have hm := hk.1
  have l4 := c4.lt
  have l10 := c10.lt
  refine And.intro (show InR ((s : Int) + (d : Int)) from ⟨by omega, by omega⟩) ?_
  refine And.intro (fun q1 => ?_) (fun q1 => ?_)
  · have q1 : ((s + k : Nat) : Int) < ((s : Int) + (d : Int)) := of_decide_eq_true q1
    have hkd : k < d := by omega
    have hsw : s + k < g.wn := by omega
    have hsa : s + k < g.an := by omega
    have hW := Lt.W_in v hsw; have hA := Lt.A_in v hsw
    have hlo1 := Lt.lo_in (s := s) (F := (Nat.testBit (dayMask us))) v k; have hhi1 := Lt.hi_in (s := s) (F := (Nat.testBit (dayMask us))) v k
    have m1 := mul_rng (a := g.r1) (b := (g.W (s + k)).1) (p := 1000) (q := 5000) ⟨by omega, by omega⟩ ⟨by omega, by omega⟩
    have m2 := mul_rng (a := g.r2) (b := (g.W (s + k)).2) (p := 1000) (q := 5000) ⟨by omega, by omega⟩ ⟨by omega, by omega⟩
    have e0 : nowV us 0 ((s + k : Nat) : Int) g.g1 (g.lo s (Nat.testBit (dayMask us)) k) = g.lo s (Nat.testBit (dayMask us)) k := nowV_zero
    have e1 : nowV us 0 ((s + k : Nat) : Int) g.g2 (g.hi s (Nat.testBit (dayMask us)) k) = g.hi s (Nat.testBit (dayMask us)) k := nowV_zero
    refine loop_low (fn := Try.f43) E43_2 N43 L43x2 (fun j : Nat => [(1, iv (s : Int)), (2, iv (d : Int)), (3, .slice la n cap), (4, pt z0), (9, wv), (10, pt z1), (11, iv ((s + k : Nat) : Int)), (12, iv (j : Int))])
      (fun p j H' => j + p = n ∧ Keep H H' [] ∧ Sl H' g.wa g.wn g.wcap (spc g.ws) ∧ Sl H' g.aa g.an g.acap (spc g.as) ∧ Sl H' la n cap (ints us) ∧ Cl H' z0 g.v ∧ Cl H' z1 [iv (nowV us j ((s + k : Nat) : Int) g.g1 (g.lo s (Nat.testBit (dayMask us)) k)), iv (nowV us j ((s + k : Nat) : Int) g.g2 (g.hi s (Nat.testBit (dayMask us)) k))] ∧ Acc lo ff 24 H' wv k (spc (g.ox s (Nat.testBit (dayMask us)) k)) ∧ ff ≤ H'.next) n 0 ⟨by omega, hk, hw, ha, hl, c4, by rw [e0, e1]; exact c10, hacc, hfl⟩ ⟨rfl, rfl, rfl, rfl, rfl, rfl, rfl, rfl, trivial⟩ ?_
    rintro p j L2 ⟨hjp, hk, hw, ha, hl, c4, c10, hacc, hfl2⟩
    have hm2 := hk.1
    have l4b := c4.lt
    have l10b := c10.lt
    refine And.intro (fun q2 => ?_) (fun q2 => ?_)
    · have q2 : (j : Int) < (n : Int) := of_decide_eq_true q2
      have hj : j < n := by omega
      obtain ⟨x, hx⟩ := get_some (l := us) (i := j) (by omega)
      rcases hl with ⟨_, h0, _⟩ | ⟨lb, rfl, hld, qld⟩
      · omega
      have llb := fl lb rfl
      refine Exists.intro j (And.intro rfl (And.intro hj ?_))
      refine Exists.intro _ (Exists.intro _ (And.intro hld.of (And.intro (ints_at hx) ?_)))
      refine And.intro (fun q3 => ?_) (fun q3 => ?_)
      · have q3 : x = ((s + k : Nat) : Int) := by simpa using q3
        have hxe := q3
        refine Exists.intro _ (Exists.intro _ (And.intro c4.of (And.intro (show row 2 _ _ = some [iv g.g1, iv g.g2] from rfl) ?_)))
        obtain ⟨_, eH4, lH4, gH4⟩ := id c10
        refine Exists.intro _ (Exists.intro _ (Exists.intro _ (And.intro gH4 (And.intro (by omega) (And.intro rfl (And.intro rfl (And.intro (by simp) ?_)))))))
        intro H4 hH4; obtain ⟨kH4, nH4, sH4⟩ := up_facts c10 hH4; clear hH4
        have mH4 := kH4.1
        have hk := hk.new kH4 (fun b hb => by simp at hb ⊢; omega)
        have hw := kH4.sl hw (fun b e => by have := fw b e; first | (simp; done) | (simp; omega))
        have ha := kH4.sl ha (fun b e => by have := fa b e; first | (simp; done) | (simp; omega))
        have c4 := kH4.cl c4 (by first | (simp; done) | (simp; omega))
        have hacc := hacc.keepW kH4 (by omega)
        have hld := kH4.rd hld (by first | (simp; done) | (simp; omega))
        have c10 : Cl H4 z1 [iv g.g1, iv g.g2] := sH4
        refine And.intro (show InR ((j : Int) + 1) from ⟨by omega, by omega⟩) ?_
        rw [← show nowV us (j + 1) ((s + k : Nat) : Int) g.g1 (g.lo s (Nat.testBit (dayMask us)) k) = g.g1 from nowV_hit hx hxe.symm, ← show nowV us (j + 1) ((s + k : Nat) : Int) g.g2 (g.hi s (Nat.testBit (dayMask us)) k) = g.g2 from nowV_hit hx hxe.symm] at c10
        exact ⟨p - 1, j + 1, by omega, ⟨by omega, hk, hw, ha, .inr ⟨lb, rfl, hld, qld⟩, c4, c10, hacc, by omega⟩, rfl, rfl, rfl, rfl, rfl, rfl, rfl, rfl, trivial⟩
      · have q3 : ¬ (x = ((s + k : Nat) : Int)) := by simpa using q3
        have hxe := q3
        refine And.intro (show InR ((j : Int) + 1) from ⟨by omega, by omega⟩) ?_
        rw [← show nowV us (j + 1) ((s + k : Nat) : Int) g.g1 (g.lo s (Nat.testBit (dayMask us)) k) = nowV us j ((s + k : Nat) : Int) g.g1 (g.lo s (Nat.testBit (dayMask us)) k) from nowV_miss hx (fun e => hxe e.symm), ← show nowV us (j + 1) ((s + k : Nat) : Int) g.g2 (g.hi s (Nat.testBit (dayMask us)) k) = nowV us j ((s + k : Nat) : Int) g.g2 (g.hi s (Nat.testBit (dayMask us)) k) from nowV_miss hx (fun e => hxe e.symm)] at c10
        exact ⟨p - 1, j + 1, by omega, ⟨by omega, hk, hw, ha, .inr ⟨lb, rfl, hld, qld⟩, c4, c10, hacc, by omega⟩, rfl, rfl, rfl, rfl, rfl, rfl, rfl, rfl, trivial⟩
    · have q2 : ¬ ((j : Int) < (n : Int)) := of_decide_eq_false q2
      have hjn : j = n := by omega
      subst hjn
      rcases hw with ⟨_, h0, _⟩ | ⟨wb, ewa, hwd, qw⟩
      · omega
      rcases ha with ⟨_, h0, _⟩ | ⟨ab, eaa, had, qa⟩
      · omega
      have lwb := fw wb ewa; have lab := fa ab eaa
      have hnl := nowV_in (us := us) (j := j) (x := ((s + k : Nat) : Int)) (show 0 ≤ g.g1 ∧ g.g1 ≤ g.full by omega) hlo1
      have hnh := nowV_in (us := us) (j := j) (x := ((s + k : Nat) : Int)) (show 0 ≤ g.g2 ∧ g.g2 ≤ g.full by omega) hhi1
      have el := lo_next (g := g) (s := s) (k := k) hF hul
      have eh := hi_next (g := g) (s := s) (k := k) hF hul
      refine wD_seq ?_
      refine wD_lda (b := z0) (o := 0) rfl c4.rd (show row 13 _ _ = some [.slice g.wa g.wn g.wcap, .slice g.aa g.an g.acap, iv g.r1, iv g.r2, iv g.f1, iv g.f2, iv g.g1, iv g.g2, iv g.full, iv g.base, iv g.kill, iv g.need, iv g.bear] from rfl) ?_
      refine wD_addo (b := z0) (o := 0) rfl ?_
      refine wD_ld (b := z0) (o := 0) (v := .slice (some ⟨wb, 0, none⟩) g.wn g.wcap) rfl c4.rd (show _ = some (Value.slice (some ⟨wb, 0, none⟩) g.wn g.wcap) from by rw [← ewa]; rfl) ?_
      refine wD_mov (v := iv ((s + k : Nat) : Int)) rfl ?_
      refine wD_idx (b := wb) (o := 0) (k := (s + k)) (j := ((s + k : Nat) : Int)) rfl rfl rfl hsw ?_
      refine wD_addo (b := wb) (o := 0 + (s + k) * 2) rfl ?_
      refine wD_ld (b := wb) (o := 0 + (s + k) * 2 + 1) (v := iv ((g.W (s + k)).2)) rfl hwd (span_get hW.1).2 ?_
      obtain ⟨H5, fH5, kH5⟩ := used67_ok (kn := kn) (lo := L2.next) (H := L2) (x := (g.W (s + k)).2) v ⟨by omega, by omega⟩ (by omega)
      refine wD_callh (vs := [.agg g.v.toArray, iv ((g.W (s + k)).2)]) rfl (by kernel_rfl) (callX_args fH5) ?_
      have mH5 := kH5.1
      have hk := hk.trans kH5
      have hl := kH5.sl0 hl
      have c4 := kH5.cl c4 (by simp)
      have c10 := kH5.cl c10 (by simp)
      have hacc := hacc.keep kH5
      have hwd := kH5.rd hwd (by simp)
      have had := kH5.rd had (by simp)
      refine wD_pur (v := iv ((g.r2 * ((g.W (s + k)).2) + 99) / 100)) rfl (by kernel_rfl) ?_
      refine wD_lda (b := z0) (o := 0) rfl c4.rd (show row 13 _ _ = some [.slice g.wa g.wn g.wcap, .slice g.aa g.an g.acap, iv g.r1, iv g.r2, iv g.f1, iv g.f2, iv g.g1, iv g.g2, iv g.full, iv g.base, iv g.kill, iv g.need, iv g.bear] from rfl) ?_
      refine wD_addo (b := z0) (o := 0) rfl ?_
      refine wD_ld (b := z0) (o := 0) (v := .slice (some ⟨wb, 0, none⟩) g.wn g.wcap) rfl c4.rd (show _ = some (Value.slice (some ⟨wb, 0, none⟩) g.wn g.wcap) from by rw [← ewa]; rfl) ?_
      refine wD_mov (v := iv ((s + k : Nat) : Int)) rfl ?_
      refine wD_idx (b := wb) (o := 0) (k := (s + k)) (j := ((s + k : Nat) : Int)) rfl rfl rfl hsw ?_
      refine wD_addo (b := wb) (o := 0 + (s + k) * 2) rfl ?_
      refine wD_ld (b := wb) (o := 0 + (s + k) * 2) (v := iv ((g.W (s + k)).1)) rfl hwd (span_get hW.1).1 ?_
      obtain ⟨H6, fH6, kH6⟩ := used67_ok (kn := kn) (lo := lo) (H := H5) (x := (g.W (s + k)).1) v ⟨by omega, by omega⟩ (by omega)
      refine wD_callf (vs := [.agg g.v.toArray, iv ((g.W (s + k)).1)]) rfl (callX_args fH6) ?_
      have mH6 := kH6.1
      have hk := hk.trans kH6
      have hl := kH6.sl0 hl
      have c4 := kH6.cl c4 (by simp)
      have c10 := kH6.cl c10 (by simp)
      have hacc := hacc.keep kH6
      have hwd := kH6.rd hwd (by simp)
      have had := kH6.rd had (by simp)
      refine wD_pur (v := iv (g.r1 * ((g.W (s + k)).1) / 100)) rfl (by kernel_rfl) ?_
      refine wD_mov (v := iv ((g.r2 * ((g.W (s + k)).2) + 99) / 100)) rfl ?_
      refine wD_mov (v := iv (g.r1 * ((g.W (s + k)).1) / 100)) rfl ?_
      refine wD_end (by repeat' first | exact True.intro | exact (fun h => h) | refine And.intro ?_ ?_ | (intro h; have h : (_ : Nat) = _ := h; omega)) ?_
      refine wD_seq ?_
      refine wD_addo (b := z0) (o := 0) rfl ?_
      refine wD_ld (b := z0) (o := 8) (v := iv g.full) rfl c4.rd rfl ?_
      refine wD_addo (b := z1) (o := 0) rfl ?_
      refine wD_ld (b := z1) (o := 0) (v := iv (nowV us j ((s + k : Nat) : Int) g.g1 (g.lo s (Nat.testBit (dayMask us)) k))) rfl c10.rd rfl ?_
      refine wD_addo (b := z0) (o := 0) rfl ?_
      refine wD_ld (b := z0) (o := 1) (v := .slice (some ⟨ab, 0, none⟩) g.an g.acap) rfl c4.rd (show _ = some (Value.slice (some ⟨ab, 0, none⟩) g.an g.acap) from by rw [← eaa]; rfl) ?_
      refine wD_mov (v := iv ((s + k : Nat) : Int)) rfl ?_
      refine wD_idx (b := ab) (o := 0) (k := (s + k)) (j := ((s + k : Nat) : Int)) rfl rfl rfl hsa ?_
      refine wD_addo (b := ab) (o := 0 + (s + k) * 2) rfl ?_
      refine wD_ld (b := ab) (o := 0 + (s + k) * 2) (v := iv ((g.A (s + k)).1)) rfl had (span_get hA.1).1 ?_
      refine wD_add (a := nowV us j ((s + k : Nat) : Int) g.g1 (g.lo s (Nat.testBit (dayMask us)) k)) (b := (g.A (s + k)).1) rfl rfl ⟨by omega, by omega⟩ ?_
      refine wD_mov (v := iv ((g.r2 * ((g.W (s + k)).2) + 99) / 100)) rfl ?_
      refine wD_sub (a := (nowV us j ((s + k : Nat) : Int) g.g1 (g.lo s (Nat.testBit (dayMask us)) k)) + ((g.A (s + k)).1)) (b := (g.r2 * ((g.W (s + k)).2) + 99) / 100) rfl rfl ⟨by omega, by omega⟩ ?_
      refine wD_mm (a := 0) (b := ((nowV us j ((s + k : Nat) : Int) g.g1 (g.lo s (Nat.testBit (dayMask us)) k)) + ((g.A (s + k)).1)) - ((g.r2 * ((g.W (s + k)).2) + 99) / 100)) rfl rfl ?_
      refine wD_mm (a := g.full) (b := max 0 (((nowV us j ((s + k : Nat) : Int) g.g1 (g.lo s (Nat.testBit (dayMask us)) k)) + ((g.A (s + k)).1)) - ((g.r2 * ((g.W (s + k)).2) + 99) / 100))) rfl rfl ?_
      refine wD_addo (b := z0) (o := 0) rfl ?_
      refine wD_ld (b := z0) (o := 8) (v := iv g.full) rfl c4.rd rfl ?_
      refine wD_addo (b := z1) (o := 0) rfl ?_
      refine wD_ld (b := z1) (o := 1) (v := iv (nowV us j ((s + k : Nat) : Int) g.g2 (g.hi s (Nat.testBit (dayMask us)) k))) rfl c10.rd rfl ?_
      refine wD_addo (b := z0) (o := 0) rfl ?_
      refine wD_ld (b := z0) (o := 1) (v := .slice (some ⟨ab, 0, none⟩) g.an g.acap) rfl c4.rd (show _ = some (Value.slice (some ⟨ab, 0, none⟩) g.an g.acap) from by rw [← eaa]; rfl) ?_
      refine wD_mov (v := iv ((s + k : Nat) : Int)) rfl ?_
      refine wD_idx (b := ab) (o := 0) (k := (s + k)) (j := ((s + k : Nat) : Int)) rfl rfl rfl hsa ?_
      refine wD_addo (b := ab) (o := 0 + (s + k) * 2) rfl ?_
      refine wD_ld (b := ab) (o := 0 + (s + k) * 2 + 1) (v := iv ((g.A (s + k)).2)) rfl had (span_get hA.1).2 ?_
      refine wD_add (a := nowV us j ((s + k : Nat) : Int) g.g2 (g.hi s (Nat.testBit (dayMask us)) k)) (b := (g.A (s + k)).2) rfl rfl ⟨by omega, by omega⟩ ?_
      refine wD_mov (v := iv (g.r1 * ((g.W (s + k)).1) / 100)) rfl ?_
      refine wD_sub (a := (nowV us j ((s + k : Nat) : Int) g.g2 (g.hi s (Nat.testBit (dayMask us)) k)) + ((g.A (s + k)).2)) (b := g.r1 * ((g.W (s + k)).1) / 100) rfl rfl ⟨by omega, by omega⟩ ?_
      refine wD_mm (a := 0) (b := ((nowV us j ((s + k : Nat) : Int) g.g2 (g.hi s (Nat.testBit (dayMask us)) k)) + ((g.A (s + k)).2)) - (g.r1 * ((g.W (s + k)).1) / 100)) rfl rfl ?_
      refine wD_mm (a := g.full) (b := max 0 (((nowV us j ((s + k : Nat) : Int) g.g2 (g.hi s (Nat.testBit (dayMask us)) k)) + ((g.A (s + k)).2)) - (g.r1 * ((g.W (s + k)).1) / 100))) rfl rfl ?_
      refine wD_pur (v := .agg #[iv (min g.full (max 0 (((nowV us j ((s + k : Nat) : Int) g.g1 (g.lo s (Nat.testBit (dayMask us)) k)) + ((g.A (s + k)).1)) - ((g.r2 * ((g.W (s + k)).2) + 99) / 100)))), iv (min g.full (max 0 (((nowV us j ((s + k : Nat) : Int) g.g2 (g.hi s (Nat.testBit (dayMask us)) k)) + ((g.A (s + k)).2)) - (g.r1 * ((g.W (s + k)).1) / 100))))]) rfl (by kernel_rfl) ?_
      refine wD_sta (b := z1) (o := 0) rfl rfl c10 (by omega) rfl rfl (by simp) ?_
      intro H7 kH7 nH7 sH7
      have mH7 := kH7.1
      have hk := hk.new kH7 (fun b hb => by simp at hb ⊢; omega)
      have hl := kH7.sl hl (fun b e => by have := fl b e; first | (simp; done) | (simp; omega))
      have c4 := kH7.cl c4 (by first | (simp; done) | (simp; omega))
      have hacc := hacc.keepW kH7 (by omega)
      have hwd := kH7.rd hwd (by first | (simp; done) | (simp; omega))
      have had := kH7.rd had (by first | (simp; done) | (simp; omega))
      have c10 : Cl H7 z1 [iv (min g.full (max 0 (((nowV us j ((s + k : Nat) : Int) g.g1 (g.lo s (Nat.testBit (dayMask us)) k)) + ((g.A (s + k)).1)) - ((g.r2 * ((g.W (s + k)).2) + 99) / 100)))), iv (min g.full (max 0 (((nowV us j ((s + k : Nat) : Int) g.g2 (g.hi s (Nat.testBit (dayMask us)) k)) + ((g.A (s + k)).2)) - (g.r1 * ((g.W (s + k)).1) / 100))))] := sH7
      refine wD_end (by repeat' first | exact True.intro | exact (fun h => h) | refine And.intro ?_ ?_ | (intro h; have h : (_ : Nat) = _ := h; omega)) ?_
      refine Exists.intro _ (Exists.intro _ (And.intro c10.of (And.intro (show row 2 _ _ = some [iv (min g.full (max 0 (((nowV us j ((s + k : Nat) : Int) g.g1 (g.lo s (Nat.testBit (dayMask us)) k)) + ((g.A (s + k)).1)) - ((g.r2 * ((g.W (s + k)).2) + 99) / 100)))), iv (min g.full (max 0 (((nowV us j ((s + k : Nat) : Int) g.g2 (g.hi s (Nat.testBit (dayMask us)) k)) + ((g.A (s + k)).2)) - (g.r1 * ((g.W (s + k)).1) / 100))))] from rfl) ?_)))
      obtain ⟨H8, hH8⟩ : ∃ H8, H7.new (.cells [iv (min g.full (max 0 (((nowV us j ((s + k : Nat) : Int) g.g1 (g.lo s (Nat.testBit (dayMask us)) k)) + ((g.A (s + k)).1)) - ((g.r2 * ((g.W (s + k)).2) + 99) / 100)))), iv (min g.full (max 0 (((nowV us j ((s + k : Nat) : Int) g.g2 (g.hi s (Nat.testBit (dayMask us)) k)) + ((g.A (s + k)).2)) - (g.r1 * ((g.W (s + k)).1) / 100))))] 24 false) = H8 := ⟨_, rfl⟩
      refine And.intro rfl (Or.inr (And.intro (by kernel_rfl) (Exists.intro _ (Exists.intro H8 (Exists.intro _ (And.intro ((heap_build1 (v := .agg #[iv (min g.full (max 0 (((nowV us j ((s + k : Nat) : Int) g.g1 (g.lo s (Nat.testBit (dayMask us)) k)) + ((g.A (s + k)).1)) - ((g.r2 * ((g.W (s + k)).2) + 99) / 100)))), iv (min g.full (max 0 (((nowV us j ((s + k : Nat) : Int) g.g2 (g.hi s (Nat.testBit (dayMask us)) k)) + ((g.A (s + k)).2)) - (g.r1 * ((g.W (s + k)).1) / 100))))]) se22 z24 rfl rfl rfl (by decide)).trans (by rw [← hH8]; rfl)) (And.intro (fun b e => by cases e) ?_)))))))
      obtain ⟨kH8, nH8, c8⟩ := new_facts hH8; clear hH8
      have c8 : Cl H8 H7.next [iv (min g.full (max 0 (((nowV us j ((s + k : Nat) : Int) g.g1 (g.lo s (Nat.testBit (dayMask us)) k)) + ((g.A (s + k)).1)) - ((g.r2 * ((g.W (s + k)).2) + 99) / 100)))), iv (min g.full (max 0 (((nowV us j ((s + k : Nat) : Int) g.g2 (g.hi s (Nat.testBit (dayMask us)) k)) + ((g.A (s + k)).2)) - (g.r1 * ((g.W (s + k)).1) / 100))))] := c8
      have mH8 := kH8.1
      have hk := hk.trans kH8
      have hl := kH8.sl0 hl
      have c4 := kH8.cl c4 (by simp)
      have hacc := hacc.keep kH8
      have hwd := kH8.rd hwd (by simp)
      have had := kH8.rd had (by simp)
      have c10 := kH8.cl c10 (by simp)
      have hw : Sl _ _ _ _ _ := .inr ⟨wb, ewa, hwd, qw⟩
      obtain ⟨H9, kdH9, eH9, dH9, aH9, kbH9⟩ := heap_append_below (P := Try.prog) (lo := lo) (k := k) (t1 := 22) se22 u22 (c8.sl (Nat.le_refl 1)) rfl (by decide) rfl (by rw [spc_len, Lt.ox_len]) (by omega) (hacc.keep (Keep.refl _ [])) (by omega) (by omega)
      refine And.intro rfl (Or.inr (And.intro (by cases wv <;> kernel_rfl) (Exists.intro _ (Exists.intro H9 (Exists.intro _ (And.intro (eH9 _ _ _ _ _ _ _ rfl rfl) (And.intro (reg_ok dH9 _) ?_)))))))
      have hk := kbH9.keep hk (by omega)
      have hl := kbH9.sl hl (fun b e => by have := fl b e; omega)
      have c4 := kbH9.cl c4 (by omega)
      have c10 := kbH9.cl c10 (by omega)
      have mH9 := kbH9.1
      have hw := kbH9.sl hw (fun b e => by have := fw b e; omega)
      have had := kbH9.rd had (by omega)
      refine And.intro (show InR (((s + k : Nat) : Int) + 1) from ⟨by omega, by omega⟩) ?_
      have ho : spc (g.ox s (Nat.testBit (dayMask us)) (k + 1)) = spc (g.ox s (Nat.testBit (dayMask us)) k) ++ [iv (g.lo s (Nat.testBit (dayMask us)) (k + 1)), iv (g.hi s (Nat.testBit (dayMask us)) (k + 1))] := by rw [Lt.ox_succ]; simp [spc]
      rw [el, eh] at c10
      refine ⟨q - 1, (_, k + 1), by omega, ⟨by show k + 1 + (q - 1) = d; omega, hk, hw, .inr ⟨ab, eaa, had, qa⟩, hl, c4, c10, ?_, by show ff ≤ H9.next; omega⟩, rfl, rfl, rfl, rfl, rfl, rfl, rfl, trivial⟩
      show Acc _ _ _ _ _ (k + 1) (spc (g.ox s (Nat.testBit (dayMask us)) (k + 1)))
      rw [ho]; rw [el, eh] at aH9; exact aH9
  · have q1 : ¬ (((s + k : Nat) : Int) < ((s : Int) + (d : Int))) := of_decide_eq_false q1
    have hkd : k = d := by omega
    subst hkd
    obtain ⟨ta, tc, rfl, hsl, _⟩ := hacc.sl
    exact And.intro trivial (Exists.intro _ (And.intro rfl ⟨hk, ta, tc, rfl, hsl⟩))
end
end Go.Ax

/-
  Late: the document's Warmth, Oxygen and Tells (45, 16, 18, 20) (written by program).
-/
namespace Go.Ax
open Go Go.RowKit Go.Proofs

/-- what Oxygen answers, and what it says -/
def Lt.Oz (g : Lt) (a b : Int) (us : List Int) (l : List (Int × Int)) (e : Int) : Prop :=
  (g.ok = false ∧ l = [] ∧ e = 1) ∨ (g.ok = true ∧ (flB g a b && setB a (a + b) us) = false ∧ l = [] ∧ e = 2) ∨ (g.ok = true ∧ ∃ s d : Nat, a = s ∧ b = d ∧ s + d ≤ g.wn ∧ setB s (s + d) us = true ∧ l = g.ox s (Nat.testBit (dayMask us)) d ∧ e = 0)
theorem Lt.Oz.uniq {g : Lt} {a b : Int} {us : List Int} {l l' : List (Int × Int)} {e e' : Int} (h : g.Oz a b us l e) (h' : g.Oz a b us l' e') : l = l' ∧ e = e' := by
  rcases h with ⟨o, rfl, rfl⟩ | ⟨o, f, rfl, rfl⟩ | ⟨o, s, d, rfl, rfl, hs, f, rfl, rfl⟩ <;> rcases h' with ⟨o', rfl, rfl⟩ | ⟨o', f', rfl, rfl⟩ | ⟨o', s', d', e1, e2, hs', f', rfl, rfl⟩
  · exact ⟨rfl, rfl⟩
  · rw [o] at o'; cases o'
  · rw [o] at o'; cases o'
  · rw [o] at o'; cases o'
  · exact ⟨rfl, rfl⟩
  · subst e1; subst e2; rw [flB_of hs', f'] at f; cases f
  · rw [o] at o'; cases o'
  · rw [flB_of hs, f] at f'; cases f'
  · obtain rfl : s = s' := by omega
    obtain rfl : d = d' := by omega
    exact ⟨rfl, rfl⟩
theorem Lt.Wm.uniq {g : Lt} {a b : Int} {w w' : Value} (h : g.Wm a b w) (h' : g.Wm a b w') : w = w' := by
  rcases h with ⟨o, rfl⟩ | ⟨o, f, rfl⟩ | ⟨o, s, d, rfl, rfl, hs, rfl⟩ <;> rcases h' with ⟨o', rfl⟩ | ⟨o', f', rfl⟩ | ⟨o', s', d', e1, e2, hs', rfl⟩
  · rfl
  · rw [o] at o'; cases o'
  · rw [o] at o'; cases o'
  · rw [o] at o'; cases o'
  · rfl
  · subst e1; subst e2; rw [flB_of hs'] at f; cases f
  · rw [o] at o'; cases o'
  · rw [flB_of hs] at f'; cases f'
  · obtain rfl : s = s' := by omega
    obtain rfl : d = d' := by omega
    rfl
theorem Lt.Tl.uniq {g : Lt} {a b : Int} {us : List Int} {w w' : Value} (h : g.Tl a b us w) (h' : g.Tl a b us w') : w = w' := by
  rcases h with ⟨o, rfl⟩ | ⟨o, f, rfl⟩ | ⟨o, s, d, rfl, rfl, hs, f, rfl⟩ <;> rcases h' with ⟨o', rfl⟩ | ⟨o', f', rfl⟩ | ⟨o', s', d', e1, e2, hs', f', rfl⟩
  · rfl
  · rw [o] at o'; cases o'
  · rw [o] at o'; cases o'
  · rw [o] at o'; cases o'
  · rfl
  · subst e1; subst e2; rw [flB_of hs', f'] at f; cases f
  · rw [o] at o'; cases o'
  · rw [flB_of hs, f] at f'; cases f'
  · obtain rfl : s = s' := by omega
    obtain rfl : d = d' := by omega
    rfl
theorem Lt.Tl.any {g : Lt} {a b : Int} {us : List Int} {w : Value} (h : g.Tl a b us w) : ∃ x y e : Int, w = .tuple #[iv x, iv y, iv e] := by
  rcases h with ⟨_, h⟩ | ⟨_, _, h⟩ | ⟨_, _, _, _, _, _, _, h⟩ <;> exact ⟨_, _, _, h⟩
section
variable {kn : FuncId → Option Bool} {lo : Nat} {H : Hp}
theorem tells45_ok {g : Lt} (v : g.Vd) {s d : Nat} (hsd : s + d ≤ g.wn) (hw : Sl H g.wa g.wn g.wcap (spc g.ws)) (ha : Sl H g.aa g.an g.acap (spc g.as)) {la : Option Addr} {n cap : Nat} {us : List Int} (hl : Sl H la n cap (ints us)) (hul : us.length = n) (hn : n ≤ 1000) (hF : ∀ i : Nat, (dayMask us).testBit i = us.contains (i : Int)) (hlo : lo ≤ H.next) :
    ∃ H', FnX Try.prog kn lo 45 [.agg g.v.toArray, iv (s : Int), iv (d : Int), .slice la n cap] H (.tuple #[iv (sureV (decide (g.wl s d ≥ g.kill)) (decide (g.wh s d ≥ g.kill))), iv (sureV (decide (g.sm s (Nat.testBit (dayMask us)) d > g.bear)) (decide (g.sl s (Nat.testBit (dayMask us)) d > g.bear)))]) H' ∧ Keep H H' [] := by
  have key := fnX_low (kn := kn) (lo := lo) (H := H) (args := [.agg g.v.toArray, iv (s : Int), iv (d : Int), .slice la n cap]) (Q := fun w H' => w = .tuple #[iv (sureV (decide (g.wl s d ≥ g.kill)) (decide (g.wh s d ≥ g.kill))), iv (sureV (decide (g.sm s (Nat.testBit (dayMask us)) d > g.bear)) (decide (g.sl s (Nat.testBit (dayMask us)) d > g.bear)))] ∧ Keep H H' []) Try.func45 B45 N45 Z45 L45 (by simp) ?_
  · obtain ⟨w, H', h, rfl, q⟩ := key; exact ⟨H', h, q⟩
  have hk := Keep.refl H []
  have fw := hw.old; have fa := ha.old
  have fl := hl.old; have hn40 := v.n40
  intro H1 hH1; obtain ⟨kH1, nH1, c1⟩ := new_facts hH1; clear hH1
  have mH1 := kH1.1
  have hk := hk.trans kH1
  have hw := kH1.sl0 hw
  have ha := kH1.sl0 ha
  have hl := kH1.sl0 hl
  have c1 : Cl H1 H.next [.slice g.wa g.wn g.wcap, .slice g.aa g.an g.acap, iv g.r1, iv g.r2, iv g.f1, iv g.f2, iv g.g1, iv g.g2, iv g.full, iv g.base, iv g.kill, iv g.need, iv g.bear] := c1
  refine Exists.intro _ (Exists.intro _ (And.intro c1.of (And.intro (show row 13 _ _ = some [.slice g.wa g.wn g.wcap, .slice g.aa g.an g.acap, iv g.r1, iv g.r2, iv g.f1, iv g.f2, iv g.g1, iv g.g2, iv g.full, iv g.base, iv g.kill, iv g.need, iv g.bear] from rfl) ?_)))
  obtain ⟨H2, fH2, kH2⟩ := warm40_ok (kn := kn) (lo := lo) (H := H1) v hsd hw (by omega)
  have mH2 := kH2.1
  have hk := hk.trans kH2
  have hw := kH2.sl0 hw
  have ha := kH2.sl0 ha
  have hl := kH2.sl0 hl
  have c1 := kH2.cl c1 (by simp)
  refine Exists.intro _ (Exists.intro _ (And.intro (callX_args fH2) ?_))
  intro H3 hH3; obtain ⟨kH3, nH3, c3⟩ := new_facts hH3; clear hH3
  have c3 : Cl H3 H2.next [iv 0, iv 0] := c3
  have mH3 := kH3.1
  have hk := hk.trans kH3
  have hw := kH3.sl0 hw
  have ha := kH3.sl0 ha
  have hl := kH3.sl0 hl
  have c1 := kH3.cl c1 (by simp)
  obtain ⟨_, eH4, lH4, gH4⟩ := id c3
  refine Exists.intro _ (Exists.intro _ (Exists.intro _ (And.intro gH4 (And.intro (by omega) (And.intro rfl (And.intro rfl (And.intro (by simp) ?_)))))))
  intro H4 hH4; obtain ⟨kH4, nH4, sH4⟩ := up_facts c3 hH4; clear hH4
  have mH4 := kH4.1
  have hk := hk.new kH4 (fun b hb => by simp at hb ⊢; omega)
  have hw := kH4.sl hw (fun b e => by have := fw b e; first | (simp; done) | (simp; omega))
  have ha := kH4.sl ha (fun b e => by have := fa b e; first | (simp; done) | (simp; omega))
  have hl := kH4.sl hl (fun b e => by have := fl b e; first | (simp; done) | (simp; omega))
  have c1 := kH4.cl c1 (by first | (simp; done) | (simp; omega))
  have c3 : Cl H4 H2.next [iv (g.wl s d), iv (g.wh s d)] := sH4
  refine Exists.intro _ (Exists.intro _ (And.intro c1.of (And.intro (show row 13 _ _ = some [.slice g.wa g.wn g.wcap, .slice g.aa g.an g.acap, iv g.r1, iv g.r2, iv g.f1, iv g.f2, iv g.g1, iv g.g2, iv g.full, iv g.base, iv g.kill, iv g.need, iv g.bear] from rfl) ?_)))
  obtain ⟨wH5, H5, fH5, kH5, ta, tc, rfl, hta⟩ := levels_ok (kn := kn) (lo := lo) (H := H4) v hsd hw ha hl hul hn hF (by omega)
  have mH5 := kH5.1
  have hk := hk.trans kH5
  have hw := kH5.sl0 hw
  have ha := kH5.sl0 ha
  have hl := kH5.sl0 hl
  have c1 := kH5.cl c1 (by simp)
  have c3 := kH5.cl c3 (by simp)
  have fta : ∀ x, ta = some ⟨x, 0, none⟩ → x < H5.next := hta.old
  refine Exists.intro _ (Exists.intro _ (And.intro (callX_args fH5) ?_))
  refine loop_low (fn := Try.f45) E45_1 N45 L45x1 (fun i : Nat => [(4, pt H.next), (10, pt H2.next), (13, .slice ta d tc), (11, iv (g.sm s (Nat.testBit (dayMask us)) i)), (12, iv (g.sl s (Nat.testBit (dayMask us)) i)), (14, iv (i : Int))])
    (fun k i H' => i + k = d ∧ Keep H5 H' []) d 0 ⟨by omega, Keep.refl _ _⟩ ⟨rfl, rfl, rfl, rfl, rfl, rfl, trivial⟩ ?_
  rintro k i L1 ⟨hik, hki⟩
  have hm := hki.1
  have hk := hk.trans hki
  have hw := hki.sl0 hw
  have ha := hki.sl0 ha
  have hl := hki.sl0 hl
  have c1 := hki.cl c1 (by simp)
  have c3 := hki.cl c3 (by simp)
  have hta := hki.sl0 hta
  have kb := hki
  have hsi := Lt.sl_in (g := g) (s := s) (F := (Nat.testBit (dayMask us))) i; have hmi := Lt.sm_in (g := g) (s := s) (F := (Nat.testBit (dayMask us))) i
  refine And.intro (fun q1 => ?_) (fun q1 => ?_)
  · have q1 : (i : Int) < (d : Int) := of_decide_eq_true q1
    have hid : i < d := by omega
    rcases hta with ⟨_, h0, _⟩ | ⟨tb, rfl, htd, _⟩
    · omega
    refine wD_seq ?_
    refine wD_mov (v := .slice (some ⟨tb, 0, none⟩) d tc) rfl ?_
    refine wD_mov (v := iv (i : Int)) rfl ?_
    refine wD_idx (b := tb) (o := 0) (k := i) (j := (i : Int)) rfl rfl rfl hid ?_
    refine wD_addo (b := tb) (o := 0 + i * 2) rfl ?_
    refine wD_ld (b := tb) (o := 0 + i * 2) (v := iv (g.lo s (Nat.testBit (dayMask us)) (i + 1))) rfl htd (span_get (Lt.ox_get hid)).1 ?_
    refine wD_addo (b := H.next) (o := 0) rfl ?_
    refine wD_ld (b := H.next) (o := 11) (v := iv g.need) rfl c1.rd rfl ?_
    refine wD_c_lss (a := g.lo s (Nat.testBit (dayMask us)) (i + 1)) (b := g.need) rfl rfl ?_
    refine wD_end (by repeat' first | exact True.intro | exact (fun h => h) | refine And.intro ?_ ?_ | (intro h; have h : (_ : Nat) = _ := h; omega)) ?_
    refine And.intro (fun q2 => ?_) (fun q2 => ?_)
    · have q2 : (g.lo s (Nat.testBit (dayMask us)) (i + 1)) < g.need := of_decide_eq_true q2
      have hp := q2
      refine And.intro (show InR ((g.sl s (Nat.testBit (dayMask us)) i) + 1) from ⟨by omega, by omega⟩) ?_
      refine wD_seq ?_
      refine wD_mov (v := .slice (some ⟨tb, 0, none⟩) d tc) rfl ?_
      refine wD_mov (v := iv (i : Int)) rfl ?_
      refine wD_idx (b := tb) (o := 0) (k := i) (j := (i : Int)) rfl rfl rfl hid ?_
      refine wD_addo (b := tb) (o := 0 + i * 2) rfl ?_
      refine wD_ld (b := tb) (o := 0 + i * 2 + 1) (v := iv (g.hi s (Nat.testBit (dayMask us)) (i + 1))) rfl htd (span_get (Lt.ox_get hid)).2 ?_
      refine wD_addo (b := H.next) (o := 0) rfl ?_
      refine wD_ld (b := H.next) (o := 11) (v := iv g.need) rfl c1.rd rfl ?_
      refine wD_c_lss (a := g.hi s (Nat.testBit (dayMask us)) (i + 1)) (b := g.need) rfl rfl ?_
      refine wD_end (by repeat' first | exact True.intro | exact (fun h => h) | refine And.intro ?_ ?_ | (intro h; have h : (_ : Nat) = _ := h; omega)) ?_
      refine And.intro (fun q3 => ?_) (fun q3 => ?_)
      · have q3 : (g.hi s (Nat.testBit (dayMask us)) (i + 1)) < g.need := of_decide_eq_true q3
        have hq := q3
        refine And.intro (show InR ((g.sm s (Nat.testBit (dayMask us)) i) + 1) from ⟨by omega, by omega⟩) ?_
        refine And.intro (show InR ((i : Int) + 1) from ⟨by omega, by omega⟩) ?_
        have e1 : g.sl s (Nat.testBit (dayMask us)) (i + 1) = g.sl s (Nat.testBit (dayMask us)) i + 1 := by rw [Lt.sl, decide_eq_true hp]; rfl
        have e2 : g.sm s (Nat.testBit (dayMask us)) (i + 1) = g.sm s (Nat.testBit (dayMask us)) i + 1 := by rw [Lt.sm, decide_eq_true hq]; rfl
        exact ⟨k - 1, i + 1, by omega, ⟨by omega, kb⟩, rfl, rfl, rfl, by rw [e2]; rfl, by rw [e1]; rfl, rfl, trivial⟩
      · have q3 : ¬ ((g.hi s (Nat.testBit (dayMask us)) (i + 1)) < g.need) := of_decide_eq_false q3
        have hq := q3
        refine And.intro (show InR ((i : Int) + 1) from ⟨by omega, by omega⟩) ?_
        have e1 : g.sl s (Nat.testBit (dayMask us)) (i + 1) = g.sl s (Nat.testBit (dayMask us)) i + 1 := by rw [Lt.sl, decide_eq_true hp]; rfl
        have e2 : g.sm s (Nat.testBit (dayMask us)) (i + 1) = g.sm s (Nat.testBit (dayMask us)) i := by rw [Lt.sm, decide_eq_false hq]; rfl
        exact ⟨k - 1, i + 1, by omega, ⟨by omega, kb⟩, rfl, rfl, rfl, by rw [e2]; rfl, by rw [e1]; rfl, rfl, trivial⟩
    · have q2 : ¬ ((g.lo s (Nat.testBit (dayMask us)) (i + 1)) < g.need) := of_decide_eq_false q2
      have hp := q2
      refine wD_seq ?_
      refine wD_mov (v := .slice (some ⟨tb, 0, none⟩) d tc) rfl ?_
      refine wD_mov (v := iv (i : Int)) rfl ?_
      refine wD_idx (b := tb) (o := 0) (k := i) (j := (i : Int)) rfl rfl rfl hid ?_
      refine wD_addo (b := tb) (o := 0 + i * 2) rfl ?_
      refine wD_ld (b := tb) (o := 0 + i * 2 + 1) (v := iv (g.hi s (Nat.testBit (dayMask us)) (i + 1))) rfl htd (span_get (Lt.ox_get hid)).2 ?_
      refine wD_addo (b := H.next) (o := 0) rfl ?_
      refine wD_ld (b := H.next) (o := 11) (v := iv g.need) rfl c1.rd rfl ?_
      refine wD_c_lss (a := g.hi s (Nat.testBit (dayMask us)) (i + 1)) (b := g.need) rfl rfl ?_
      refine wD_end (by repeat' first | exact True.intro | exact (fun h => h) | refine And.intro ?_ ?_ | (intro h; have h : (_ : Nat) = _ := h; omega)) ?_
      refine And.intro (fun q4 => ?_) (fun q4 => ?_)
      · have q4 : (g.hi s (Nat.testBit (dayMask us)) (i + 1)) < g.need := of_decide_eq_true q4
        have hq := q4
        refine And.intro (show InR ((g.sm s (Nat.testBit (dayMask us)) i) + 1) from ⟨by omega, by omega⟩) ?_
        refine And.intro (show InR ((i : Int) + 1) from ⟨by omega, by omega⟩) ?_
        have e1 : g.sl s (Nat.testBit (dayMask us)) (i + 1) = g.sl s (Nat.testBit (dayMask us)) i := by rw [Lt.sl, decide_eq_false hp]; rfl
        have e2 : g.sm s (Nat.testBit (dayMask us)) (i + 1) = g.sm s (Nat.testBit (dayMask us)) i + 1 := by rw [Lt.sm, decide_eq_true hq]; rfl
        exact ⟨k - 1, i + 1, by omega, ⟨by omega, kb⟩, rfl, rfl, rfl, by rw [e2]; rfl, by rw [e1]; rfl, rfl, trivial⟩
      · have q4 : ¬ ((g.hi s (Nat.testBit (dayMask us)) (i + 1)) < g.need) := of_decide_eq_false q4
        have hq := q4
        refine And.intro (show InR ((i : Int) + 1) from ⟨by omega, by omega⟩) ?_
        have e1 : g.sl s (Nat.testBit (dayMask us)) (i + 1) = g.sl s (Nat.testBit (dayMask us)) i := by rw [Lt.sl, decide_eq_false hp]; rfl
        have e2 : g.sm s (Nat.testBit (dayMask us)) (i + 1) = g.sm s (Nat.testBit (dayMask us)) i := by rw [Lt.sm, decide_eq_false hq]; rfl
        exact ⟨k - 1, i + 1, by omega, ⟨by omega, kb⟩, rfl, rfl, rfl, by rw [e2]; rfl, by rw [e1]; rfl, rfl, trivial⟩
  · have q1 : ¬ ((i : Int) < (d : Int)) := of_decide_eq_false q1
    have hid : d = i := by omega
    subst hid
    have hsi := Lt.sl_in (g := g) (s := s) (F := (Nat.testBit (dayMask us))) d; have hmi := Lt.sm_in (g := g) (s := s) (F := (Nat.testBit (dayMask us))) d
    refine wD_seq ?_
    refine wD_addo (b := H2.next) (o := 0) rfl ?_
    refine wD_ld (b := H2.next) (o := 1) (v := iv (g.wh s d)) rfl c3.rd rfl ?_
    refine wD_addo (b := H.next) (o := 0) rfl ?_
    refine wD_ld (b := H.next) (o := 10) (v := iv g.kill) rfl c1.rd rfl ?_
    refine wD_k_geq (decide ((g.wh s d) ≥ g.kill)) rfl rfl rfl ?_
    refine wD_addo (b := H2.next) (o := 0) rfl ?_
    refine wD_ld (b := H2.next) (o := 0) (v := iv (g.wl s d)) rfl c3.rd rfl ?_
    refine wD_addo (b := H.next) (o := 0) rfl ?_
    refine wD_ld (b := H.next) (o := 10) (v := iv g.kill) rfl c1.rd rfl ?_
    refine wD_k_geq (decide ((g.wl s d) ≥ g.kill)) rfl rfl rfl ?_
    obtain ⟨H6, fH6, kH6⟩ := sure68_ok (kn := kn) (lo := L1.next) (H := L1) (s := decide ((g.wh s d) ≥ g.kill)) (a := decide ((g.wl s d) ≥ g.kill))
    refine wD_callh (vs := [.bool (decide ((g.wh s d) ≥ g.kill)), .bool (decide ((g.wl s d) ≥ g.kill))]) rfl (by kernel_rfl) (callX_args fH6) ?_
    have mH6 := kH6.1
    have hk := hk.trans kH6
    have hw := kH6.sl0 hw
    have ha := kH6.sl0 ha
    have hl := kH6.sl0 hl
    have c1 := kH6.cl c1 (by simp)
    have c3 := kH6.cl c3 (by simp)
    have hta := kH6.sl0 hta
    refine wD_mov (v := iv (g.sl s (Nat.testBit (dayMask us)) d)) rfl ?_
    refine wD_addo (b := H.next) (o := 0) rfl ?_
    refine wD_ld (b := H.next) (o := 12) (v := iv g.bear) rfl c1.rd rfl ?_
    refine wD_k_gtr (decide ((g.sl s (Nat.testBit (dayMask us)) d) > g.bear)) rfl rfl rfl ?_
    refine wD_mov (v := iv (g.sm s (Nat.testBit (dayMask us)) d)) rfl ?_
    refine wD_addo (b := H.next) (o := 0) rfl ?_
    refine wD_ld (b := H.next) (o := 12) (v := iv g.bear) rfl c1.rd rfl ?_
    refine wD_k_gtr (decide ((g.sm s (Nat.testBit (dayMask us)) d) > g.bear)) rfl rfl rfl ?_
    obtain ⟨H7, fH7, kH7⟩ := sure68_ok (kn := kn) (lo := lo) (H := H6) (s := decide ((g.sl s (Nat.testBit (dayMask us)) d) > g.bear)) (a := decide ((g.sm s (Nat.testBit (dayMask us)) d) > g.bear))
    refine wD_callf (vs := [.bool (decide ((g.sl s (Nat.testBit (dayMask us)) d) > g.bear)), .bool (decide ((g.sm s (Nat.testBit (dayMask us)) d) > g.bear))]) rfl (callX_args fH7) ?_
    have mH7 := kH7.1
    have hk := hk.trans kH7
    have hw := kH7.sl0 hw
    have ha := kH7.sl0 ha
    have hl := kH7.sl0 hl
    have c1 := kH7.cl c1 (by simp)
    have c3 := kH7.cl c3 (by simp)
    have hta := kH7.sl0 hta
    refine wD_mov (v := iv (sureV (decide ((g.wl s d) ≥ g.kill)) (decide ((g.wh s d) ≥ g.kill)))) rfl ?_
    refine wD_mov (v := iv (sureV (decide ((g.sm s (Nat.testBit (dayMask us)) d) > g.bear)) (decide ((g.sl s (Nat.testBit (dayMask us)) d) > g.bear)))) rfl ?_
    refine wD_end (by repeat' first | exact True.intro | exact (fun h => h) | refine And.intro ?_ ?_ | (intro h; have h : (_ : Nat) = _ := h; omega)) ?_
    exact And.intro trivial (Exists.intro _ (And.intro rfl ⟨rfl, hk⟩))
end
end Go.Ax

/-
  Late: the law LateFloods, whatever the input (written by program).
-/
namespace Go.Ax
open Go Go.RowKit Go.Proofs

section
variable {kn : FuncId → Option Bool} {lo : Nat} {H : Hp}
end
end Go.Ax

/-! What 'low' makes of more functions of late (written by program). -/
namespace Go.Ax
open Go Go.RowKit Go.Proofs
theorem N46 : Try.f46.ntmps = 16 := by kernel_rfl
theorem Z46 : Try.f46.results.toList = ((List.toArray [(.cell 4 65), (.tmp 5)]) : Array ResultVar).toList := by kernel_rfl
theorem B46 : Try.f46.body = some (at_ Try.f46 []) := by kernel_rfl
theorem N22 : Try.f22.ntmps = 25 := by kernel_rfl
theorem Z22 : Try.f22.results.toList = ((List.toArray [(.tmp 4), (.tmp 5)]) : Array ResultVar).toList := by kernel_rfl
theorem B22 : Try.f22.body = some (at_ Try.f22 []) := by kernel_rfl
noncomputable def R22 : RC := (.seq (.reg [⟨(some 2), none, (.box 26 (.tmp 0))⟩, ⟨(some 4), none, (.mov (.const (.int .i64 0)))⟩, ⟨(some 5), none, (.mov (.const (.int .i64 0)))⟩])
  (.seq (.reg [⟨(some 10), none, (.lda (.tmp 2) 13)⟩, ⟨(some 11), none, (.mov (.tmp 1))⟩, ⟨(some 12), none, (.call ⟨(.value (.func 46)), (List.toArray [(.tmp 10), (.tmp 11)]), (List.toArray [26, 3])⟩ true)⟩, ⟨(some 9), none, (.mov (.tmp 12))⟩, ⟨(some 13), none, (.pur ⟨(some 13), (.extract (.tmp 9) 0), 65, "", (List.toArray []), none⟩)⟩, ⟨(some 14), none, (.pur ⟨(some 14), (.extract (.tmp 9) 1), 30, "", (List.toArray []), none⟩)⟩, ⟨(some 6), none, (.alc 65 [(.slice none 0 0), (.slice none 0 0), (.int .i64 0), (.int .i64 0), (.int .i64 0), (.int .i64 0), (.int .i64 0), (.int .i64 0), (.int .i64 0), (.int .i64 0), (.int .i64 0), (.int .i64 0), (.int .i64 0), (.int .i64 0), (.int .i64 0), (.int .u64 0)])⟩, ⟨none, none, (.sta (.tmp 6) (.tmp 13) 16)⟩, ⟨(some 7), none, (.mov (.tmp 14))⟩])
  (.seq (.seq (.reg [⟨(some 15), none, (.mov (.tmp 7))⟩, ⟨(some 16), none, (.cmp .neq (.tmp 15) (.const (.int .i64 0)))⟩])
  (.cond (.tmp 16) (.seq (.reg [⟨(some 17), none, (.mov (.tmp 7))⟩, ⟨(some 4), none, (.mov (.const (.int .i64 0)))⟩, ⟨(some 5), none, (.mov (.tmp 17))⟩])
  .ret)
  .skip))
  (.seq (.reg [⟨(some 18), none, (.lda (.tmp 6) 16)⟩, ⟨(some 19), none, (.call ⟨(.value (.func 47)), (List.toArray [(.tmp 18)]), (List.toArray [65])⟩ true)⟩, ⟨(some 8), none, (.alc 72 [(.int .i64 0), (.int .i64 0), (.int .i64 0), (.int .i64 0), (.int .i64 0), (.int .i64 0), (.int .i64 0)])⟩, ⟨none, none, (.sta (.tmp 8) (.tmp 19) 7)⟩])
  (.seq (.seq (.dreg [⟨(some 20), none, (.lda (.tmp 8) 7)⟩, ⟨(some 21), none, (.call ⟨(.value (.func 48)), (List.toArray []), (List.toArray [])⟩ false)⟩, ⟨(some 22), none, (.pur ⟨(some 22), (.binOp .eql 72 (.tmp 20) (.tmp 21) 72), 4, "", (List.toArray []), none⟩)⟩] [3, 0, 0])
  (.cond (.tmp 22) (.seq (.reg [⟨(some 4), none, (.mov (.const (.int .i64 0)))⟩, ⟨(some 5), none, (.mov (.const (.int .i64 4)))⟩])
  .ret)
  .skip))
  (.seq (.reg [⟨(some 23), none, (.addo (.tmp 8) 0)⟩, ⟨(some 24), none, (.ld (.tmp 23) 1)⟩, ⟨(some 4), none, (.mov (.tmp 24))⟩, ⟨(some 5), none, (.mov (.const (.int .i64 0)))⟩])
  .ret))))))
theorem L22 : low Try.prog Try.f22.ntmps (at_ Try.f22 []) = some R22 := by kernel_rfl
theorem N24 : Try.f24.ntmps = 29 := by kernel_rfl
theorem Z24 : Try.f24.results.toList = ((List.toArray [(.tmp 4), (.tmp 5)]) : Array ResultVar).toList := by kernel_rfl
theorem B24 : Try.f24.body = some (at_ Try.f24 []) := by kernel_rfl
noncomputable def R24 : RC := (.seq (.reg [⟨(some 2), none, (.box 26 (.tmp 0))⟩, ⟨(some 4), none, (.mov (.const (.int .i64 0)))⟩, ⟨(some 5), none, (.mov (.const (.int .i64 0)))⟩])
  (.seq (.reg [⟨(some 10), none, (.lda (.tmp 2) 13)⟩, ⟨(some 11), none, (.mov (.tmp 1))⟩, ⟨(some 12), none, (.call ⟨(.value (.func 46)), (List.toArray [(.tmp 10), (.tmp 11)]), (List.toArray [26, 3])⟩ true)⟩, ⟨(some 9), none, (.mov (.tmp 12))⟩, ⟨(some 13), none, (.pur ⟨(some 13), (.extract (.tmp 9) 0), 65, "", (List.toArray []), none⟩)⟩, ⟨(some 14), none, (.pur ⟨(some 14), (.extract (.tmp 9) 1), 30, "", (List.toArray []), none⟩)⟩, ⟨(some 6), none, (.alc 65 [(.slice none 0 0), (.slice none 0 0), (.int .i64 0), (.int .i64 0), (.int .i64 0), (.int .i64 0), (.int .i64 0), (.int .i64 0), (.int .i64 0), (.int .i64 0), (.int .i64 0), (.int .i64 0), (.int .i64 0), (.int .i64 0), (.int .i64 0), (.int .u64 0)])⟩, ⟨none, none, (.sta (.tmp 6) (.tmp 13) 16)⟩, ⟨(some 7), none, (.mov (.tmp 14))⟩])
  (.seq (.seq (.reg [⟨(some 15), none, (.mov (.tmp 7))⟩, ⟨(some 16), none, (.cmp .neq (.tmp 15) (.const (.int .i64 0)))⟩])
  (.cond (.tmp 16) (.seq (.reg [⟨(some 17), none, (.mov (.tmp 7))⟩, ⟨(some 4), none, (.mov (.const (.int .i64 0)))⟩, ⟨(some 5), none, (.mov (.tmp 17))⟩])
  .ret)
  .skip))
  (.seq (.reg [⟨(some 18), none, (.lda (.tmp 6) 16)⟩, ⟨(some 19), none, (.call ⟨(.value (.func 50)), (List.toArray [(.tmp 18)]), (List.toArray [65])⟩ true)⟩, ⟨(some 8), none, (.alc 72 [(.int .i64 0), (.int .i64 0), (.int .i64 0), (.int .i64 0), (.int .i64 0), (.int .i64 0), (.int .i64 0)])⟩, ⟨none, none, (.sta (.tmp 8) (.tmp 19) 7)⟩])
  (.seq (.seq (.dreg [⟨(some 20), none, (.lda (.tmp 8) 7)⟩, ⟨(some 21), none, (.call ⟨(.value (.func 48)), (List.toArray []), (List.toArray [])⟩ false)⟩, ⟨(some 22), none, (.pur ⟨(some 22), (.binOp .eql 72 (.tmp 20) (.tmp 21) 72), 4, "", (List.toArray []), none⟩)⟩] [3, 0, 0])
  (.cond (.tmp 22) (.seq (.reg [⟨(some 23), none, (.addo (.tmp 6) 13)⟩, ⟨(some 24), none, (.addo (.tmp 23) 1)⟩, ⟨(some 25), none, (.ld (.tmp 24) 1)⟩, ⟨(some 4), none, (.mov (.tmp 25))⟩, ⟨(some 5), none, (.mov (.const (.int .i64 0)))⟩])
  .ret)
  .skip))
  (.seq (.reg [⟨(some 26), none, (.addo (.tmp 8) 0)⟩, ⟨(some 27), none, (.ld (.tmp 26) 1)⟩, ⟨(some 28), none, (.ari .sub (.tmp 27) (.const (.int .i64 1)))⟩, ⟨(some 4), none, (.mov (.tmp 28))⟩, ⟨(some 5), none, (.mov (.const (.int .i64 0)))⟩])
  .ret))))))
theorem L24 : low Try.prog Try.f24.ntmps (at_ Try.f24 []) = some R24 := by kernel_rfl
theorem N26 : Try.f26.ntmps = 56 := by kernel_rfl
theorem Z26 : Try.f26.results.toList = ((List.toArray [(.tmp 2), (.tmp 3), (.tmp 4)]) : Array ResultVar).toList := by kernel_rfl
theorem B26 : Try.f26.body = some (at_ Try.f26 []) := by kernel_rfl
noncomputable def R26 : RC := (.seq (.reg [⟨(some 1), none, (.box 26 (.tmp 0))⟩, ⟨(some 2), none, (.mov (.const (.int .i64 0)))⟩, ⟨(some 3), none, (.mov (.const (.int .i64 0)))⟩, ⟨(some 4), none, (.mov (.const (.int .i64 0)))⟩])
  (.seq (.seq (.reg [⟨(some 10), none, (.lda (.tmp 1) 13)⟩, ⟨(some 11), none, (.call ⟨(.value (.func 51)), (List.toArray [(.tmp 10)]), (List.toArray [26])⟩ true)⟩, ⟨(some 12), none, (.pur ⟨(some 12), (.unOp .not 4 (.tmp 11)), 4, "", (List.toArray []), none⟩)⟩])
  (.cond (.tmp 12) (.seq (.reg [⟨(some 2), none, (.mov (.const (.int .i64 0)))⟩, ⟨(some 3), none, (.mov (.const (.int .i64 0)))⟩, ⟨(some 4), none, (.mov (.const (.int .i64 1)))⟩])
  .ret)
  .skip))
  (.seq (.reg [⟨(some 13), none, (.call ⟨(.value (.func 48)), (List.toArray []), (List.toArray [])⟩ true)⟩, ⟨(some 5), none, (.alc 72 [(.int .i64 0), (.int .i64 0), (.int .i64 0), (.int .i64 0), (.int .i64 0), (.int .i64 0), (.int .i64 0)])⟩, ⟨none, none, (.sta (.tmp 5) (.tmp 13) 7)⟩])
  (.seq (.seq (.reg [⟨(some 14), none, (.addo (.tmp 1) 0)⟩, ⟨(some 15), none, (.ld (.tmp 14) 1)⟩, ⟨(some 16), none, (.len (.tmp 15))⟩, ⟨(some 17), none, (.ari .add (.tmp 16) (.const (.int .i64 1)))⟩, ⟨(some 18), none, (.mov (.const (.int .i64 0)))⟩])
  (.block 0 (.other (at_ Try.f26 [1, 1, 1, 0, 1, 0]))))
  (.seq (.seq (.dreg [⟨(some 50), none, (.lda (.tmp 5) 7)⟩, ⟨(some 51), none, (.call ⟨(.value (.func 48)), (List.toArray []), (List.toArray [])⟩ false)⟩, ⟨(some 52), none, (.pur ⟨(some 52), (.binOp .eql 72 (.tmp 50) (.tmp 51) 72), 4, "", (List.toArray []), none⟩)⟩] [3, 0, 0])
  (.cond (.tmp 52) (.seq (.reg [⟨(some 2), none, (.mov (.const (.int .i64 0)))⟩, ⟨(some 3), none, (.mov (.const (.int .i64 0)))⟩, ⟨(some 4), none, (.mov (.const (.int .i64 4)))⟩])
  .ret)
  .skip))
  (.seq (.dreg [⟨(some 53), none, (.mov (.tmp 2))⟩, ⟨(some 54), none, (.addo (.tmp 5) 0)⟩, ⟨(some 55), none, (.ld (.tmp 54) 1)⟩, ⟨(some 2), none, (.mov (.tmp 53))⟩, ⟨(some 3), none, (.mov (.tmp 55))⟩, ⟨(some 4), none, (.mov (.const (.int .i64 0)))⟩] [31, 15, 1, 2, 0, 0])
  .ret))))))
theorem L26 : low Try.prog Try.f26.ntmps (at_ Try.f26 []) = some R26 := by kernel_rfl
theorem E26_1 : at_ Try.f26 [1, 1, 1, 0, 1, 0] = .loop (at_ Try.f26 [1, 1, 1, 0, 1, 0, 0]) := by kernel_rfl
noncomputable def R26x1 : RC := (.seq (.reg [⟨(some 19), none, (.cmp .lss (.tmp 18) (.tmp 17))⟩])
  (.seq (.cond (.tmp 19) .skip
  (.exit 0))
  (.seq (.block 1 (.seq (.reg [⟨(some 20), none, (.mov (.tmp 18))⟩, ⟨(some 6), none, (.mov (.tmp 20))⟩])
  (.seq (.reg [⟨(some 22), none, (.lda (.tmp 1) 13)⟩, ⟨(some 23), none, (.mov (.tmp 6))⟩, ⟨(some 24), none, (.call ⟨(.value (.func 46)), (List.toArray [(.tmp 22), (.tmp 23)]), (List.toArray [26, 3])⟩ true)⟩, ⟨(some 21), none, (.mov (.tmp 24))⟩, ⟨(some 25), none, (.pur ⟨(some 25), (.extract (.tmp 21) 0), 65, "", (List.toArray []), none⟩)⟩, ⟨(some 26), none, (.pur ⟨(some 26), (.extract (.tmp 21) 1), 30, "", (List.toArray []), none⟩)⟩, ⟨(some 7), none, (.alc 65 [(.slice none 0 0), (.slice none 0 0), (.int .i64 0), (.int .i64 0), (.int .i64 0), (.int .i64 0), (.int .i64 0), (.int .i64 0), (.int .i64 0), (.int .i64 0), (.int .i64 0), (.int .i64 0), (.int .i64 0), (.int .i64 0), (.int .i64 0), (.int .u64 0)])⟩, ⟨none, none, (.sta (.tmp 7) (.tmp 25) 16)⟩, ⟨(some 8), none, (.mov (.tmp 26))⟩])
  (.seq (.reg [⟨(some 27), none, (.lda (.tmp 7) 16)⟩, ⟨(some 28), none, (.call ⟨(.value (.func 47)), (List.toArray [(.tmp 27)]), (List.toArray [65])⟩ true)⟩, ⟨(some 9), none, (.alc 72 [(.int .i64 0), (.int .i64 0), (.int .i64 0), (.int .i64 0), (.int .i64 0), (.int .i64 0), (.int .i64 0)])⟩, ⟨none, none, (.sta (.tmp 9) (.tmp 28) 7)⟩])
  (.seq (.seq (.dreg [⟨(some 29), none, (.lda (.tmp 9) 7)⟩, ⟨(some 30), none, (.call ⟨(.value (.func 48)), (List.toArray []), (List.toArray [])⟩ false)⟩, ⟨(some 31), none, (.pur ⟨(some 31), (.binOp .eql 72 (.tmp 29) (.tmp 30) 72), 4, "", (List.toArray []), none⟩)⟩, ⟨(some 32), none, (.mov (.tmp 31))⟩, ⟨(some 33), (some (32, false)), (.lda (.tmp 7) 16)⟩, ⟨(some 34), (some (32, false)), (.lda (.tmp 9) 7)⟩, ⟨(some 35), (some (32, false)), (.call ⟨(.value (.func 52)), (List.toArray [(.tmp 33), (.tmp 34)]), (List.toArray [65, 72])⟩ true)⟩, ⟨(some 36), none, (.pur ⟨(some 36), (.pick (.tmp 32) (.const (.bool true)) (.tmp 35)), 4, "", (List.toArray []), none⟩)⟩] [127, 63, 15, 15, 7, 3, 0, 0])
  (.cond (.tmp 36) (.exit 1)
  .skip))
  (.seq (.dreg [⟨(some 37), none, (.lda (.tmp 5) 7)⟩, ⟨(some 38), none, (.call ⟨(.value (.func 48)), (List.toArray []), (List.toArray [])⟩ false)⟩, ⟨(some 39), none, (.pur ⟨(some 39), (.binOp .eql 72 (.tmp 37) (.tmp 38) 72), 4, "", (List.toArray []), none⟩)⟩, ⟨(some 40), none, (.mov (.tmp 39))⟩, ⟨(some 41), (some (40, false)), (.addo (.tmp 9) 0)⟩, ⟨(some 42), (some (40, false)), (.ld (.tmp 41) 1)⟩, ⟨(some 43), (some (40, false)), (.addo (.tmp 5) 0)⟩, ⟨(some 44), (some (40, false)), (.ld (.tmp 43) 1)⟩, ⟨(some 45), (some (40, false)), (.cmpb .lss (.tmp 42) (.tmp 44))⟩, ⟨(some 46), none, (.pur ⟨(some 46), (.pick (.tmp 40) (.const (.bool true)) (.tmp 45)), 4, "", (List.toArray []), none⟩)⟩] [511, 255, 79, 15, 31, 15, 7, 3, 0, 0])
  (.cond (.tmp 46) (.dreg [⟨(some 47), none, (.mov (.tmp 6))⟩, ⟨(some 48), none, (.lda (.tmp 9) 7)⟩, ⟨(some 2), none, (.mov (.tmp 47))⟩, ⟨none, none, (.sta (.tmp 5) (.tmp 48) 7)⟩] [7, 1, 0, 0])
  .skip)))))))
  (.reg [⟨(some 49), none, (.ari .add (.tmp 18) (.const (.int .i64 1)))⟩, ⟨(some 18), none, (.mov (.tmp 49))⟩]))))
theorem L26x1 : low Try.prog Try.f26.ntmps (at_ Try.f26 [1, 1, 1, 0, 1, 0, 0]) = some R26x1 := by kernel_rfl
end Go.Ax

/-
  Late: the longest course; Drowned, Bears (46, 22, 24) (written by program).
-/
namespace Go.Ax
open Go Go.RowKit Go.Proofs

noncomputable def R46v : RC := (.seq (.reg [⟨(some 2), none, (.box 26 (.tmp 0))⟩, ⟨(some 4), none, (.alc 65 [(.slice none 0 0), (.slice none 0 0), (.int .i64 0), (.int .i64 0), (.int .i64 0), (.int .i64 0), (.int .i64 0), (.int .i64 0), (.int .i64 0), (.int .i64 0), (.int .i64 0), (.int .i64 0), (.int .i64 0), (.int .i64 0), (.int .i64 0), (.int .u64 0)])⟩, ⟨(some 5), none, (.mov (.const (.int .i64 0)))⟩])
  (.seq (.other (at_ Try.f46 [1, 0]))
  .ret))
theorem V46 : LV Try.prog 16 (at_ Try.f46 []) R46v := by
  have e : (at_ Try.f46 []) = (.seq (at_ Try.f46 [0]) (.seq (at_ Try.f46 [1, 0]) (at_ Try.f46 [1, 1]))) := by kernel_rfl
  rw [e]
  exact (.seq (.low (by kernel_rfl)) (.seq (.other _) (.low (by kernel_rfl))))
theorem D46p : at_ Try.f46 [1, 0] = .region 1 (opsOf (at_ Try.f46 [1, 0])) false := by kernel_rfl
noncomputable def R46p : List RO := [⟨(some 6), none, (.lda (.tmp 2) 13)⟩, ⟨(some 7), none, (.mov (.tmp 1))⟩, ⟨(some 8), none, (.addo (.tmp 2) 0)⟩, ⟨(some 9), none, (.ld (.tmp 8) 1)⟩, ⟨(some 10), none, (.len (.tmp 9))⟩, ⟨(some 11), none, (.mov (.tmp 1))⟩, ⟨(some 12), none, (.pur ⟨(some 12), (.binOp .sub 3 (.tmp 10) (.tmp 11) 3), 3, "", (List.toArray []), none⟩)⟩, ⟨(some 13), none, (.call ⟨(.value (.func 38)), (List.toArray [(.tmp 6), (.tmp 7), (.tmp 12), (.const (.slice none 0 0))]), (List.toArray [26, 3, 3, 27])⟩ true)⟩, ⟨(some 14), none, (.pur ⟨(some 14), (.extract (.tmp 13) 0), 65, "", (List.toArray []), none⟩)⟩, ⟨(some 15), none, (.pur ⟨(some 15), (.extract (.tmp 13) 1), 30, "", (List.toArray []), none⟩)⟩, ⟨none, none, (.sta (.tmp 4) (.tmp 14) 16)⟩, ⟨(some 5), none, (.mov (.tmp 15))⟩]
theorem P46p : lowROsV Try.prog 16 (opsOf (at_ Try.f46 [1, 0])).toList [6] (opsOf (at_ Try.f46 [1, 0])).toList 0 = some R46p := by kernel_rfl
theorem pure_sub {n : Nat} {S : Rg} {d : Option Tmp} {x y : Operand} {p : String} {a b : Int} (hx : evS S x = some (iv a)) (hy : evS S y = some (iv b)) : pureOp Try.prog (frS n S) ⟨d, .binOp .sub 3 x y 3, 3, p, #[], none⟩ = some (iv (IntKind.i64.wrap (a - b))) := by
  unfold pureOp; simp only [ev_frS, hx, hy]; rfl
theorem prun_und72 : prun Try.prog (underlying 72) = some (.struct #[⟨"days", 3, 0, false, "", "fenberry/late", 0⟩, ⟨"warmth", 24, 1, false, "", "fenberry/late", 8⟩, ⟨"least", 69, 3, false, "", "fenberry/late", 24⟩, ⟨"most", 70, 5, false, "", "fenberry/late", 40⟩]) := by kernel_rfl
theorem st72 : Try.prog.stoodInHeld 72 = false := by kernel_rfl
/-- a state, whether it is the one that a search returns that finds nothing -/
theorem prun_eq72 (d : Nat) {a : Int} {v1 v2 v3 v4 v5 v6 : Value} (h : a ≠ -1) : prun Try.prog (Op.equalIn (d + 2) 72 (.agg #[iv a, v1, v2, v3, v4, v5, v6]) (.agg noneS.toArray)) = some false := by
  rw [Op.equalIn]
  rw [prun_bind, prun_und72]
  simp only []
  rw [prun_bind]
  rw [show prun Try.prog program = some Try.prog from rfl]
  simp only [st72]
  simp only [Bool.false_eq_true, if_false, ↓reduceIte]
  rw [← Array.forIn_toList]
  simp only [List.forIn_cons, List.forIn_nil]
  rw [if_pos (by decide)]
  have e0 : prun Try.prog (part 3 #[iv a, v1, v2, v3, v4, v5, v6] 0) = some (iv a) := by kernel_rfl
  have e1 : prun Try.prog (part 3 noneS.toArray 0) = some (iv (-1)) := by kernel_rfl
  have e2 : (a == -1) = false := by simpa using h
  simp only [prun_bind, e0, e1, prun_eqi, e2, Bool.not_false, ↓reduceIte, prun_pure]
theorem pure_eq72 {n : Nat} {S : Rg} {d : Option Tmp} {x y : Operand} {p : String} {a : Int} {v1 v2 v3 v4 v5 v6 : Value} (hx : evS S x = some (.agg #[iv a, v1, v2, v3, v4, v5, v6])) (hy : evS S y = some (.agg noneS.toArray)) (hv : flat (.agg #[iv a, v1, v2, v3, v4, v5, v6]) = true) (h : a ≠ -1) :
    pureOp Try.prog (frS n S) ⟨d, .binOp .eql 72 x y 72, 4, p, #[], none⟩ = some (.bool false) := by
  have key : prun Try.prog (do eqGuard .eql 72 x y (.agg #[iv a, v1, v2, v3, v4, v5, v6]) (.agg noneS.toArray); binOp .eql 72 (.agg #[iv a, v1, v2, v3, v4, v5, v6]) (.agg noneS.toArray)) = some (.bool false) := by
    rw [prun_bind]
    have hg : prun Try.prog (eqGuard .eql 72 x y (.agg #[iv a, v1, v2, v3, v4, v5, v6]) (.agg noneS.toArray)) = some () := by kernel_rfl
    rw [hg]
    clear hg
    have hb : binOp .eql 72 (.agg #[iv a, v1, v2, v3, v4, v5, v6]) (.agg noneS.toArray) = (Op.equal 72 (.agg #[iv a, v1, v2, v3, v4, v5, v6]) (.agg noneS.toArray) >>= fun r => pure (.bool r)) := by kernel_rfl
    simp only [hb]
    rw [prun_bind]
    have heq : Op.equal 72 (.agg #[iv a, v1, v2, v3, v4, v5, v6]) (.agg noneS.toArray) = Op.equalIn (9998 + 2) 72 (.agg #[iv a, v1, v2, v3, v4, v5, v6]) (.agg noneS.toArray) := congrArg (fun n => Op.equalIn n 72 (.agg #[iv a, v1, v2, v3, v4, v5, v6]) (.agg noneS.toArray)) md
    rw [heq, prun_eq72 _ h]
    rfl
  unfold pureOp
  simp only [ev_frS, hx, hy]
  rw [show (flat (.agg #[iv a, v1, v2, v3, v4, v5, v6]) && flat (.agg noneS.toArray)) = true by rw [hv]; rfl, cond_true, key]
  rfl
theorem pure_eq72n {n : Nat} {S : Rg} {d : Option Tmp} {x y : Operand} {p : String} (hx : evS S x = some (.agg noneS.toArray)) (hy : evS S y = some (.agg noneS.toArray)) :
    pureOp Try.prog (frS n S) ⟨d, .binOp .eql 72 x y 72, 4, p, #[], none⟩ = some (.bool true) := by
  unfold pureOp
  simp only [ev_frS, hx, hy]
  kernel_rfl
theorem res_lc {S : Rg} {H : Hp} {x : Nat} {cs : List Value} {v : Value} (ha : lk S 4 = some (.pointer (some ⟨x, 0, none⟩))) (hb : lk S 5 = some v) (hl : cs.length = 16) (h : Cl H x cs) : resS Try.prog S H [.cell 4 65, .tmp 5] = some [.agg cs.toArray, v] := by
  simp only [resS, ha, hb, load_agg a65 i65s h.rd hl]
/-- what longestCourse answers -/
def Lt.Lc (g : Lt) (a : Int) (w : Value) : Prop :=
  (g.ok = false ∧ w = .tuple #[.agg zeroC.toArray, iv 1]) ∨ (g.ok = true ∧ inB a 0 g.wn = false ∧ w = .tuple #[.agg zeroC.toArray, iv 2]) ∨
  (g.ok = true ∧ ∃ s d : Nat, a = s ∧ s + d = g.wn ∧ w = .tuple #[.agg (crs g s d 0).toArray, iv 0])
theorem Lt.Nc.lc {g : Lt} {a : Int} (hwn : g.wn ≤ 1000) {w : Value} (h : g.Nc a (IntKind.i64.wrap (g.wn - a)) [] w) : g.Lc a w := by
  rcases h with ⟨h1, rfl⟩ | ⟨h1, h2, rfl⟩ | ⟨h1, s, d, rfl, e, h3, _, rfl⟩
  · exact .inl ⟨h1, rfl⟩
  · refine .inr (.inl ⟨h1, ?_, rfl⟩)
    cases hb : inB a 0 g.wn with
    | false => rfl
    | true =>
      have hx := hb
      simp only [inB, Bool.and_eq_true, decide_eq_true_eq] at hx
      rw [wrap_i64 ⟨by omega, by omega⟩] at h2
      simp only [flB, hb, setB, Bool.and_true, Bool.true_and, inB, Bool.and_eq_false_iff, decide_eq_false_iff_not] at h2
      omega
  · have h4 : (s : Int) ≤ g.wn := by omega
    rw [wrap_i64 ⟨by omega, by omega⟩] at e
    exact .inr (.inr ⟨h1, s, d, rfl, by omega, rfl⟩)
/-- what Drowned answers -/
def Lt.Dr (g : Lt) (a : Int) (w : Value) : Prop :=
  (g.ok = false ∧ w = .tuple #[iv 0, iv 1]) ∨ (g.ok = true ∧ inB a 0 g.wn = false ∧ w = .tuple #[iv 0, iv 2]) ∨
  (g.ok = true ∧ ∃ s d : Nat, a = s ∧ s + d = g.wn ∧ ((∃ k, k ≤ d ∧ g.kill ≤ g.wl s k ∧ (∀ j, j < k → g.wl s j < g.kill) ∧ w = .tuple #[iv (k : Int), iv 0]) ∨ ((∀ j, j ≤ d → g.wl s j < g.kill) ∧ w = .tuple #[iv 0, iv 4])))
/-- what Bears answers -/
def Lt.Br (g : Lt) (a : Int) (w : Value) : Prop :=
  (g.ok = false ∧ w = .tuple #[iv 0, iv 1]) ∨ (g.ok = true ∧ inB a 0 g.wn = false ∧ w = .tuple #[iv 0, iv 2]) ∨
  (g.ok = true ∧ ∃ s d m : Nat, a = s ∧ s + d = g.wn ∧ m ≤ d ∧ (∀ j, j ≤ m → g.sl s (Nat.testBit 0) j ≤ g.bear) ∧ (m = d ∨ g.bear < g.sl s (Nat.testBit 0) (m + 1)) ∧ w = .tuple #[iv (m : Int), iv 0])
section
variable {kn : FuncId → Option Bool} {lo : Nat} {H : Hp}
theorem longest_ok {g : Lt} {a : Int} (hw : Sl H g.wa g.wn g.wcap (spc g.ws)) (ha : Sl H g.aa g.an g.acap (spc g.as)) (hwl : g.ws.length = g.wn) (hal : g.as.length = g.an) (hwn : g.wn ≤ 1000) (han : g.an ≤ 1000) (hlo : lo ≤ H.next) :
    ∃ w H', FnX Try.prog kn lo 46 [.agg g.v.toArray, iv a] H w H' ∧ Keep H H' [] ∧ g.Lc a w := by
  refine fnX_lv (P := Try.prog) (kn := kn) (lo := lo) (H := H) (args := [.agg g.v.toArray, iv a]) (Q := fun w H' => Keep H H' [] ∧ g.Lc a w) Try.func46 B46 N46 Z46 V46 (by simp) ?_
  intro H1 hH1; obtain ⟨k1, n1, c1⟩ := new_facts hH1; clear hH1
  have c1 : Cl H1 H.next g.v := c1
  intro H2 hH2; obtain ⟨k2, n2, c2⟩ := new_facts hH2; clear hH2
  have c2 : Cl H2 H1.next zeroC := c2
  have k02 := k1.trans k2
  have d1 := k2.cl c1 (by simp)
  refine tri_regV D46p P46p ?_
  refine Exists.intro _ (Exists.intro _ (And.intro d1.of (And.intro (show row 13 g.v 0 = some g.v from rfl) ?_)))
  refine Exists.intro _ (Exists.intro _ (And.intro d1.of (And.intro (show _ = some (.slice g.wa g.wn g.wcap) from rfl) ?_)))
  refine And.intro rfl (Exists.intro (iv (IntKind.i64.wrap (g.wn - a))) (And.intro (pure_sub rfl rfl) ?_))
  obtain ⟨w, H3, f3, k3, hc⟩ := course_ok (kn := kn) (lo := lo) (H := H2) (g := g) (a := a) (b := IntKind.i64.wrap (g.wn - a)) (us := []) (k02.sl0 hw) (k02.sl0 ha) hwl hal hwn han (la := none) (n := 0) (cap := 0) (.inl ⟨.inl rfl, rfl, rfl, rfl⟩) rfl (by decide) (by omega)
  refine Exists.intro _ (Exists.intro _ (And.intro (callX_args f3) ?_))
  have d2 := k3.cl c2 (by simp)
  have m3 := k3.1
  have hl := hc.lc hwn
  obtain ⟨cs, e, hcl, hone, rfl⟩ : ∃ (cs : List Value) (e : Int), cs.length = 16 ∧ cs.all one = true ∧ w = .tuple #[.agg cs.toArray, iv e] := by
    rcases hc with ⟨_, rfl⟩ | ⟨_, _, rfl⟩ | ⟨_, s, d, _, _, _, _, rfl⟩
    · exact ⟨_, _, rfl, rfl, rfl⟩
    · exact ⟨_, _, rfl, rfl, rfl⟩
    · exact ⟨_, _, rfl, rfl, rfl⟩
  refine And.intro rfl (Exists.intro (.agg cs.toArray) (And.intro (by kernel_rfl) ?_))
  refine And.intro rfl (Exists.intro (iv e) (And.intro (by kernel_rfl) ?_))
  obtain ⟨_, e4, l4, g4⟩ := id d2
  refine Exists.intro _ (Exists.intro _ (Exists.intro _ (And.intro g4 (And.intro (by omega) (And.intro hcl (And.intro hone (And.intro (by simp) ?_)))))))
  intro H4 hH4; obtain ⟨k4, n4, c4⟩ := up_facts d2 hH4; clear hH4
  have c4 : Cl H4 H1.next cs := by
    have e := putRow_all zeroC cs [] (by rw [hcl]; rfl)
    simp only [List.nil_append, List.length_nil] at e
    rw [← e]; exact c4
  have kk := (k02.trans k3).new k4 (fun x hx => .inr (by simp at hx; omega))
  exact And.intro trivial (Exists.intro _ (And.intro (res_lc rfl rfl hcl c4) ⟨kk, hl⟩))
theorem drowned22_ok (h48 : kn 48 = none) {g : Lt} {a : Int} (hw : Sl H g.wa g.wn g.wcap (spc g.ws)) (ha : Sl H g.aa g.an g.acap (spc g.as)) (hwl : g.ws.length = g.wn) (hal : g.as.length = g.an) (hwn : g.wn ≤ 1000) (han : g.an ≤ 1000) (hlo : lo ≤ H.next) :
    ∃ w H', FnX Try.prog kn lo 22 [.agg g.v.toArray, iv a] H w H' ∧ Keep H H' [] ∧ g.Dr a w := by
  refine fnX_low (kn := kn) (lo := lo) (H := H) (args := [.agg g.v.toArray, iv a]) (Q := fun w H' => Keep H H' [] ∧ g.Dr a w) Try.func22 B22 N22 Z22 L22 (by simp) ?_
  have hk := Keep.refl H []
  have fw := hw.old; have fa := ha.old
  intro H1 hH1; obtain ⟨kH1, nH1, c1⟩ := new_facts hH1; clear hH1
  have mH1 := kH1.1
  have hk := hk.trans kH1
  have hw := kH1.sl0 hw
  have ha := kH1.sl0 ha
  have c1 : Cl H1 H.next [.slice g.wa g.wn g.wcap, .slice g.aa g.an g.acap, iv g.r1, iv g.r2, iv g.f1, iv g.f2, iv g.g1, iv g.g2, iv g.full, iv g.base, iv g.kill, iv g.need, iv g.bear] := c1
  refine Exists.intro _ (Exists.intro _ (And.intro c1.of (And.intro (show row 13 _ _ = some [.slice g.wa g.wn g.wcap, .slice g.aa g.an g.acap, iv g.r1, iv g.r2, iv g.f1, iv g.f2, iv g.g1, iv g.g2, iv g.full, iv g.base, iv g.kill, iv g.need, iv g.bear] from rfl) ?_)))
  obtain ⟨wH2, H2, fH2, kH2, hc⟩ := longest_ok (kn := kn) (lo := lo) (H := H1) (g := g) (a := a) hw ha hwl hal hwn han (by omega)
  have mH2 := kH2.1
  have hk := hk.trans kH2
  have hw := kH2.sl0 hw
  have ha := kH2.sl0 ha
  have c1 := kH2.cl c1 (by simp)
  rcases hc with ⟨hok, rfl⟩ | ⟨hok, hin, rfl⟩ | ⟨hok, s, d, rfl, hsd, rfl⟩
  · refine Exists.intro _ (Exists.intro _ (And.intro (callX_args fH2) ?_))
    refine And.intro rfl (Exists.intro (.agg zeroC.toArray) (And.intro (by kernel_rfl) ?_))
    refine And.intro rfl (Exists.intro (iv 1) (And.intro (by kernel_rfl) ?_))
    intro H3 hH3; obtain ⟨kH3, nH3, c3⟩ := new_facts hH3; clear hH3
    have c3 : Cl H3 H2.next [.slice none 0 0, .slice none 0 0, iv 0, iv 0, iv 0, iv 0, iv 0, iv 0, iv 0, iv 0, iv 0, iv 0, iv 0, iv 0, iv 0, .int .u64 0] := c3
    have mH3 := kH3.1
    have hk := hk.trans kH3
    have hw := kH3.sl0 hw
    have ha := kH3.sl0 ha
    have c1 := kH3.cl c1 (by simp)
    obtain ⟨_, eH4, lH4, gH4⟩ := id c3
    refine Exists.intro _ (Exists.intro _ (Exists.intro _ (And.intro gH4 (And.intro (by omega) (And.intro rfl (And.intro rfl (And.intro (by simp) ?_)))))))
    intro H4 hH4; obtain ⟨kH4, nH4, sH4⟩ := up_facts c3 hH4; clear hH4
    have mH4 := kH4.1
    have hk := hk.new kH4 (fun b hb => by simp at hb ⊢; omega)
    have hw := kH4.sl hw (fun b e => by have := fw b e; first | (simp; done) | (simp; omega))
    have ha := kH4.sl ha (fun b e => by have := fa b e; first | (simp; done) | (simp; omega))
    have c1 := kH4.cl c1 (by first | (simp; done) | (simp; omega))
    have c3 : Cl H4 H2.next [.slice none 0 0, .slice none 0 0, iv 0, iv 0, iv 0, iv 0, iv 0, iv 0, iv 0, iv 0, iv 0, iv 0, iv 0, iv 0, iv 0, .int .u64 0] := sH4
    refine condT ?_
    exact And.intro trivial (Exists.intro _ (And.intro rfl ⟨hk, Or.inl ⟨hok, rfl⟩⟩))
  · refine Exists.intro _ (Exists.intro _ (And.intro (callX_args fH2) ?_))
    refine And.intro rfl (Exists.intro (.agg zeroC.toArray) (And.intro (by kernel_rfl) ?_))
    refine And.intro rfl (Exists.intro (iv 2) (And.intro (by kernel_rfl) ?_))
    intro H5 hH5; obtain ⟨kH5, nH5, c5⟩ := new_facts hH5; clear hH5
    have c5 : Cl H5 H2.next [.slice none 0 0, .slice none 0 0, iv 0, iv 0, iv 0, iv 0, iv 0, iv 0, iv 0, iv 0, iv 0, iv 0, iv 0, iv 0, iv 0, .int .u64 0] := c5
    have mH5 := kH5.1
    have hk := hk.trans kH5
    have hw := kH5.sl0 hw
    have ha := kH5.sl0 ha
    have c1 := kH5.cl c1 (by simp)
    obtain ⟨_, eH6, lH6, gH6⟩ := id c5
    refine Exists.intro _ (Exists.intro _ (Exists.intro _ (And.intro gH6 (And.intro (by omega) (And.intro rfl (And.intro rfl (And.intro (by simp) ?_)))))))
    intro H6 hH6; obtain ⟨kH6, nH6, sH6⟩ := up_facts c5 hH6; clear hH6
    have mH6 := kH6.1
    have hk := hk.new kH6 (fun b hb => by simp at hb ⊢; omega)
    have hw := kH6.sl hw (fun b e => by have := fw b e; first | (simp; done) | (simp; omega))
    have ha := kH6.sl ha (fun b e => by have := fa b e; first | (simp; done) | (simp; omega))
    have c1 := kH6.cl c1 (by first | (simp; done) | (simp; omega))
    have c5 : Cl H6 H2.next [.slice none 0 0, .slice none 0 0, iv 0, iv 0, iv 0, iv 0, iv 0, iv 0, iv 0, iv 0, iv 0, iv 0, iv 0, iv 0, iv 0, .int .u64 0] := sH6
    refine condT ?_
    exact And.intro trivial (Exists.intro _ (And.intro rfl ⟨hk, Or.inr (Or.inl ⟨hok, hin, rfl⟩)⟩))
  · have v := Lt.vd hok hwl hal
    have hn40 := v.n40
    refine Exists.intro _ (Exists.intro _ (And.intro (callX_args fH2) ?_))
    refine And.intro rfl (Exists.intro (.agg (crs g s d 0).toArray) (And.intro (by kernel_rfl) ?_))
    refine And.intro rfl (Exists.intro (iv 0) (And.intro (by kernel_rfl) ?_))
    intro H7 hH7; obtain ⟨kH7, nH7, c7⟩ := new_facts hH7; clear hH7
    have c7 : Cl H7 H2.next [.slice none 0 0, .slice none 0 0, iv 0, iv 0, iv 0, iv 0, iv 0, iv 0, iv 0, iv 0, iv 0, iv 0, iv 0, iv 0, iv 0, .int .u64 0] := c7
    have mH7 := kH7.1
    have hk := hk.trans kH7
    have hw := kH7.sl0 hw
    have ha := kH7.sl0 ha
    have c1 := kH7.cl c1 (by simp)
    obtain ⟨_, eH8, lH8, gH8⟩ := id c7
    refine Exists.intro _ (Exists.intro _ (Exists.intro _ (And.intro gH8 (And.intro (by omega) (And.intro rfl (And.intro rfl (And.intro (by simp) ?_)))))))
    intro H8 hH8; obtain ⟨kH8, nH8, sH8⟩ := up_facts c7 hH8; clear hH8
    have mH8 := kH8.1
    have hk := hk.new kH8 (fun b hb => by simp at hb ⊢; omega)
    have hw := kH8.sl hw (fun b e => by have := fw b e; first | (simp; done) | (simp; omega))
    have ha := kH8.sl ha (fun b e => by have := fa b e; first | (simp; done) | (simp; omega))
    have c1 := kH8.cl c1 (by first | (simp; done) | (simp; omega))
    have c7 : Cl H8 H2.next [.slice g.wa g.wn g.wcap, .slice g.aa g.an g.acap, iv g.r1, iv g.r2, iv g.f1, iv g.f2, iv g.g1, iv g.g2, iv g.full, iv g.base, iv g.kill, iv g.need, iv g.bear, iv (s : Int), iv (d : Int), .int .u64 (0 : Int)] := sH8
    refine condF ?_
    refine Exists.intro _ (Exists.intro _ (And.intro c7.of (And.intro (show row 16 _ _ = some [.slice g.wa g.wn g.wcap, .slice g.aa g.an g.acap, iv g.r1, iv g.r2, iv g.f1, iv g.f2, iv g.g1, iv g.g2, iv g.full, iv g.base, iv g.kill, iv g.need, iv g.bear, iv (s : Int), iv (d : Int), .int .u64 (0 : Int)] from rfl) ?_)))
    obtain ⟨wH9, H9, fH9, kH9, hres⟩ := drowned_ok (kn := kn) (lo := lo) (H := H8) (m := 0) h48 v (show s + d ≤ g.wn by omega) hw ha (by omega)
    have mH9 := kH9.1
    have hk := hk.trans kH9
    have hw := kH9.sl0 hw
    have ha := kH9.sl0 ha
    have c1 := kH9.cl c1 (by simp)
    have c7 := kH9.cl c7 (by simp)
    rcases hres with ⟨k, hk1, hk2, hk3, rfl⟩ | ⟨hall, rfl⟩
    · refine Exists.intro _ (Exists.intro _ (And.intro (callX_args fH9) ?_))
      intro H10 hH10; obtain ⟨kH10, nH10, c10⟩ := new_facts hH10; clear hH10
      have c10 : Cl H10 H9.next [iv 0, iv 0, iv 0, iv 0, iv 0, iv 0, iv 0] := c10
      have mH10 := kH10.1
      have hk := hk.trans kH10
      have hw := kH10.sl0 hw
      have ha := kH10.sl0 ha
      have c1 := kH10.cl c1 (by simp)
      have c7 := kH10.cl c7 (by simp)
      obtain ⟨_, eH11, lH11, gH11⟩ := id c10
      refine Exists.intro _ (Exists.intro _ (Exists.intro _ (And.intro gH11 (And.intro (by omega) (And.intro rfl (And.intro rfl (And.intro (by simp) ?_)))))))
      intro H11 hH11; obtain ⟨kH11, nH11, sH11⟩ := up_facts c10 hH11; clear hH11
      have mH11 := kH11.1
      have hk := hk.new kH11 (fun b hb => by simp at hb ⊢; omega)
      have hw := kH11.sl hw (fun b e => by have := fw b e; first | (simp; done) | (simp; omega))
      have ha := kH11.sl ha (fun b e => by have := fa b e; first | (simp; done) | (simp; omega))
      have c1 := kH11.cl c1 (by first | (simp; done) | (simp; omega))
      have c7 := kH11.cl c7 (by first | (simp; done) | (simp; omega))
      have c10 : Cl H11 H9.next [iv (k : Int), iv (g.wl s k), iv (g.wh s k), iv (g.lo s (Nat.testBit 0) k), iv (g.sl s (Nat.testBit 0) k), iv (g.hi s (Nat.testBit 0) k), iv (g.sm s (Nat.testBit 0) k)] := sH11
      refine wD_seq ?_
      refine wD_lda (b := H9.next) (o := 0) rfl c10.rd (show row 7 _ _ = some [iv (k : Int), iv (g.wl s k), iv (g.wh s k), iv (g.lo s (Nat.testBit 0) k), iv (g.sl s (Nat.testBit 0) k), iv (g.hi s (Nat.testBit 0) k), iv (g.sm s (Nat.testBit 0) k)] from rfl) ?_
      obtain ⟨H12, fH12, kH12⟩ := none48_ok (kn := kn) (lo := H11.next) (H := H11) (Nat.le_refl _)
      refine wD_callh (vs := []) rfl (by kernel_rfl) (callX_func (by simp [kcall, h48]) (by simpa using fH12)) ?_
      have mH12 := kH12.1
      have hk := hk.trans kH12
      have hw := kH12.sl0 hw
      have ha := kH12.sl0 ha
      have c1 := kH12.cl c1 (by simp)
      have c7 := kH12.cl c7 (by simp)
      have c10 := kH12.cl c10 (by simp)
      refine wD_pur (v := .bool false) rfl (pure_eq72 rfl rfl rfl (by omega)) ?_
      refine wD_end (by repeat' first | exact True.intro | exact (fun h => h) | refine And.intro ?_ ?_ | (intro h; have h : (_ : Nat) = _ := h; omega)) ?_
      refine condF ?_
      refine Exists.intro _ (Exists.intro _ (And.intro c10.of (And.intro (show _ = some (iv (k : Int)) from rfl) ?_)))
      exact And.intro trivial (Exists.intro _ (And.intro rfl ⟨hk, Or.inr (Or.inr ⟨hok, s, d, rfl, hsd, Or.inl ⟨k, hk1, by have := of_decide_eq_false hk2; omega, fun j hj => of_decide_eq_true (hk3 j hj), rfl⟩⟩)⟩))
    · refine Exists.intro _ (Exists.intro _ (And.intro (callX_args fH9) ?_))
      intro H13 hH13; obtain ⟨kH13, nH13, c13⟩ := new_facts hH13; clear hH13
      have c13 : Cl H13 H9.next [iv 0, iv 0, iv 0, iv 0, iv 0, iv 0, iv 0] := c13
      have mH13 := kH13.1
      have hk := hk.trans kH13
      have hw := kH13.sl0 hw
      have ha := kH13.sl0 ha
      have c1 := kH13.cl c1 (by simp)
      have c7 := kH13.cl c7 (by simp)
      obtain ⟨_, eH14, lH14, gH14⟩ := id c13
      refine Exists.intro _ (Exists.intro _ (Exists.intro _ (And.intro gH14 (And.intro (by omega) (And.intro rfl (And.intro rfl (And.intro (by simp) ?_)))))))
      intro H14 hH14; obtain ⟨kH14, nH14, sH14⟩ := up_facts c13 hH14; clear hH14
      have mH14 := kH14.1
      have hk := hk.new kH14 (fun b hb => by simp at hb ⊢; omega)
      have hw := kH14.sl hw (fun b e => by have := fw b e; first | (simp; done) | (simp; omega))
      have ha := kH14.sl ha (fun b e => by have := fa b e; first | (simp; done) | (simp; omega))
      have c1 := kH14.cl c1 (by first | (simp; done) | (simp; omega))
      have c7 := kH14.cl c7 (by first | (simp; done) | (simp; omega))
      have c13 : Cl H14 H9.next [iv (-1), iv 0, iv 0, iv 0, iv 0, iv 0, iv 0] := sH14
      refine wD_seq ?_
      refine wD_lda (b := H9.next) (o := 0) rfl c13.rd (show row 7 _ _ = some [iv (-1), iv 0, iv 0, iv 0, iv 0, iv 0, iv 0] from rfl) ?_
      obtain ⟨H15, fH15, kH15⟩ := none48_ok (kn := kn) (lo := H14.next) (H := H14) (Nat.le_refl _)
      refine wD_callh (vs := []) rfl (by kernel_rfl) (callX_func (by simp [kcall, h48]) (by simpa using fH15)) ?_
      have mH15 := kH15.1
      have hk := hk.trans kH15
      have hw := kH15.sl0 hw
      have ha := kH15.sl0 ha
      have c1 := kH15.cl c1 (by simp)
      have c7 := kH15.cl c7 (by simp)
      have c13 := kH15.cl c13 (by simp)
      refine wD_pur (v := .bool true) rfl (pure_eq72n rfl rfl) ?_
      refine wD_end (by repeat' first | exact True.intro | exact (fun h => h) | refine And.intro ?_ ?_ | (intro h; have h : (_ : Nat) = _ := h; omega)) ?_
      refine condT ?_
      exact And.intro trivial (Exists.intro _ (And.intro rfl ⟨hk, Or.inr (Or.inr ⟨hok, s, d, rfl, hsd, Or.inr ⟨fun j hj => of_decide_eq_true (hall j hj), rfl⟩⟩)⟩))
theorem bears_ok (h48 : kn 48 = none) {g : Lt} {a : Int} (hw : Sl H g.wa g.wn g.wcap (spc g.ws)) (ha : Sl H g.aa g.an g.acap (spc g.as)) (hwl : g.ws.length = g.wn) (hal : g.as.length = g.an) (hwn : g.wn ≤ 1000) (han : g.an ≤ 1000) (hlo : lo ≤ H.next) :
    ∃ w H', FnX Try.prog kn lo 24 [.agg g.v.toArray, iv a] H w H' ∧ Keep H H' [] ∧ g.Br a w := by
  refine fnX_low (kn := kn) (lo := lo) (H := H) (args := [.agg g.v.toArray, iv a]) (Q := fun w H' => Keep H H' [] ∧ g.Br a w) Try.func24 B24 N24 Z24 L24 (by simp) ?_
  have hk := Keep.refl H []
  have fw := hw.old; have fa := ha.old
  intro H1 hH1; obtain ⟨kH1, nH1, c1⟩ := new_facts hH1; clear hH1
  have mH1 := kH1.1
  have hk := hk.trans kH1
  have hw := kH1.sl0 hw
  have ha := kH1.sl0 ha
  have c1 : Cl H1 H.next [.slice g.wa g.wn g.wcap, .slice g.aa g.an g.acap, iv g.r1, iv g.r2, iv g.f1, iv g.f2, iv g.g1, iv g.g2, iv g.full, iv g.base, iv g.kill, iv g.need, iv g.bear] := c1
  refine Exists.intro _ (Exists.intro _ (And.intro c1.of (And.intro (show row 13 _ _ = some [.slice g.wa g.wn g.wcap, .slice g.aa g.an g.acap, iv g.r1, iv g.r2, iv g.f1, iv g.f2, iv g.g1, iv g.g2, iv g.full, iv g.base, iv g.kill, iv g.need, iv g.bear] from rfl) ?_)))
  obtain ⟨wH2, H2, fH2, kH2, hc⟩ := longest_ok (kn := kn) (lo := lo) (H := H1) (g := g) (a := a) hw ha hwl hal hwn han (by omega)
  have mH2 := kH2.1
  have hk := hk.trans kH2
  have hw := kH2.sl0 hw
  have ha := kH2.sl0 ha
  have c1 := kH2.cl c1 (by simp)
  rcases hc with ⟨hok, rfl⟩ | ⟨hok, hin, rfl⟩ | ⟨hok, s, d, rfl, hsd, rfl⟩
  · refine Exists.intro _ (Exists.intro _ (And.intro (callX_args fH2) ?_))
    refine And.intro rfl (Exists.intro (.agg zeroC.toArray) (And.intro (by kernel_rfl) ?_))
    refine And.intro rfl (Exists.intro (iv 1) (And.intro (by kernel_rfl) ?_))
    intro H3 hH3; obtain ⟨kH3, nH3, c3⟩ := new_facts hH3; clear hH3
    have c3 : Cl H3 H2.next [.slice none 0 0, .slice none 0 0, iv 0, iv 0, iv 0, iv 0, iv 0, iv 0, iv 0, iv 0, iv 0, iv 0, iv 0, iv 0, iv 0, .int .u64 0] := c3
    have mH3 := kH3.1
    have hk := hk.trans kH3
    have hw := kH3.sl0 hw
    have ha := kH3.sl0 ha
    have c1 := kH3.cl c1 (by simp)
    obtain ⟨_, eH4, lH4, gH4⟩ := id c3
    refine Exists.intro _ (Exists.intro _ (Exists.intro _ (And.intro gH4 (And.intro (by omega) (And.intro rfl (And.intro rfl (And.intro (by simp) ?_)))))))
    intro H4 hH4; obtain ⟨kH4, nH4, sH4⟩ := up_facts c3 hH4; clear hH4
    have mH4 := kH4.1
    have hk := hk.new kH4 (fun b hb => by simp at hb ⊢; omega)
    have hw := kH4.sl hw (fun b e => by have := fw b e; first | (simp; done) | (simp; omega))
    have ha := kH4.sl ha (fun b e => by have := fa b e; first | (simp; done) | (simp; omega))
    have c1 := kH4.cl c1 (by first | (simp; done) | (simp; omega))
    have c3 : Cl H4 H2.next [.slice none 0 0, .slice none 0 0, iv 0, iv 0, iv 0, iv 0, iv 0, iv 0, iv 0, iv 0, iv 0, iv 0, iv 0, iv 0, iv 0, .int .u64 0] := sH4
    refine condT ?_
    exact And.intro trivial (Exists.intro _ (And.intro rfl ⟨hk, Or.inl ⟨hok, rfl⟩⟩))
  · refine Exists.intro _ (Exists.intro _ (And.intro (callX_args fH2) ?_))
    refine And.intro rfl (Exists.intro (.agg zeroC.toArray) (And.intro (by kernel_rfl) ?_))
    refine And.intro rfl (Exists.intro (iv 2) (And.intro (by kernel_rfl) ?_))
    intro H5 hH5; obtain ⟨kH5, nH5, c5⟩ := new_facts hH5; clear hH5
    have c5 : Cl H5 H2.next [.slice none 0 0, .slice none 0 0, iv 0, iv 0, iv 0, iv 0, iv 0, iv 0, iv 0, iv 0, iv 0, iv 0, iv 0, iv 0, iv 0, .int .u64 0] := c5
    have mH5 := kH5.1
    have hk := hk.trans kH5
    have hw := kH5.sl0 hw
    have ha := kH5.sl0 ha
    have c1 := kH5.cl c1 (by simp)
    obtain ⟨_, eH6, lH6, gH6⟩ := id c5
    refine Exists.intro _ (Exists.intro _ (Exists.intro _ (And.intro gH6 (And.intro (by omega) (And.intro rfl (And.intro rfl (And.intro (by simp) ?_)))))))
    intro H6 hH6; obtain ⟨kH6, nH6, sH6⟩ := up_facts c5 hH6; clear hH6
    have mH6 := kH6.1
    have hk := hk.new kH6 (fun b hb => by simp at hb ⊢; omega)
    have hw := kH6.sl hw (fun b e => by have := fw b e; first | (simp; done) | (simp; omega))
    have ha := kH6.sl ha (fun b e => by have := fa b e; first | (simp; done) | (simp; omega))
    have c1 := kH6.cl c1 (by first | (simp; done) | (simp; omega))
    have c5 : Cl H6 H2.next [.slice none 0 0, .slice none 0 0, iv 0, iv 0, iv 0, iv 0, iv 0, iv 0, iv 0, iv 0, iv 0, iv 0, iv 0, iv 0, iv 0, .int .u64 0] := sH6
    refine condT ?_
    exact And.intro trivial (Exists.intro _ (And.intro rfl ⟨hk, Or.inr (Or.inl ⟨hok, hin, rfl⟩)⟩))
  · have v := Lt.vd hok hwl hal
    have hn40 := v.n40
    refine Exists.intro _ (Exists.intro _ (And.intro (callX_args fH2) ?_))
    refine And.intro rfl (Exists.intro (.agg (crs g s d 0).toArray) (And.intro (by kernel_rfl) ?_))
    refine And.intro rfl (Exists.intro (iv 0) (And.intro (by kernel_rfl) ?_))
    intro H7 hH7; obtain ⟨kH7, nH7, c7⟩ := new_facts hH7; clear hH7
    have c7 : Cl H7 H2.next [.slice none 0 0, .slice none 0 0, iv 0, iv 0, iv 0, iv 0, iv 0, iv 0, iv 0, iv 0, iv 0, iv 0, iv 0, iv 0, iv 0, .int .u64 0] := c7
    have mH7 := kH7.1
    have hk := hk.trans kH7
    have hw := kH7.sl0 hw
    have ha := kH7.sl0 ha
    have c1 := kH7.cl c1 (by simp)
    obtain ⟨_, eH8, lH8, gH8⟩ := id c7
    refine Exists.intro _ (Exists.intro _ (Exists.intro _ (And.intro gH8 (And.intro (by omega) (And.intro rfl (And.intro rfl (And.intro (by simp) ?_)))))))
    intro H8 hH8; obtain ⟨kH8, nH8, sH8⟩ := up_facts c7 hH8; clear hH8
    have mH8 := kH8.1
    have hk := hk.new kH8 (fun b hb => by simp at hb ⊢; omega)
    have hw := kH8.sl hw (fun b e => by have := fw b e; first | (simp; done) | (simp; omega))
    have ha := kH8.sl ha (fun b e => by have := fa b e; first | (simp; done) | (simp; omega))
    have c1 := kH8.cl c1 (by first | (simp; done) | (simp; omega))
    have c7 : Cl H8 H2.next [.slice g.wa g.wn g.wcap, .slice g.aa g.an g.acap, iv g.r1, iv g.r2, iv g.f1, iv g.f2, iv g.g1, iv g.g2, iv g.full, iv g.base, iv g.kill, iv g.need, iv g.bear, iv (s : Int), iv (d : Int), .int .u64 (0 : Int)] := sH8
    refine condF ?_
    refine Exists.intro _ (Exists.intro _ (And.intro c7.of (And.intro (show row 16 _ _ = some [.slice g.wa g.wn g.wcap, .slice g.aa g.an g.acap, iv g.r1, iv g.r2, iv g.f1, iv g.f2, iv g.g1, iv g.g2, iv g.full, iv g.base, iv g.kill, iv g.need, iv g.bear, iv (s : Int), iv (d : Int), .int .u64 (0 : Int)] from rfl) ?_)))
    obtain ⟨wH9, H9, fH9, kH9, hres⟩ := hurt_ok (kn := kn) (lo := lo) (H := H8) (m := 0) h48 v (show s + d ≤ g.wn by omega) hw ha (by omega)
    have mH9 := kH9.1
    have hk := hk.trans kH9
    have hw := kH9.sl0 hw
    have ha := kH9.sl0 ha
    have c1 := kH9.cl c1 (by simp)
    have c7 := kH9.cl c7 (by simp)
    rcases hres with ⟨k, hk1, hk2, hk3, rfl⟩ | ⟨hall, rfl⟩
    · refine Exists.intro _ (Exists.intro _ (And.intro (callX_args fH9) ?_))
      intro H10 hH10; obtain ⟨kH10, nH10, c10⟩ := new_facts hH10; clear hH10
      have c10 : Cl H10 H9.next [iv 0, iv 0, iv 0, iv 0, iv 0, iv 0, iv 0] := c10
      have mH10 := kH10.1
      have hk := hk.trans kH10
      have hw := kH10.sl0 hw
      have ha := kH10.sl0 ha
      have c1 := kH10.cl c1 (by simp)
      have c7 := kH10.cl c7 (by simp)
      obtain ⟨_, eH11, lH11, gH11⟩ := id c10
      refine Exists.intro _ (Exists.intro _ (Exists.intro _ (And.intro gH11 (And.intro (by omega) (And.intro rfl (And.intro rfl (And.intro (by simp) ?_)))))))
      intro H11 hH11; obtain ⟨kH11, nH11, sH11⟩ := up_facts c10 hH11; clear hH11
      have mH11 := kH11.1
      have hk := hk.new kH11 (fun b hb => by simp at hb ⊢; omega)
      have hw := kH11.sl hw (fun b e => by have := fw b e; first | (simp; done) | (simp; omega))
      have ha := kH11.sl ha (fun b e => by have := fa b e; first | (simp; done) | (simp; omega))
      have c1 := kH11.cl c1 (by first | (simp; done) | (simp; omega))
      have c7 := kH11.cl c7 (by first | (simp; done) | (simp; omega))
      have c10 : Cl H11 H9.next [iv (k : Int), iv (g.wl s k), iv (g.wh s k), iv (g.lo s (Nat.testBit 0) k), iv (g.sl s (Nat.testBit 0) k), iv (g.hi s (Nat.testBit 0) k), iv (g.sm s (Nat.testBit 0) k)] := sH11
      refine wD_seq ?_
      refine wD_lda (b := H9.next) (o := 0) rfl c10.rd (show row 7 _ _ = some [iv (k : Int), iv (g.wl s k), iv (g.wh s k), iv (g.lo s (Nat.testBit 0) k), iv (g.sl s (Nat.testBit 0) k), iv (g.hi s (Nat.testBit 0) k), iv (g.sm s (Nat.testBit 0) k)] from rfl) ?_
      obtain ⟨H12, fH12, kH12⟩ := none48_ok (kn := kn) (lo := H11.next) (H := H11) (Nat.le_refl _)
      refine wD_callh (vs := []) rfl (by kernel_rfl) (callX_func (by simp [kcall, h48]) (by simpa using fH12)) ?_
      have mH12 := kH12.1
      have hk := hk.trans kH12
      have hw := kH12.sl0 hw
      have ha := kH12.sl0 ha
      have c1 := kH12.cl c1 (by simp)
      have c7 := kH12.cl c7 (by simp)
      have c10 := kH12.cl c10 (by simp)
      refine wD_pur (v := .bool false) rfl (pure_eq72 rfl rfl rfl (by omega)) ?_
      refine wD_end (by repeat' first | exact True.intro | exact (fun h => h) | refine And.intro ?_ ?_ | (intro h; have h : (_ : Nat) = _ := h; omega)) ?_
      refine condF ?_
      have hk0 : 0 < k := by
        rcases Nat.eq_zero_or_pos k with rfl | h
        · have := v.be; simp [Lt.sl] at hk2; omega
        · exact h
      refine Exists.intro _ (Exists.intro _ (And.intro c10.of (And.intro (show _ = some (iv (k : Int)) from rfl) ?_)))
      refine And.intro ⟨by omega, by omega⟩ ?_
      obtain ⟨m, rfl⟩ : ∃ m, k = m + 1 := ⟨k - 1, by omega⟩
      have e : ((m + 1 : Nat) : Int) - 1 = (m : Int) := by omega
      exact And.intro trivial (Exists.intro _ (And.intro rfl ⟨hk, Or.inr (Or.inr ⟨hok, s, d, m, rfl, hsd, by omega, fun j hj => by have := hk3 j (by omega); simp at this; omega, Or.inr (by simp at hk2; omega), by rw [e]; rfl⟩)⟩))
    · refine Exists.intro _ (Exists.intro _ (And.intro (callX_args fH9) ?_))
      intro H13 hH13; obtain ⟨kH13, nH13, c13⟩ := new_facts hH13; clear hH13
      have c13 : Cl H13 H9.next [iv 0, iv 0, iv 0, iv 0, iv 0, iv 0, iv 0] := c13
      have mH13 := kH13.1
      have hk := hk.trans kH13
      have hw := kH13.sl0 hw
      have ha := kH13.sl0 ha
      have c1 := kH13.cl c1 (by simp)
      have c7 := kH13.cl c7 (by simp)
      obtain ⟨_, eH14, lH14, gH14⟩ := id c13
      refine Exists.intro _ (Exists.intro _ (Exists.intro _ (And.intro gH14 (And.intro (by omega) (And.intro rfl (And.intro rfl (And.intro (by simp) ?_)))))))
      intro H14 hH14; obtain ⟨kH14, nH14, sH14⟩ := up_facts c13 hH14; clear hH14
      have mH14 := kH14.1
      have hk := hk.new kH14 (fun b hb => by simp at hb ⊢; omega)
      have hw := kH14.sl hw (fun b e => by have := fw b e; first | (simp; done) | (simp; omega))
      have ha := kH14.sl ha (fun b e => by have := fa b e; first | (simp; done) | (simp; omega))
      have c1 := kH14.cl c1 (by first | (simp; done) | (simp; omega))
      have c7 := kH14.cl c7 (by first | (simp; done) | (simp; omega))
      have c13 : Cl H14 H9.next [iv (-1), iv 0, iv 0, iv 0, iv 0, iv 0, iv 0] := sH14
      refine wD_seq ?_
      refine wD_lda (b := H9.next) (o := 0) rfl c13.rd (show row 7 _ _ = some [iv (-1), iv 0, iv 0, iv 0, iv 0, iv 0, iv 0] from rfl) ?_
      obtain ⟨H15, fH15, kH15⟩ := none48_ok (kn := kn) (lo := H14.next) (H := H14) (Nat.le_refl _)
      refine wD_callh (vs := []) rfl (by kernel_rfl) (callX_func (by simp [kcall, h48]) (by simpa using fH15)) ?_
      have mH15 := kH15.1
      have hk := hk.trans kH15
      have hw := kH15.sl0 hw
      have ha := kH15.sl0 ha
      have c1 := kH15.cl c1 (by simp)
      have c7 := kH15.cl c7 (by simp)
      have c13 := kH15.cl c13 (by simp)
      refine wD_pur (v := .bool true) rfl (pure_eq72n rfl rfl) ?_
      refine wD_end (by repeat' first | exact True.intro | exact (fun h => h) | refine And.intro ?_ ?_ | (intro h; have h : (_ : Nat) = _ := h; omega)) ?_
      refine condT ?_
      refine Exists.intro _ (Exists.intro _ (And.intro c7.of (And.intro (show _ = some (iv (d : Int)) from rfl) ?_)))
      exact And.intro trivial (Exists.intro _ (And.intro rfl ⟨hk, Or.inr (Or.inr ⟨hok, s, d, d, rfl, hsd, Nat.le_refl _, fun j hj => by have := hall j hj; simp at this; omega, Or.inl rfl, rfl⟩)⟩))
end
end Go.Ax

/-
  Late: Best (26) (written by program).
-/
namespace Go.Ax
open Go Go.RowKit Go.Proofs

/-- a flood without fresh days in which both is sure -/
def Lt.fine (g : Lt) (s d : Nat) : Prop := g.kill ≤ g.wl s d ∧ g.sl s (Nat.testBit 0) d ≤ g.bear
theorem Lt.sl_le {g : Lt} {s : Nat} {F : Nat → Bool} : ∀ {j k : Nat}, j ≤ k → g.sl s F j ≤ g.sl s F k
  | j, 0, h => by have : j = 0 := by omega
                  subst this; exact Int.le_refl _
  | j, k + 1, h => by
    rcases Nat.lt_or_ge k j with q | q
    · have : j = k + 1 := by omega
      subst this; exact Int.le_refl _
    · have := Lt.sl_le (g := g) (s := s) (F := F) q
      rw [Lt.sl]; cases decide (g.lo s F (k + 1) < g.need) <;> simp only [cond_true, cond_false] <;> omega
/-- the best flood of those that start ahead of a day -/
def Lt.bst (g : Lt) (i : Nat) : Option (Nat × Nat) → Prop
  | none => ∀ s d, s < i → s + d ≤ g.wn → ¬ g.fine s d
  | some (a, b) => a < i ∧ a + b ≤ g.wn ∧ g.fine a b ∧ ∀ s d, s < i → s + d ≤ g.wn → g.fine s d → b < d ∨ (b = d ∧ a ≤ s)
theorem Lt.bst_none {g : Lt} {i : Nat} {o : Option (Nat × Nat)} (h : g.bst i o) (hn : ∀ d, i + d ≤ g.wn → ¬ g.fine i d) : g.bst (i + 1) o := by
  have hn' : ∀ s d, s < i + 1 → s + d ≤ g.wn → g.fine s d → s < i := fun s d h1 h2 h3 => by
    rcases Nat.lt_or_ge s i with q | q
    · exact q
    · have : s = i := by omega
      subst this; exact absurd h3 (hn d h2)
  rcases o with _ | ⟨a, b⟩
  · exact fun s d h1 h2 h3 => h s d (hn' s d h1 h2 h3) h2 h3
  · obtain ⟨h1, h2, h3, h4⟩ := h
    exact ⟨by omega, h2, h3, fun s d q1 q2 q3 => h4 s d (hn' s d q1 q2 q3) q2 q3⟩
theorem Lt.first {g : Lt} {s k : Nat} (h3 : ∀ j, j < k → g.wl s j < g.kill) {d : Nat} (h : g.fine s d) : k ≤ d := by
  rcases Nat.lt_or_ge d k with q | q
  · have := h3 d q; have := h.1; omega
  · exact q
theorem Lt.bst_keep {g : Lt} {i a b k : Nat} (h : g.bst i (some (a, b))) (h3 : ∀ j, j < k → g.wl i j < g.kill) (hb : b ≤ k) : g.bst (i + 1) (some (a, b)) := by
  obtain ⟨q1, q2, q3, q4⟩ := h
  refine ⟨by omega, q2, q3, fun s d r1 r2 r3 => ?_⟩
  rcases Nat.lt_or_ge s i with q | q
  · exact q4 s d q r2 r3
  · have : s = i := by omega
    subst this
    have := Lt.first h3 r3
    omega
theorem Lt.bst_take {g : Lt} {i k : Nat} {o : Option (Nat × Nat)} (h : g.bst i o) (h3 : ∀ j, j < k → g.wl i j < g.kill) (hk : i + k ≤ g.wn) (hf : g.fine i k) (ho : ∀ a b, o = some (a, b) → k < b) : g.bst (i + 1) (some (i, k)) := by
  refine ⟨by omega, hk, hf, fun s d r1 r2 r3 => ?_⟩
  rcases Nat.lt_or_ge s i with q | q
  · rcases o with _ | ⟨a, b⟩
    · exact absurd r3 (h s d q r2)
    · have := h.2.2.2 s d q r2 r3
      have := ho a b rfl
      omega
  · have : s = i := by omega
    subst this
    have := Lt.first h3 r3
    omega
abbrev Lt.bc (g : Lt) : Option (Nat × Nat) → List Value
  | none => noneS
  | some (a, b) => g.st a (Nat.testBit 0) b
def bsA : Option (Nat × Nat) → Int
  | none => 0
  | some (a, _) => (a : Int)
/-- what Best answers -/
def Lt.Bs (g : Lt) (w : Value) : Prop :=
  (g.ok = false ∧ w = .tuple #[iv 0, iv 0, iv 1]) ∨ (g.ok = true ∧ (∀ s d, s + d ≤ g.wn → ¬ g.fine s d) ∧ w = .tuple #[iv 0, iv 0, iv 4]) ∨
  (g.ok = true ∧ ∃ a b : Nat, a + b ≤ g.wn ∧ g.fine a b ∧ (∀ s d, s + d ≤ g.wn → g.fine s d → b < d ∨ (b = d ∧ a ≤ s)) ∧ w = .tuple #[iv (a : Int), iv (b : Int), iv 0])
section
variable {kn : FuncId → Option Bool} {lo : Nat} {H : Hp}
theorem best_ok (h48 : kn 48 = none) {g : Lt} (hw : Sl H g.wa g.wn g.wcap (spc g.ws)) (ha : Sl H g.aa g.an g.acap (spc g.as)) (hwl : g.ws.length = g.wn) (hal : g.as.length = g.an) (hwn : g.wn ≤ 1000) (han : g.an ≤ 1000) (hlo : lo ≤ H.next) :
    ∃ w H', FnX Try.prog kn lo 26 [.agg g.v.toArray] H w H' ∧ Keep H H' [] ∧ g.Bs w := by
  refine fnX_low (kn := kn) (lo := lo) (H := H) (args := [.agg g.v.toArray]) (Q := fun w H' => Keep H H' [] ∧ g.Bs w) Try.func26 B26 N26 Z26 L26 (by simp) ?_
  have hk := Keep.refl H []
  have fw := hw.old; have fa := ha.old
  intro H1 hH1; obtain ⟨kH1, nH1, c1⟩ := new_facts hH1; clear hH1
  have mH1 := kH1.1
  have hk := hk.trans kH1
  have hw := kH1.sl0 hw
  have ha := kH1.sl0 ha
  have c1 : Cl H1 H.next [.slice g.wa g.wn g.wcap, .slice g.aa g.an g.acap, iv g.r1, iv g.r2, iv g.f1, iv g.f2, iv g.g1, iv g.g2, iv g.full, iv g.base, iv g.kill, iv g.need, iv g.bear] := c1
  refine Exists.intro _ (Exists.intro _ (And.intro c1.of (And.intro (show row 13 _ _ = some [.slice g.wa g.wn g.wcap, .slice g.aa g.an g.acap, iv g.r1, iv g.r2, iv g.f1, iv g.f2, iv g.g1, iv g.g2, iv g.full, iv g.base, iv g.kill, iv g.need, iv g.bear] from rfl) ?_)))
  refine callB (valid_ok hw ha hwl hal) ?_
  intro tH2 H2 hH2 kH2
  have mH2 := kH2.1
  have hk := hk.trans kH2
  have hw := kH2.sl0 hw
  have ha := kH2.sl0 ha
  have c1 := kH2.cl c1 (by simp)
  cases tH2
  · have hok := hH2
    refine And.intro rfl (Exists.intro (.bool true) (And.intro rfl ?_))
    refine condT ?_
    exact And.intro trivial (Exists.intro _ (And.intro rfl ⟨hk, Or.inl ⟨hok, rfl⟩⟩))
  · have hok := hH2; have v := Lt.vd hok hwl hal; have hn40 := v.n40
    refine And.intro rfl (Exists.intro (.bool false) (And.intro rfl ?_))
    refine condF ?_
    obtain ⟨H3, fH3, kH3⟩ := none48_ok (kn := kn) (lo := lo) (H := H2) (by omega)
    have mH3 := kH3.1
    have hk := hk.trans kH3
    have hw := kH3.sl0 hw
    have ha := kH3.sl0 ha
    have c1 := kH3.cl c1 (by simp)
    refine Exists.intro _ (Exists.intro _ (And.intro (callX_func (by simp [kcall, h48]) (by simpa using fH3)) ?_))
    intro H4 hH4; obtain ⟨kH4, nH4, c4⟩ := new_facts hH4; clear hH4
    have c4 : Cl H4 H3.next [iv 0, iv 0, iv 0, iv 0, iv 0, iv 0, iv 0] := c4
    have mH4 := kH4.1
    have hk := hk.trans kH4
    have hw := kH4.sl0 hw
    have ha := kH4.sl0 ha
    have c1 := kH4.cl c1 (by simp)
    obtain ⟨_, eH5, lH5, gH5⟩ := id c4
    refine Exists.intro _ (Exists.intro _ (Exists.intro _ (And.intro gH5 (And.intro (by omega) (And.intro rfl (And.intro rfl (And.intro (by simp) ?_)))))))
    intro H5 hH5; obtain ⟨kH5, nH5, sH5⟩ := up_facts c4 hH5; clear hH5
    have mH5 := kH5.1
    have hk := hk.new kH5 (fun b hb => by simp at hb ⊢; omega)
    have hw := kH5.sl hw (fun b e => by have := fw b e; first | (simp; done) | (simp; omega))
    have ha := kH5.sl ha (fun b e => by have := fa b e; first | (simp; done) | (simp; omega))
    have c1 := kH5.cl c1 (by first | (simp; done) | (simp; omega))
    have c4 : Cl H5 H3.next [iv (-1), iv 0, iv 0, iv 0, iv 0, iv 0, iv 0] := sH5
    refine Exists.intro _ (Exists.intro _ (And.intro c1.of (And.intro (show _ = some (.slice g.wa g.wn g.wcap) from rfl) ?_)))
    refine And.intro ⟨by omega, by omega⟩ ?_
    obtain ⟨z0, hz0⟩ : ∃ z, z = H.next := ⟨_, rfl⟩
    obtain ⟨z1, hz1⟩ : ∃ z, z = H3.next := ⟨_, rfl⟩
    have b36 : z0 < z1 ∧ H.next ≤ z0 := by omega
    rw [← hz0] at c1
    rw [← hz1] at c4
    rw [← hz0, ← hz1]
    clear hz0 hz1
    refine loop_low (fn := Try.f26) E26_1 N26 L26x1 (fun x : Nat × Option (Nat × Nat) => [(1, pt z0), (2, iv (bsA x.2)), (5, pt z1), (17, iv ((g.wn : Int) + 1)), (18, iv (x.1 : Int))])
      (fun q x H' => x.1 + q = g.wn + 1 ∧ Keep H H' [] ∧ Sl H' g.wa g.wn g.wcap (spc g.ws) ∧ Sl H' g.aa g.an g.acap (spc g.as) ∧ Cl H' z0 g.v ∧ Cl H' z1 (g.bc x.2) ∧ g.bst x.1 x.2) (g.wn + 1) (0, none) ⟨by show 0 + (g.wn + 1) = g.wn + 1; omega, hk, hw, ha, c1, c4, fun s d h => by omega⟩ ⟨rfl, rfl, rfl, rfl, rfl, trivial⟩ ?_
    rintro q ⟨i, o⟩ L1 ⟨hik, hk, hw, ha, c1, c5, hst⟩
    simp only at hik hst c5
    have hm := hk.1
    have l1 := c1.lt
    have l5 := c5.lt
    refine And.intro (fun q1 => ?_) (fun q1 => ?_)
    · have q1 : (i : Int) < ((g.wn : Int) + 1) := of_decide_eq_true q1
      have hiw : i < g.wn + 1 := by omega
      obtain ⟨d, hid⟩ : ∃ d, i + d = g.wn := ⟨g.wn - i, by omega⟩
      refine Exists.intro _ (Exists.intro _ (And.intro c1.of (And.intro (show row 13 _ _ = some [.slice g.wa g.wn g.wcap, .slice g.aa g.an g.acap, iv g.r1, iv g.r2, iv g.f1, iv g.f2, iv g.g1, iv g.g2, iv g.full, iv g.base, iv g.kill, iv g.need, iv g.bear] from rfl) ?_)))
      obtain ⟨wH6, H6, fH6, kH6, hc⟩ := longest_ok (kn := kn) (lo := lo) (H := L1) (g := g) (a := (i : Int)) hw ha hwl hal hwn han (by omega)
      have mH6 := kH6.1
      have hk := hk.trans kH6
      have hw := kH6.sl0 hw
      have ha := kH6.sl0 ha
      have c1 := kH6.cl c1 (by simp)
      have c5 := kH6.cl c5 (by simp)
      obtain rfl : wH6 = .tuple #[.agg (crs g i d 0).toArray, iv 0] := by
        rcases hc with ⟨h, _⟩ | ⟨_, h, _⟩ | ⟨_, s, e, h1, h2, h3⟩
        · rw [hok] at h; cases h
        · simp only [inB, Bool.and_eq_false_iff, decide_eq_false_iff_not] at h; omega
        · obtain rfl : s = i := by omega
          obtain rfl : e = d := by omega
          exact h3
      refine Exists.intro _ (Exists.intro _ (And.intro (callX_args fH6) ?_))
      refine And.intro rfl (Exists.intro (.agg (crs g i d 0).toArray) (And.intro (by kernel_rfl) ?_))
      refine And.intro rfl (Exists.intro (iv 0) (And.intro (by kernel_rfl) ?_))
      intro H7 hH7; obtain ⟨kH7, nH7, c7⟩ := new_facts hH7; clear hH7
      have c7 : Cl H7 H6.next [.slice none 0 0, .slice none 0 0, iv 0, iv 0, iv 0, iv 0, iv 0, iv 0, iv 0, iv 0, iv 0, iv 0, iv 0, iv 0, iv 0, .int .u64 0] := c7
      have mH7 := kH7.1
      have hk := hk.trans kH7
      have hw := kH7.sl0 hw
      have ha := kH7.sl0 ha
      have c1 := kH7.cl c1 (by simp)
      have c5 := kH7.cl c5 (by simp)
      obtain ⟨_, eH8, lH8, gH8⟩ := id c7
      refine Exists.intro _ (Exists.intro _ (Exists.intro _ (And.intro gH8 (And.intro (by omega) (And.intro rfl (And.intro rfl (And.intro (by simp) ?_)))))))
      intro H8 hH8; obtain ⟨kH8, nH8, sH8⟩ := up_facts c7 hH8; clear hH8
      have mH8 := kH8.1
      have hk := hk.new kH8 (fun b hb => by simp at hb ⊢; omega)
      have hw := kH8.sl hw (fun b e => by have := fw b e; first | (simp; done) | (simp; omega))
      have ha := kH8.sl ha (fun b e => by have := fa b e; first | (simp; done) | (simp; omega))
      have c1 := kH8.cl c1 (by first | (simp; done) | (simp; omega))
      have c5 := kH8.cl c5 (by first | (simp; done) | (simp; omega))
      have c7 : Cl H8 H6.next [.slice g.wa g.wn g.wcap, .slice g.aa g.an g.acap, iv g.r1, iv g.r2, iv g.f1, iv g.f2, iv g.g1, iv g.g2, iv g.full, iv g.base, iv g.kill, iv g.need, iv g.bear, iv (i : Int), iv (d : Int), .int .u64 (0 : Int)] := sH8
      refine Exists.intro _ (Exists.intro _ (And.intro c7.of (And.intro (show row 16 _ _ = some [.slice g.wa g.wn g.wcap, .slice g.aa g.an g.acap, iv g.r1, iv g.r2, iv g.f1, iv g.f2, iv g.g1, iv g.g2, iv g.full, iv g.base, iv g.kill, iv g.need, iv g.bear, iv (i : Int), iv (d : Int), .int .u64 (0 : Int)] from rfl) ?_)))
      obtain ⟨wH9, H9, fH9, kH9, hres⟩ := drowned_ok (kn := kn) (lo := lo) (H := H8) (m := 0) h48 v (show i + d ≤ g.wn by omega) hw ha (by omega)
      have mH9 := kH9.1
      have hk := hk.trans kH9
      have hw := kH9.sl0 hw
      have ha := kH9.sl0 ha
      have c1 := kH9.cl c1 (by simp)
      have c5 := kH9.cl c5 (by simp)
      have c7 := kH9.cl c7 (by simp)
      rcases hres with ⟨k, hk1, hk2, hk3, rfl⟩ | ⟨hall, rfl⟩ <;> rcases o with _ | ⟨s0, k0⟩
      · have c5 : Cl H9 z1 [iv (-1), iv 0, iv 0, iv 0, iv 0, iv 0, iv 0] := c5
        have hk2 : ¬ g.wl i k < g.kill := of_decide_eq_false hk2
        have hk3 : ∀ j, j < k → g.wl i j < g.kill := fun j hj => of_decide_eq_true (hk3 j hj)
        refine Exists.intro _ (Exists.intro _ (And.intro (callX_args fH9) ?_))
        intro H10 hH10; obtain ⟨kH10, nH10, c10⟩ := new_facts hH10; clear hH10
        have c10 : Cl H10 H9.next [iv 0, iv 0, iv 0, iv 0, iv 0, iv 0, iv 0] := c10
        have mH10 := kH10.1
        have hk := hk.trans kH10
        have hw := kH10.sl0 hw
        have ha := kH10.sl0 ha
        have c1 := kH10.cl c1 (by simp)
        have c5 := kH10.cl c5 (by simp)
        have c7 := kH10.cl c7 (by simp)
        obtain ⟨_, eH11, lH11, gH11⟩ := id c10
        refine Exists.intro _ (Exists.intro _ (Exists.intro _ (And.intro gH11 (And.intro (by omega) (And.intro rfl (And.intro rfl (And.intro (by simp) ?_)))))))
        intro H11 hH11; obtain ⟨kH11, nH11, sH11⟩ := up_facts c10 hH11; clear hH11
        have mH11 := kH11.1
        have hk := hk.new kH11 (fun b hb => by simp at hb ⊢; omega)
        have hw := kH11.sl hw (fun b e => by have := fw b e; first | (simp; done) | (simp; omega))
        have ha := kH11.sl ha (fun b e => by have := fa b e; first | (simp; done) | (simp; omega))
        have c1 := kH11.cl c1 (by first | (simp; done) | (simp; omega))
        have c5 := kH11.cl c5 (by first | (simp; done) | (simp; omega))
        have c7 := kH11.cl c7 (by first | (simp; done) | (simp; omega))
        have c10 : Cl H11 H9.next [iv (k : Int), iv (g.wl i k), iv (g.wh i k), iv (g.lo i (Nat.testBit 0) k), iv (g.sl i (Nat.testBit 0) k), iv (g.hi i (Nat.testBit 0) k), iv (g.sm i (Nat.testBit 0) k)] := sH11
        refine wD_seq ?_
        refine wD_lda (b := H9.next) (o := 0) rfl c10.rd (show row 7 _ _ = some [iv (k : Int), iv (g.wl i k), iv (g.wh i k), iv (g.lo i (Nat.testBit 0) k), iv (g.sl i (Nat.testBit 0) k), iv (g.hi i (Nat.testBit 0) k), iv (g.sm i (Nat.testBit 0) k)] from rfl) ?_
        obtain ⟨H12, fH12, kH12⟩ := none48_ok (kn := kn) (lo := H11.next) (H := H11) (Nat.le_refl _)
        refine wD_callh (vs := []) rfl (by kernel_rfl) (callX_func (by simp [kcall, h48]) (by simpa using fH12)) ?_
        have mH12 := kH12.1
        have hk := hk.trans kH12
        have hw := kH12.sl0 hw
        have ha := kH12.sl0 ha
        have c1 := kH12.cl c1 (by simp)
        have c5 := kH12.cl c5 (by simp)
        have c7 := kH12.cl c7 (by simp)
        have c10 := kH12.cl c10 (by simp)
        refine wD_pur (v := .bool false) rfl (pure_eq72 rfl rfl rfl (by omega)) ?_
        refine wD_mov (v := .bool false) rfl ?_
        refine wD_g rfl (wD_lda (b := H6.next) (o := 0) rfl c7.rd (show row 16 _ _ = some [.slice g.wa g.wn g.wcap, .slice g.aa g.an g.acap, iv g.r1, iv g.r2, iv g.f1, iv g.f2, iv g.g1, iv g.g2, iv g.full, iv g.base, iv g.kill, iv g.need, iv g.bear, iv (i : Int), iv (d : Int), .int .u64 (0 : Int)] from rfl) ?_)
        refine wD_g rfl (wD_lda (b := H9.next) (o := 0) rfl c10.rd (show row 7 _ _ = some [iv (k : Int), iv (g.wl i k), iv (g.wh i k), iv (g.lo i (Nat.testBit 0) k), iv (g.sl i (Nat.testBit 0) k), iv (g.hi i (Nat.testBit 0) k), iv (g.sm i (Nat.testBit 0) k)] from rfl) ?_)
        obtain ⟨H13, fH13, kH13⟩ := hurts_ok (kn := kn) (lo := lo) (H := H12) (g := g) (s := i) (d := d) (m := 0) (k := k)
        generalize hh : decide (g.sl i (Nat.testBit 0) k > g.bear) = t at fH13
        refine wD_g rfl (wD_callf (vs := [.agg (crs g i d 0).toArray, .agg (g.st i (Nat.testBit 0) k).toArray]) rfl (callX_args fH13) ?_)
        have mH13 := kH13.1
        have hk := hk.trans kH13
        have hw := kH13.sl0 hw
        have ha := kH13.sl0 ha
        have c1 := kH13.cl c1 (by simp)
        have c5 := kH13.cl c5 (by simp)
        have c7 := kH13.cl c7 (by simp)
        have c10 := kH13.cl c10 (by simp)
        cases t
        · have hh : ¬ (g.sl i (Nat.testBit 0) k > g.bear) := of_decide_eq_false hh
          refine wD_pur (v := .bool false) rfl rfl ?_
          refine wD_end (by repeat' first | exact True.intro | exact (fun h => h) | refine And.intro ?_ ?_ | (intro h; have h : (_ : Nat) = _ := h; omega)) ?_
          refine condF ?_
          refine wD_seq ?_
          refine wD_lda (b := z1) (o := 0) rfl c5.rd (show row 7 _ _ = some [iv (-1), iv 0, iv 0, iv 0, iv 0, iv 0, iv 0] from rfl) ?_
          obtain ⟨H14, fH14, kH14⟩ := none48_ok (kn := kn) (lo := H13.next) (H := H13) (Nat.le_refl _)
          refine wD_callh (vs := []) rfl (by kernel_rfl) (callX_func (by simp [kcall, h48]) (by simpa using fH14)) ?_
          have mH14 := kH14.1
          have hk := hk.trans kH14
          have hw := kH14.sl0 hw
          have ha := kH14.sl0 ha
          have c1 := kH14.cl c1 (by simp)
          have c5 := kH14.cl c5 (by simp)
          have c7 := kH14.cl c7 (by simp)
          have c10 := kH14.cl c10 (by simp)
          refine wD_pur (v := .bool true) rfl (pure_eq72n rfl rfl) ?_
          refine wD_mov (v := .bool true) rfl ?_
          refine wD_gs rfl ?_
          refine wD_gs rfl ?_
          refine wD_gs rfl ?_
          refine wD_gs rfl ?_
          refine wD_gs rfl ?_
          refine wD_pur (v := .bool true) rfl rfl ?_
          refine wD_end (by repeat' first | exact True.intro | exact (fun h => h) | refine And.intro ?_ ?_ | (intro h; have h : (_ : Nat) = _ := h; omega)) ?_
          refine condT ?_
          have hnew : g.bst (i + 1) (some (i, k)) := Lt.bst_take hst hk3 (by omega) ⟨by omega, by omega⟩ (fun a b e => by cases e)
          refine wD_dreg ?_
          refine wD_mov (v := iv (i : Int)) rfl ?_
          refine wD_lda (b := H9.next) (o := 0) rfl c10.rd (show row 7 _ _ = some [iv (k : Int), iv (g.wl i k), iv (g.wh i k), iv (g.lo i (Nat.testBit 0) k), iv (g.sl i (Nat.testBit 0) k), iv (g.hi i (Nat.testBit 0) k), iv (g.sm i (Nat.testBit 0) k)] from rfl) ?_
          refine wD_mov (v := iv (i : Int)) rfl ?_
          refine wD_sta (b := z1) (o := 0) rfl rfl c5 (by omega) rfl rfl (by simp) ?_
          intro H15 kH15 nH15 sH15
          have mH15 := kH15.1
          have hk := hk.new kH15 (fun b hb => by simp at hb ⊢; omega)
          have hw := kH15.sl hw (fun b e => by have := fw b e; first | (simp; done) | (simp; omega))
          have ha := kH15.sl ha (fun b e => by have := fa b e; first | (simp; done) | (simp; omega))
          have c1 := kH15.cl c1 (by first | (simp; done) | (simp; omega))
          have c7 := kH15.cl c7 (by first | (simp; done) | (simp; omega))
          have c10 := kH15.cl c10 (by first | (simp; done) | (simp; omega))
          have c5 : Cl H15 z1 [iv (k : Int), iv (g.wl i k), iv (g.wh i k), iv (g.lo i (Nat.testBit 0) k), iv (g.sl i (Nat.testBit 0) k), iv (g.hi i (Nat.testBit 0) k), iv (g.sm i (Nat.testBit 0) k)] := sH15
          refine wD_end (by repeat' first | exact True.intro | exact (fun h => h) | refine And.intro ?_ ?_ | (intro h; have h : (_ : Nat) = _ := h; omega)) ?_
          refine And.intro (show InR ((i : Int) + 1) from ⟨by omega, by omega⟩) ?_
          have c5 : Cl H15 z1 (g.bc (some (i, k))) := c5
          exact ⟨q - 1, (i + 1, (some (i, k))), by omega, ⟨by show i + 1 + (q - 1) = g.wn + 1; omega, hk, hw, ha, c1, c5, hnew⟩, rfl, rfl, rfl, rfl, rfl, trivial⟩
        · have hh : (g.sl i (Nat.testBit 0) k > g.bear) := of_decide_eq_true hh
          refine wD_pur (v := .bool true) rfl rfl ?_
          refine wD_end (by repeat' first | exact True.intro | exact (fun h => h) | refine And.intro ?_ ?_ | (intro h; have h : (_ : Nat) = _ := h; omega)) ?_
          refine condT ?_
          have hnew : g.bst (i + 1) none := Lt.bst_none hst (fun e he hf => by
            have h1 := Lt.first hk3 hf; have h2 := Lt.sl_le (g := g) (s := i) (F := Nat.testBit 0) h1; have h3 := hf.2; omega)
          refine And.intro (show InR ((i : Int) + 1) from ⟨by omega, by omega⟩) ?_
          have c5 : Cl H13 z1 (g.bc none) := c5
          exact ⟨q - 1, (i + 1, none), by omega, ⟨by show i + 1 + (q - 1) = g.wn + 1; omega, hk, hw, ha, c1, c5, hnew⟩, rfl, rfl, rfl, rfl, rfl, trivial⟩
      · have c5 : Cl H9 z1 [iv (k0 : Int), iv (g.wl s0 k0), iv (g.wh s0 k0), iv (g.lo s0 (Nat.testBit 0) k0), iv (g.sl s0 (Nat.testBit 0) k0), iv (g.hi s0 (Nat.testBit 0) k0), iv (g.sm s0 (Nat.testBit 0) k0)] := c5
        have hk2 : ¬ g.wl i k < g.kill := of_decide_eq_false hk2
        have hk3 : ∀ j, j < k → g.wl i j < g.kill := fun j hj => of_decide_eq_true (hk3 j hj)
        refine Exists.intro _ (Exists.intro _ (And.intro (callX_args fH9) ?_))
        intro H16 hH16; obtain ⟨kH16, nH16, c16⟩ := new_facts hH16; clear hH16
        have c16 : Cl H16 H9.next [iv 0, iv 0, iv 0, iv 0, iv 0, iv 0, iv 0] := c16
        have mH16 := kH16.1
        have hk := hk.trans kH16
        have hw := kH16.sl0 hw
        have ha := kH16.sl0 ha
        have c1 := kH16.cl c1 (by simp)
        have c5 := kH16.cl c5 (by simp)
        have c7 := kH16.cl c7 (by simp)
        obtain ⟨_, eH17, lH17, gH17⟩ := id c16
        refine Exists.intro _ (Exists.intro _ (Exists.intro _ (And.intro gH17 (And.intro (by omega) (And.intro rfl (And.intro rfl (And.intro (by simp) ?_)))))))
        intro H17 hH17; obtain ⟨kH17, nH17, sH17⟩ := up_facts c16 hH17; clear hH17
        have mH17 := kH17.1
        have hk := hk.new kH17 (fun b hb => by simp at hb ⊢; omega)
        have hw := kH17.sl hw (fun b e => by have := fw b e; first | (simp; done) | (simp; omega))
        have ha := kH17.sl ha (fun b e => by have := fa b e; first | (simp; done) | (simp; omega))
        have c1 := kH17.cl c1 (by first | (simp; done) | (simp; omega))
        have c5 := kH17.cl c5 (by first | (simp; done) | (simp; omega))
        have c7 := kH17.cl c7 (by first | (simp; done) | (simp; omega))
        have c16 : Cl H17 H9.next [iv (k : Int), iv (g.wl i k), iv (g.wh i k), iv (g.lo i (Nat.testBit 0) k), iv (g.sl i (Nat.testBit 0) k), iv (g.hi i (Nat.testBit 0) k), iv (g.sm i (Nat.testBit 0) k)] := sH17
        refine wD_seq ?_
        refine wD_lda (b := H9.next) (o := 0) rfl c16.rd (show row 7 _ _ = some [iv (k : Int), iv (g.wl i k), iv (g.wh i k), iv (g.lo i (Nat.testBit 0) k), iv (g.sl i (Nat.testBit 0) k), iv (g.hi i (Nat.testBit 0) k), iv (g.sm i (Nat.testBit 0) k)] from rfl) ?_
        obtain ⟨H18, fH18, kH18⟩ := none48_ok (kn := kn) (lo := H17.next) (H := H17) (Nat.le_refl _)
        refine wD_callh (vs := []) rfl (by kernel_rfl) (callX_func (by simp [kcall, h48]) (by simpa using fH18)) ?_
        have mH18 := kH18.1
        have hk := hk.trans kH18
        have hw := kH18.sl0 hw
        have ha := kH18.sl0 ha
        have c1 := kH18.cl c1 (by simp)
        have c5 := kH18.cl c5 (by simp)
        have c7 := kH18.cl c7 (by simp)
        have c16 := kH18.cl c16 (by simp)
        refine wD_pur (v := .bool false) rfl (pure_eq72 rfl rfl rfl (by omega)) ?_
        refine wD_mov (v := .bool false) rfl ?_
        refine wD_g rfl (wD_lda (b := H6.next) (o := 0) rfl c7.rd (show row 16 _ _ = some [.slice g.wa g.wn g.wcap, .slice g.aa g.an g.acap, iv g.r1, iv g.r2, iv g.f1, iv g.f2, iv g.g1, iv g.g2, iv g.full, iv g.base, iv g.kill, iv g.need, iv g.bear, iv (i : Int), iv (d : Int), .int .u64 (0 : Int)] from rfl) ?_)
        refine wD_g rfl (wD_lda (b := H9.next) (o := 0) rfl c16.rd (show row 7 _ _ = some [iv (k : Int), iv (g.wl i k), iv (g.wh i k), iv (g.lo i (Nat.testBit 0) k), iv (g.sl i (Nat.testBit 0) k), iv (g.hi i (Nat.testBit 0) k), iv (g.sm i (Nat.testBit 0) k)] from rfl) ?_)
        obtain ⟨H19, fH19, kH19⟩ := hurts_ok (kn := kn) (lo := lo) (H := H18) (g := g) (s := i) (d := d) (m := 0) (k := k)
        generalize hh : decide (g.sl i (Nat.testBit 0) k > g.bear) = t at fH19
        refine wD_g rfl (wD_callf (vs := [.agg (crs g i d 0).toArray, .agg (g.st i (Nat.testBit 0) k).toArray]) rfl (callX_args fH19) ?_)
        have mH19 := kH19.1
        have hk := hk.trans kH19
        have hw := kH19.sl0 hw
        have ha := kH19.sl0 ha
        have c1 := kH19.cl c1 (by simp)
        have c5 := kH19.cl c5 (by simp)
        have c7 := kH19.cl c7 (by simp)
        have c16 := kH19.cl c16 (by simp)
        cases t
        · have hh : ¬ (g.sl i (Nat.testBit 0) k > g.bear) := of_decide_eq_false hh
          refine wD_pur (v := .bool false) rfl rfl ?_
          refine wD_end (by repeat' first | exact True.intro | exact (fun h => h) | refine And.intro ?_ ?_ | (intro h; have h : (_ : Nat) = _ := h; omega)) ?_
          refine condF ?_
          refine wD_seq ?_
          refine wD_lda (b := z1) (o := 0) rfl c5.rd (show row 7 _ _ = some [iv (k0 : Int), iv (g.wl s0 k0), iv (g.wh s0 k0), iv (g.lo s0 (Nat.testBit 0) k0), iv (g.sl s0 (Nat.testBit 0) k0), iv (g.hi s0 (Nat.testBit 0) k0), iv (g.sm s0 (Nat.testBit 0) k0)] from rfl) ?_
          obtain ⟨H20, fH20, kH20⟩ := none48_ok (kn := kn) (lo := H19.next) (H := H19) (Nat.le_refl _)
          refine wD_callh (vs := []) rfl (by kernel_rfl) (callX_func (by simp [kcall, h48]) (by simpa using fH20)) ?_
          have mH20 := kH20.1
          have hk := hk.trans kH20
          have hw := kH20.sl0 hw
          have ha := kH20.sl0 ha
          have c1 := kH20.cl c1 (by simp)
          have c5 := kH20.cl c5 (by simp)
          have c7 := kH20.cl c7 (by simp)
          have c16 := kH20.cl c16 (by simp)
          refine wD_pur (v := .bool false) rfl (pure_eq72 rfl rfl rfl (by omega)) ?_
          refine wD_mov (v := .bool false) rfl ?_
          refine wD_g rfl (wD_addo (b := H9.next) (o := 0) rfl ?_)
          refine wD_g rfl (wD_ld (b := H9.next) (o := 0) (v := iv (k : Int)) rfl c16.rd rfl ?_)
          refine wD_g rfl (wD_addo (b := z1) (o := 0) rfl ?_)
          refine wD_g rfl (wD_ld (b := z1) (o := 0) (v := iv (k0 : Int)) rfl c5.rd rfl ?_)
          refine wD_g rfl (wD_b_lss (a := (k : Int)) (b := (k0 : Int)) rfl rfl ?_)
          intro t2 g2; cases t2
          · have g2 : ¬ ((k : Int) < (k0 : Int)) := of_decide_eq_false g2
            refine wD_pur (v := .bool false) rfl rfl ?_
            refine wD_end (by repeat' first | exact True.intro | exact (fun h => h) | refine And.intro ?_ ?_ | (intro h; have h : (_ : Nat) = _ := h; omega)) ?_
            refine condF ?_
            have hnew : g.bst (i + 1) (some (s0, k0)) := Lt.bst_keep hst hk3 (by omega)
            refine And.intro (show InR ((i : Int) + 1) from ⟨by omega, by omega⟩) ?_
            have c5 : Cl H20 z1 (g.bc (some (s0, k0))) := c5
            exact ⟨q - 1, (i + 1, (some (s0, k0))), by omega, ⟨by show i + 1 + (q - 1) = g.wn + 1; omega, hk, hw, ha, c1, c5, hnew⟩, rfl, rfl, rfl, rfl, rfl, trivial⟩
          · have g2 : (k : Int) < (k0 : Int) := of_decide_eq_true g2
            refine wD_pur (v := .bool true) rfl rfl ?_
            refine wD_end (by repeat' first | exact True.intro | exact (fun h => h) | refine And.intro ?_ ?_ | (intro h; have h : (_ : Nat) = _ := h; omega)) ?_
            refine condT ?_
            have hnew : g.bst (i + 1) (some (i, k)) := Lt.bst_take hst hk3 (by omega) ⟨by omega, by omega⟩ (fun a b e => by cases e; omega)
            refine wD_dreg ?_
            refine wD_mov (v := iv (i : Int)) rfl ?_
            refine wD_lda (b := H9.next) (o := 0) rfl c16.rd (show row 7 _ _ = some [iv (k : Int), iv (g.wl i k), iv (g.wh i k), iv (g.lo i (Nat.testBit 0) k), iv (g.sl i (Nat.testBit 0) k), iv (g.hi i (Nat.testBit 0) k), iv (g.sm i (Nat.testBit 0) k)] from rfl) ?_
            refine wD_mov (v := iv (i : Int)) rfl ?_
            refine wD_sta (b := z1) (o := 0) rfl rfl c5 (by omega) rfl rfl (by simp) ?_
            intro H21 kH21 nH21 sH21
            have mH21 := kH21.1
            have hk := hk.new kH21 (fun b hb => by simp at hb ⊢; omega)
            have hw := kH21.sl hw (fun b e => by have := fw b e; first | (simp; done) | (simp; omega))
            have ha := kH21.sl ha (fun b e => by have := fa b e; first | (simp; done) | (simp; omega))
            have c1 := kH21.cl c1 (by first | (simp; done) | (simp; omega))
            have c7 := kH21.cl c7 (by first | (simp; done) | (simp; omega))
            have c16 := kH21.cl c16 (by first | (simp; done) | (simp; omega))
            have c5 : Cl H21 z1 [iv (k : Int), iv (g.wl i k), iv (g.wh i k), iv (g.lo i (Nat.testBit 0) k), iv (g.sl i (Nat.testBit 0) k), iv (g.hi i (Nat.testBit 0) k), iv (g.sm i (Nat.testBit 0) k)] := sH21
            refine wD_end (by repeat' first | exact True.intro | exact (fun h => h) | refine And.intro ?_ ?_ | (intro h; have h : (_ : Nat) = _ := h; omega)) ?_
            refine And.intro (show InR ((i : Int) + 1) from ⟨by omega, by omega⟩) ?_
            have c5 : Cl H21 z1 (g.bc (some (i, k))) := c5
            exact ⟨q - 1, (i + 1, (some (i, k))), by omega, ⟨by show i + 1 + (q - 1) = g.wn + 1; omega, hk, hw, ha, c1, c5, hnew⟩, rfl, rfl, rfl, rfl, rfl, trivial⟩
        · have hh : (g.sl i (Nat.testBit 0) k > g.bear) := of_decide_eq_true hh
          refine wD_pur (v := .bool true) rfl rfl ?_
          refine wD_end (by repeat' first | exact True.intro | exact (fun h => h) | refine And.intro ?_ ?_ | (intro h; have h : (_ : Nat) = _ := h; omega)) ?_
          refine condT ?_
          have hnew : g.bst (i + 1) (some (s0, k0)) := Lt.bst_none hst (fun e he hf => by
            have h1 := Lt.first hk3 hf; have h2 := Lt.sl_le (g := g) (s := i) (F := Nat.testBit 0) h1; have h3 := hf.2; omega)
          refine And.intro (show InR ((i : Int) + 1) from ⟨by omega, by omega⟩) ?_
          have c5 : Cl H19 z1 (g.bc (some (s0, k0))) := c5
          exact ⟨q - 1, (i + 1, (some (s0, k0))), by omega, ⟨by show i + 1 + (q - 1) = g.wn + 1; omega, hk, hw, ha, c1, c5, hnew⟩, rfl, rfl, rfl, rfl, rfl, trivial⟩
      · have c5 : Cl H9 z1 [iv (-1), iv 0, iv 0, iv 0, iv 0, iv 0, iv 0] := c5
        refine Exists.intro _ (Exists.intro _ (And.intro (callX_args fH9) ?_))
        intro H22 hH22; obtain ⟨kH22, nH22, c22⟩ := new_facts hH22; clear hH22
        have c22 : Cl H22 H9.next [iv 0, iv 0, iv 0, iv 0, iv 0, iv 0, iv 0] := c22
        have mH22 := kH22.1
        have hk := hk.trans kH22
        have hw := kH22.sl0 hw
        have ha := kH22.sl0 ha
        have c1 := kH22.cl c1 (by simp)
        have c5 := kH22.cl c5 (by simp)
        have c7 := kH22.cl c7 (by simp)
        obtain ⟨_, eH23, lH23, gH23⟩ := id c22
        refine Exists.intro _ (Exists.intro _ (Exists.intro _ (And.intro gH23 (And.intro (by omega) (And.intro rfl (And.intro rfl (And.intro (by simp) ?_)))))))
        intro H23 hH23; obtain ⟨kH23, nH23, sH23⟩ := up_facts c22 hH23; clear hH23
        have mH23 := kH23.1
        have hk := hk.new kH23 (fun b hb => by simp at hb ⊢; omega)
        have hw := kH23.sl hw (fun b e => by have := fw b e; first | (simp; done) | (simp; omega))
        have ha := kH23.sl ha (fun b e => by have := fa b e; first | (simp; done) | (simp; omega))
        have c1 := kH23.cl c1 (by first | (simp; done) | (simp; omega))
        have c5 := kH23.cl c5 (by first | (simp; done) | (simp; omega))
        have c7 := kH23.cl c7 (by first | (simp; done) | (simp; omega))
        have c22 : Cl H23 H9.next [iv (-1), iv 0, iv 0, iv 0, iv 0, iv 0, iv 0] := sH23
        refine wD_seq ?_
        refine wD_lda (b := H9.next) (o := 0) rfl c22.rd (show row 7 _ _ = some [iv (-1), iv 0, iv 0, iv 0, iv 0, iv 0, iv 0] from rfl) ?_
        obtain ⟨H24, fH24, kH24⟩ := none48_ok (kn := kn) (lo := H23.next) (H := H23) (Nat.le_refl _)
        refine wD_callh (vs := []) rfl (by kernel_rfl) (callX_func (by simp [kcall, h48]) (by simpa using fH24)) ?_
        have mH24 := kH24.1
        have hk := hk.trans kH24
        have hw := kH24.sl0 hw
        have ha := kH24.sl0 ha
        have c1 := kH24.cl c1 (by simp)
        have c5 := kH24.cl c5 (by simp)
        have c7 := kH24.cl c7 (by simp)
        have c22 := kH24.cl c22 (by simp)
        refine wD_pur (v := .bool true) rfl (pure_eq72n rfl rfl) ?_
        refine wD_mov (v := .bool true) rfl ?_
        refine wD_gs rfl ?_
        refine wD_gs rfl ?_
        refine wD_gs rfl ?_
        refine wD_pur (v := .bool true) rfl rfl ?_
        refine wD_end (by repeat' first | exact True.intro | exact (fun h => h) | refine And.intro ?_ ?_ | (intro h; have h : (_ : Nat) = _ := h; omega)) ?_
        refine condT ?_
        have hnew : g.bst (i + 1) none := Lt.bst_none hst (fun e he hf => by
          have h1 := of_decide_eq_true (hall e (by omega)); have h3 := hf.1; omega)
        refine And.intro (show InR ((i : Int) + 1) from ⟨by omega, by omega⟩) ?_
        have c5 : Cl H24 z1 (g.bc none) := c5
        exact ⟨q - 1, (i + 1, none), by omega, ⟨by show i + 1 + (q - 1) = g.wn + 1; omega, hk, hw, ha, c1, c5, hnew⟩, rfl, rfl, rfl, rfl, rfl, trivial⟩
      · have c5 : Cl H9 z1 [iv (k0 : Int), iv (g.wl s0 k0), iv (g.wh s0 k0), iv (g.lo s0 (Nat.testBit 0) k0), iv (g.sl s0 (Nat.testBit 0) k0), iv (g.hi s0 (Nat.testBit 0) k0), iv (g.sm s0 (Nat.testBit 0) k0)] := c5
        refine Exists.intro _ (Exists.intro _ (And.intro (callX_args fH9) ?_))
        intro H25 hH25; obtain ⟨kH25, nH25, c25⟩ := new_facts hH25; clear hH25
        have c25 : Cl H25 H9.next [iv 0, iv 0, iv 0, iv 0, iv 0, iv 0, iv 0] := c25
        have mH25 := kH25.1
        have hk := hk.trans kH25
        have hw := kH25.sl0 hw
        have ha := kH25.sl0 ha
        have c1 := kH25.cl c1 (by simp)
        have c5 := kH25.cl c5 (by simp)
        have c7 := kH25.cl c7 (by simp)
        obtain ⟨_, eH26, lH26, gH26⟩ := id c25
        refine Exists.intro _ (Exists.intro _ (Exists.intro _ (And.intro gH26 (And.intro (by omega) (And.intro rfl (And.intro rfl (And.intro (by simp) ?_)))))))
        intro H26 hH26; obtain ⟨kH26, nH26, sH26⟩ := up_facts c25 hH26; clear hH26
        have mH26 := kH26.1
        have hk := hk.new kH26 (fun b hb => by simp at hb ⊢; omega)
        have hw := kH26.sl hw (fun b e => by have := fw b e; first | (simp; done) | (simp; omega))
        have ha := kH26.sl ha (fun b e => by have := fa b e; first | (simp; done) | (simp; omega))
        have c1 := kH26.cl c1 (by first | (simp; done) | (simp; omega))
        have c5 := kH26.cl c5 (by first | (simp; done) | (simp; omega))
        have c7 := kH26.cl c7 (by first | (simp; done) | (simp; omega))
        have c25 : Cl H26 H9.next [iv (-1), iv 0, iv 0, iv 0, iv 0, iv 0, iv 0] := sH26
        refine wD_seq ?_
        refine wD_lda (b := H9.next) (o := 0) rfl c25.rd (show row 7 _ _ = some [iv (-1), iv 0, iv 0, iv 0, iv 0, iv 0, iv 0] from rfl) ?_
        obtain ⟨H27, fH27, kH27⟩ := none48_ok (kn := kn) (lo := H26.next) (H := H26) (Nat.le_refl _)
        refine wD_callh (vs := []) rfl (by kernel_rfl) (callX_func (by simp [kcall, h48]) (by simpa using fH27)) ?_
        have mH27 := kH27.1
        have hk := hk.trans kH27
        have hw := kH27.sl0 hw
        have ha := kH27.sl0 ha
        have c1 := kH27.cl c1 (by simp)
        have c5 := kH27.cl c5 (by simp)
        have c7 := kH27.cl c7 (by simp)
        have c25 := kH27.cl c25 (by simp)
        refine wD_pur (v := .bool true) rfl (pure_eq72n rfl rfl) ?_
        refine wD_mov (v := .bool true) rfl ?_
        refine wD_gs rfl ?_
        refine wD_gs rfl ?_
        refine wD_gs rfl ?_
        refine wD_pur (v := .bool true) rfl rfl ?_
        refine wD_end (by repeat' first | exact True.intro | exact (fun h => h) | refine And.intro ?_ ?_ | (intro h; have h : (_ : Nat) = _ := h; omega)) ?_
        refine condT ?_
        have hnew : g.bst (i + 1) (some (s0, k0)) := Lt.bst_none hst (fun e he hf => by
          have h1 := of_decide_eq_true (hall e (by omega)); have h3 := hf.1; omega)
        refine And.intro (show InR ((i : Int) + 1) from ⟨by omega, by omega⟩) ?_
        have c5 : Cl H27 z1 (g.bc (some (s0, k0))) := c5
        exact ⟨q - 1, (i + 1, (some (s0, k0))), by omega, ⟨by show i + 1 + (q - 1) = g.wn + 1; omega, hk, hw, ha, c1, c5, hnew⟩, rfl, rfl, rfl, rfl, rfl, trivial⟩
    · have q1 : ¬ ((i : Int) < ((g.wn : Int) + 1)) := of_decide_eq_false q1
      have hi : i = g.wn + 1 := by omega
      subst hi
      rcases o with _ | ⟨s0, k0⟩
      · have c5 : Cl L1 z1 [iv (-1), iv 0, iv 0, iv 0, iv 0, iv 0, iv 0] := c5
        refine wD_seq ?_
        refine wD_lda (b := z1) (o := 0) rfl c5.rd (show row 7 _ _ = some [iv (-1), iv 0, iv 0, iv 0, iv 0, iv 0, iv 0] from rfl) ?_
        obtain ⟨H28, fH28, kH28⟩ := none48_ok (kn := kn) (lo := L1.next) (H := L1) (Nat.le_refl _)
        refine wD_callh (vs := []) rfl (by kernel_rfl) (callX_func (by simp [kcall, h48]) (by simpa using fH28)) ?_
        have mH28 := kH28.1
        have hk := hk.trans kH28
        have hw := kH28.sl0 hw
        have ha := kH28.sl0 ha
        have c1 := kH28.cl c1 (by simp)
        have c5 := kH28.cl c5 (by simp)
        refine wD_pur (v := .bool true) rfl (pure_eq72n rfl rfl) ?_
        refine wD_end (by repeat' first | exact True.intro | exact (fun h => h) | refine And.intro ?_ ?_ | (intro h; have h : (_ : Nat) = _ := h; omega)) ?_
        refine condT ?_
        exact And.intro trivial (Exists.intro _ (And.intro rfl ⟨hk, Or.inr (Or.inl ⟨hok, fun s d h => hst s d (by omega) h, rfl⟩)⟩))
      · have c5 : Cl L1 z1 [iv (k0 : Int), iv (g.wl s0 k0), iv (g.wh s0 k0), iv (g.lo s0 (Nat.testBit 0) k0), iv (g.sl s0 (Nat.testBit 0) k0), iv (g.hi s0 (Nat.testBit 0) k0), iv (g.sm s0 (Nat.testBit 0) k0)] := c5
        refine wD_seq ?_
        refine wD_lda (b := z1) (o := 0) rfl c5.rd (show row 7 _ _ = some [iv (k0 : Int), iv (g.wl s0 k0), iv (g.wh s0 k0), iv (g.lo s0 (Nat.testBit 0) k0), iv (g.sl s0 (Nat.testBit 0) k0), iv (g.hi s0 (Nat.testBit 0) k0), iv (g.sm s0 (Nat.testBit 0) k0)] from rfl) ?_
        obtain ⟨H29, fH29, kH29⟩ := none48_ok (kn := kn) (lo := L1.next) (H := L1) (Nat.le_refl _)
        refine wD_callh (vs := []) rfl (by kernel_rfl) (callX_func (by simp [kcall, h48]) (by simpa using fH29)) ?_
        have mH29 := kH29.1
        have hk := hk.trans kH29
        have hw := kH29.sl0 hw
        have ha := kH29.sl0 ha
        have c1 := kH29.cl c1 (by simp)
        have c5 := kH29.cl c5 (by simp)
        refine wD_pur (v := .bool false) rfl (pure_eq72 rfl rfl rfl (by omega)) ?_
        refine wD_end (by repeat' first | exact True.intro | exact (fun h => h) | refine And.intro ?_ ?_ | (intro h; have h : (_ : Nat) = _ := h; omega)) ?_
        refine condF ?_
        refine wD_seq ?_
        refine wD_mov (v := iv (s0 : Int)) rfl ?_
        refine wD_addo (b := z1) (o := 0) rfl ?_
        refine wD_ld (b := z1) (o := 0) (v := iv (k0 : Int)) rfl c5.rd rfl ?_
        refine wD_mov (v := iv (s0 : Int)) rfl ?_
        refine wD_mov (v := iv (k0 : Int)) rfl ?_
        refine wD_mov (v := iv 0) rfl ?_
        refine wD_end (by repeat' first | exact True.intro | exact (fun h => h) | refine And.intro ?_ ?_ | (intro h; have h : (_ : Nat) = _ := h; omega)) ?_
        exact And.intro trivial (Exists.intro _ (And.intro rfl ⟨hk, Or.inr (Or.inr ⟨hok, s0, k0, hst.2.1, hst.2.2.1, fun s d h => hst.2.2.2 s d (by omega) h, rfl⟩)⟩))
end
end Go.Ax

/-! What 'low' makes of more functions of late (written by program). -/
namespace Go.Ax
open Go Go.RowKit Go.Proofs
theorem N4 : Try.f4.ntmps = 106 := by kernel_rfl
theorem Z4 : Try.f4.results.toList = ((List.toArray [(.tmp 4)]) : Array ResultVar).toList := by kernel_rfl
theorem B4 : Try.f4.body = some (at_ Try.f4 []) := by kernel_rfl
noncomputable def R4 : RC := (.seq (.reg [⟨(some 2), none, (.box 26 (.tmp 0))⟩, ⟨(some 4), none, (.mov (.const (.bool false)))⟩])
  (.seq (.seq (.reg [⟨(some 19), none, (.lda (.tmp 2) 13)⟩, ⟨(some 20), none, (.call ⟨(.value (.func 13)), (List.toArray [(.tmp 19), (.const (.slice none 0 0))]), (List.toArray [26, 27])⟩ true)⟩, ⟨(some 21), none, (.mov (.tmp 20))⟩, ⟨(some 22), (some (21, false)), (.addo (.tmp 2) 0)⟩, ⟨(some 23), (some (21, false)), (.ld (.tmp 22) 1)⟩, ⟨(some 24), (some (21, false)), (.len (.tmp 23))⟩, ⟨(some 25), (some (21, false)), (.cmpb .gtr (.tmp 24) (.const (.int .i64 20)))⟩, ⟨(some 26), (some (21, false)), (.mov (.tmp 25))⟩, ⟨(some 27), (some (26, true)), (.addo (.tmp 2) 0)⟩, ⟨(some 28), (some (26, true)), (.ld (.tmp 27) 1)⟩, ⟨(some 29), (some (26, true)), (.len (.tmp 28))⟩, ⟨(some 30), (some (26, true)), (.cmpb .leq (.tmp 29) (.const (.int .i64 40)))⟩, ⟨(some 31), (some (21, false)), (.pur ⟨(some 31), (.pick (.tmp 26) (.tmp 30) (.const (.bool false))), 4, "", (List.toArray []), none⟩)⟩, ⟨(some 32), none, (.pur ⟨(some 32), (.pick (.tmp 21) (.const (.bool true)) (.tmp 31)), 4, "", (List.toArray []), none⟩)⟩])
  (.cond (.tmp 32) (.seq (.reg [⟨(some 33), none, (.call ⟨(.value (.func 14)), (List.toArray []), (List.toArray [])⟩ true)⟩, ⟨(some 4), none, (.mov (.tmp 33))⟩])
  .ret)
  .skip))
  (.seq (.reg [⟨(some 35), none, (.lda (.tmp 2) 13)⟩, ⟨(some 36), none, (.mov (.tmp 1))⟩, ⟨(some 37), none, (.call ⟨(.value (.func 22)), (List.toArray [(.tmp 35), (.tmp 36)]), (List.toArray [26, 3])⟩ true)⟩, ⟨(some 34), none, (.mov (.tmp 37))⟩, ⟨(some 38), none, (.pur ⟨(some 38), (.extract (.tmp 34) 0), 3, "", (List.toArray []), none⟩)⟩, ⟨(some 39), none, (.pur ⟨(some 39), (.extract (.tmp 34) 1), 30, "", (List.toArray []), none⟩)⟩, ⟨(some 5), none, (.mov (.tmp 38))⟩, ⟨(some 6), none, (.mov (.tmp 39))⟩])
  (.seq (.reg [⟨(some 41), none, (.lda (.tmp 2) 13)⟩, ⟨(some 42), none, (.mov (.tmp 1))⟩, ⟨(some 43), none, (.call ⟨(.value (.func 23)), (List.toArray [(.tmp 41), (.tmp 42)]), (List.toArray [26, 3])⟩ true)⟩, ⟨(some 40), none, (.mov (.tmp 43))⟩, ⟨(some 44), none, (.pur ⟨(some 44), (.extract (.tmp 40) 0), 3, "", (List.toArray []), none⟩)⟩, ⟨(some 45), none, (.pur ⟨(some 45), (.extract (.tmp 40) 1), 30, "", (List.toArray []), none⟩)⟩, ⟨(some 7), none, (.mov (.tmp 44))⟩, ⟨(some 8), none, (.mov (.tmp 45))⟩])
  (.seq (.reg [⟨(some 47), none, (.lda (.tmp 2) 13)⟩, ⟨(some 48), none, (.mov (.tmp 1))⟩, ⟨(some 49), none, (.call ⟨(.value (.func 24)), (List.toArray [(.tmp 47), (.tmp 48)]), (List.toArray [26, 3])⟩ true)⟩, ⟨(some 46), none, (.mov (.tmp 49))⟩, ⟨(some 50), none, (.pur ⟨(some 50), (.extract (.tmp 46) 0), 3, "", (List.toArray []), none⟩)⟩, ⟨(some 51), none, (.pur ⟨(some 51), (.extract (.tmp 46) 1), 30, "", (List.toArray []), none⟩)⟩, ⟨(some 9), none, (.mov (.tmp 50))⟩, ⟨(some 10), none, (.mov (.tmp 51))⟩])
  (.seq (.reg [⟨(some 53), none, (.lda (.tmp 2) 13)⟩, ⟨(some 54), none, (.mov (.tmp 1))⟩, ⟨(some 55), none, (.call ⟨(.value (.func 25)), (List.toArray [(.tmp 53), (.tmp 54)]), (List.toArray [26, 3])⟩ true)⟩, ⟨(some 52), none, (.mov (.tmp 55))⟩, ⟨(some 56), none, (.pur ⟨(some 56), (.extract (.tmp 52) 0), 3, "", (List.toArray []), none⟩)⟩, ⟨(some 57), none, (.pur ⟨(some 57), (.extract (.tmp 52) 1), 30, "", (List.toArray []), none⟩)⟩, ⟨(some 11), none, (.mov (.tmp 56))⟩, ⟨(some 12), none, (.mov (.tmp 57))⟩])
  (.seq (.reg [⟨(some 59), none, (.lda (.tmp 2) 13)⟩, ⟨(some 60), none, (.call ⟨(.value (.func 26)), (List.toArray [(.tmp 59)]), (List.toArray [26])⟩ true)⟩, ⟨(some 58), none, (.mov (.tmp 60))⟩, ⟨(some 61), none, (.pur ⟨(some 61), (.extract (.tmp 58) 0), 3, "", (List.toArray []), none⟩)⟩, ⟨(some 62), none, (.pur ⟨(some 62), (.extract (.tmp 58) 1), 3, "", (List.toArray []), none⟩)⟩, ⟨(some 63), none, (.pur ⟨(some 63), (.extract (.tmp 58) 2), 30, "", (List.toArray []), none⟩)⟩, ⟨(some 13), none, (.mov (.tmp 61))⟩, ⟨(some 14), none, (.mov (.tmp 62))⟩, ⟨(some 15), none, (.mov (.tmp 63))⟩])
  (.seq (.reg [⟨(some 65), none, (.lda (.tmp 2) 13)⟩, ⟨(some 66), none, (.call ⟨(.value (.func 27)), (List.toArray [(.tmp 65)]), (List.toArray [26])⟩ true)⟩, ⟨(some 64), none, (.mov (.tmp 66))⟩, ⟨(some 67), none, (.pur ⟨(some 67), (.extract (.tmp 64) 0), 3, "", (List.toArray []), none⟩)⟩, ⟨(some 68), none, (.pur ⟨(some 68), (.extract (.tmp 64) 1), 3, "", (List.toArray []), none⟩)⟩, ⟨(some 69), none, (.pur ⟨(some 69), (.extract (.tmp 64) 2), 30, "", (List.toArray []), none⟩)⟩, ⟨(some 16), none, (.mov (.tmp 67))⟩, ⟨(some 17), none, (.mov (.tmp 68))⟩, ⟨(some 18), none, (.mov (.tmp 69))⟩])
  (.seq (.reg [⟨(some 70), none, (.mov (.tmp 5))⟩, ⟨(some 71), none, (.mov (.tmp 7))⟩, ⟨(some 72), none, (.cmpb .eql (.tmp 70) (.tmp 71))⟩, ⟨(some 73), none, (.mov (.tmp 72))⟩, ⟨(some 74), (some (73, true)), (.mov (.tmp 6))⟩, ⟨(some 75), (some (73, true)), (.mov (.tmp 8))⟩, ⟨(some 76), (some (73, true)), (.cmpb .eql (.tmp 74) (.tmp 75))⟩, ⟨(some 77), none, (.pur ⟨(some 77), (.pick (.tmp 73) (.tmp 76) (.const (.bool false))), 4, "", (List.toArray []), none⟩)⟩, ⟨(some 78), none, (.mov (.tmp 77))⟩, ⟨(some 79), (some (78, true)), (.mov (.tmp 9))⟩, ⟨(some 80), (some (78, true)), (.mov (.tmp 11))⟩, ⟨(some 81), (some (78, true)), (.cmpb .eql (.tmp 79) (.tmp 80))⟩, ⟨(some 82), none, (.pur ⟨(some 82), (.pick (.tmp 78) (.tmp 81) (.const (.bool false))), 4, "", (List.toArray []), none⟩)⟩, ⟨(some 83), none, (.mov (.tmp 82))⟩, ⟨(some 84), (some (83, true)), (.mov (.tmp 10))⟩, ⟨(some 85), (some (83, true)), (.mov (.tmp 12))⟩, ⟨(some 86), (some (83, true)), (.cmpb .eql (.tmp 84) (.tmp 85))⟩, ⟨(some 87), none, (.pur ⟨(some 87), (.pick (.tmp 83) (.tmp 86) (.const (.bool false))), 4, "", (List.toArray []), none⟩)⟩, ⟨(some 88), none, (.mov (.tmp 87))⟩, ⟨(some 89), (some (88, true)), (.mov (.tmp 13))⟩, ⟨(some 90), (some (88, true)), (.mov (.tmp 16))⟩, ⟨(some 91), (some (88, true)), (.cmpb .eql (.tmp 89) (.tmp 90))⟩, ⟨(some 92), none, (.pur ⟨(some 92), (.pick (.tmp 88) (.tmp 91) (.const (.bool false))), 4, "", (List.toArray []), none⟩)⟩, ⟨(some 93), none, (.mov (.tmp 92))⟩, ⟨(some 94), (some (93, true)), (.mov (.tmp 14))⟩, ⟨(some 95), (some (93, true)), (.mov (.tmp 17))⟩, ⟨(some 96), (some (93, true)), (.cmpb .eql (.tmp 94) (.tmp 95))⟩, ⟨(some 97), none, (.pur ⟨(some 97), (.pick (.tmp 93) (.tmp 96) (.const (.bool false))), 4, "", (List.toArray []), none⟩)⟩, ⟨(some 98), none, (.mov (.tmp 97))⟩, ⟨(some 99), (some (98, true)), (.mov (.tmp 15))⟩, ⟨(some 100), (some (98, true)), (.mov (.tmp 18))⟩, ⟨(some 101), (some (98, true)), (.cmpb .eql (.tmp 99) (.tmp 100))⟩, ⟨(some 102), none, (.pur ⟨(some 102), (.pick (.tmp 98) (.tmp 101) (.const (.bool false))), 4, "", (List.toArray []), none⟩)⟩, ⟨(some 103), none, (.mov (.tmp 102))⟩, ⟨(some 104), (some (103, true)), (.call ⟨(.value (.func 14)), (List.toArray []), (List.toArray [])⟩ true)⟩, ⟨(some 105), none, (.pur ⟨(some 105), (.pick (.tmp 103) (.tmp 104) (.const (.bool false))), 4, "", (List.toArray []), none⟩)⟩, ⟨(some 4), none, (.mov (.tmp 105))⟩])
  .ret)))))))))
theorem L4 : low Try.prog Try.f4.ntmps (at_ Try.f4 []) = some R4 := by kernel_rfl
theorem N23 : Try.f23.ntmps = 37 := by kernel_rfl
theorem Z23 : Try.f23.results.toList = ((List.toArray [(.tmp 4), (.tmp 5)]) : Array ResultVar).toList := by kernel_rfl
theorem B23 : Try.f23.body = some (at_ Try.f23 []) := by kernel_rfl
noncomputable def R23 : RC := (.seq (.reg [⟨(some 2), none, (.box 26 (.tmp 0))⟩, ⟨(some 4), none, (.mov (.const (.int .i64 0)))⟩, ⟨(some 5), none, (.mov (.const (.int .i64 0)))⟩])
  (.seq (.seq (.reg [⟨(some 9), none, (.lda (.tmp 2) 13)⟩, ⟨(some 10), none, (.call ⟨(.value (.func 33)), (List.toArray [(.tmp 9)]), (List.toArray [26])⟩ true)⟩, ⟨(some 11), none, (.pur ⟨(some 11), (.unOp .not 4 (.tmp 10)), 4, "", (List.toArray []), none⟩)⟩])
  (.cond (.tmp 11) (.seq (.reg [⟨(some 4), none, (.mov (.const (.int .i64 0)))⟩, ⟨(some 5), none, (.mov (.const (.int .i64 1)))⟩])
  .ret)
  .skip))
  (.seq (.seq (.reg [⟨(some 12), none, (.mov (.tmp 1))⟩, ⟨(some 13), none, (.addo (.tmp 2) 0)⟩, ⟨(some 14), none, (.ld (.tmp 13) 1)⟩, ⟨(some 15), none, (.len (.tmp 14))⟩, ⟨(some 16), none, (.call ⟨(.value (.func 49)), (List.toArray [(.tmp 12), (.const (.int .i64 0)), (.tmp 15)]), (List.toArray [3, 3, 3])⟩ true)⟩, ⟨(some 17), none, (.pur ⟨(some 17), (.unOp .not 4 (.tmp 16)), 4, "", (List.toArray []), none⟩)⟩])
  (.cond (.tmp 17) (.seq (.reg [⟨(some 4), none, (.mov (.const (.int .i64 0)))⟩, ⟨(some 5), none, (.mov (.const (.int .i64 2)))⟩])
  .ret)
  .skip))
  (.seq (.seq (.reg [⟨(some 6), none, (.mov (.const (.int .i64 0)))⟩])
  (.block 0 (.other (at_ Try.f23 [1, 1, 1, 0, 1, 0]))))
  (.seq (.reg [⟨(some 4), none, (.mov (.const (.int .i64 0)))⟩, ⟨(some 5), none, (.mov (.const (.int .i64 4)))⟩])
  .ret)))))
theorem L23 : low Try.prog Try.f23.ntmps (at_ Try.f23 []) = some R23 := by kernel_rfl
theorem E23_1 : at_ Try.f23 [1, 1, 1, 0, 1, 0] = .loop (at_ Try.f23 [1, 1, 1, 0, 1, 0, 0]) := by kernel_rfl
noncomputable def R23x1 : RC := (.seq (.seq (.reg [⟨(some 18), none, (.mov (.tmp 6))⟩, ⟨(some 19), none, (.addo (.tmp 2) 0)⟩, ⟨(some 20), none, (.ld (.tmp 19) 1)⟩, ⟨(some 21), none, (.len (.tmp 20))⟩, ⟨(some 22), none, (.mov (.tmp 1))⟩, ⟨(some 23), none, (.ari .sub (.tmp 21) (.tmp 22))⟩, ⟨(some 24), none, (.cmp .leq (.tmp 18) (.tmp 23))⟩])
  (.cond (.tmp 24) .skip
  (.exit 0)))
  (.seq (.block 1 (.seq (.reg [⟨(some 28), none, (.lda (.tmp 2) 13)⟩, ⟨(some 29), none, (.mov (.tmp 1))⟩, ⟨(some 30), none, (.mov (.tmp 6))⟩, ⟨(some 31), none, (.call ⟨(.value (.func 45)), (List.toArray [(.tmp 28), (.tmp 29), (.tmp 30), (.const (.slice none 0 0))]), (List.toArray [26, 3, 3, 27])⟩ true)⟩, ⟨(some 27), none, (.mov (.tmp 31))⟩, ⟨(some 32), none, (.pur ⟨(some 32), (.extract (.tmp 27) 0), 3, "", (List.toArray []), none⟩)⟩, ⟨(some 33), none, (.pur ⟨(some 33), (.extract (.tmp 27) 1), 3, "", (List.toArray []), none⟩)⟩, ⟨(some 7), none, (.mov (.tmp 32))⟩, ⟨(some 8), none, (.mov (.tmp 33))⟩])
  (.seq (.reg [⟨(some 34), none, (.mov (.tmp 7))⟩, ⟨(some 35), none, (.cmp .eql (.tmp 34) (.const (.int .i64 2)))⟩])
  (.cond (.tmp 35) (.seq (.reg [⟨(some 36), none, (.mov (.tmp 6))⟩, ⟨(some 4), none, (.mov (.tmp 36))⟩, ⟨(some 5), none, (.mov (.const (.int .i64 0)))⟩])
  .ret)
  .skip))))
  (.reg [⟨(some 25), none, (.mov (.tmp 6))⟩, ⟨(some 26), none, (.ari .add (.tmp 25) (.const (.int .i64 1)))⟩, ⟨(some 6), none, (.mov (.tmp 26))⟩])))
theorem L23x1 : low Try.prog Try.f23.ntmps (at_ Try.f23 [1, 1, 1, 0, 1, 0, 0]) = some R23x1 := by kernel_rfl
theorem N25 : Try.f25.ntmps = 39 := by kernel_rfl
theorem Z25 : Try.f25.results.toList = ((List.toArray [(.tmp 4), (.tmp 5)]) : Array ResultVar).toList := by kernel_rfl
theorem B25 : Try.f25.body = some (at_ Try.f25 []) := by kernel_rfl
noncomputable def R25 : RC := (.seq (.reg [⟨(some 2), none, (.box 26 (.tmp 0))⟩, ⟨(some 4), none, (.mov (.const (.int .i64 0)))⟩, ⟨(some 5), none, (.mov (.const (.int .i64 0)))⟩])
  (.seq (.seq (.reg [⟨(some 10), none, (.lda (.tmp 2) 13)⟩, ⟨(some 11), none, (.call ⟨(.value (.func 33)), (List.toArray [(.tmp 10)]), (List.toArray [26])⟩ true)⟩, ⟨(some 12), none, (.pur ⟨(some 12), (.unOp .not 4 (.tmp 11)), 4, "", (List.toArray []), none⟩)⟩])
  (.cond (.tmp 12) (.seq (.reg [⟨(some 4), none, (.mov (.const (.int .i64 0)))⟩, ⟨(some 5), none, (.mov (.const (.int .i64 1)))⟩])
  .ret)
  .skip))
  (.seq (.seq (.reg [⟨(some 13), none, (.mov (.tmp 1))⟩, ⟨(some 14), none, (.addo (.tmp 2) 0)⟩, ⟨(some 15), none, (.ld (.tmp 14) 1)⟩, ⟨(some 16), none, (.len (.tmp 15))⟩, ⟨(some 17), none, (.call ⟨(.value (.func 49)), (List.toArray [(.tmp 13), (.const (.int .i64 0)), (.tmp 16)]), (List.toArray [3, 3, 3])⟩ true)⟩, ⟨(some 18), none, (.pur ⟨(some 18), (.unOp .not 4 (.tmp 17)), 4, "", (List.toArray []), none⟩)⟩])
  (.cond (.tmp 18) (.seq (.reg [⟨(some 4), none, (.mov (.const (.int .i64 0)))⟩, ⟨(some 5), none, (.mov (.const (.int .i64 2)))⟩])
  .ret)
  .skip))
  (.seq (.reg [⟨(some 6), none, (.mov (.const (.int .i64 0)))⟩])
  (.seq (.seq (.reg [⟨(some 7), none, (.mov (.const (.int .i64 0)))⟩])
  (.block 0 (.other (at_ Try.f25 [1, 1, 1, 1, 0, 1, 0]))))
  (.seq (.reg [⟨(some 38), none, (.mov (.tmp 6))⟩, ⟨(some 4), none, (.mov (.tmp 38))⟩, ⟨(some 5), none, (.mov (.const (.int .i64 0)))⟩])
  .ret))))))
theorem L25 : low Try.prog Try.f25.ntmps (at_ Try.f25 []) = some R25 := by kernel_rfl
theorem E25_1 : at_ Try.f25 [1, 1, 1, 1, 0, 1, 0] = .loop (at_ Try.f25 [1, 1, 1, 1, 0, 1, 0, 0]) := by kernel_rfl
noncomputable def R25x1 : RC := (.seq (.seq (.reg [⟨(some 19), none, (.mov (.tmp 7))⟩, ⟨(some 20), none, (.addo (.tmp 2) 0)⟩, ⟨(some 21), none, (.ld (.tmp 20) 1)⟩, ⟨(some 22), none, (.len (.tmp 21))⟩, ⟨(some 23), none, (.mov (.tmp 1))⟩, ⟨(some 24), none, (.ari .sub (.tmp 22) (.tmp 23))⟩, ⟨(some 25), none, (.cmp .leq (.tmp 19) (.tmp 24))⟩])
  (.cond (.tmp 25) .skip
  (.exit 0)))
  (.seq (.block 1 (.seq (.reg [⟨(some 29), none, (.lda (.tmp 2) 13)⟩, ⟨(some 30), none, (.mov (.tmp 1))⟩, ⟨(some 31), none, (.mov (.tmp 7))⟩, ⟨(some 32), none, (.call ⟨(.value (.func 45)), (List.toArray [(.tmp 29), (.tmp 30), (.tmp 31), (.const (.slice none 0 0))]), (List.toArray [26, 3, 3, 27])⟩ true)⟩, ⟨(some 28), none, (.mov (.tmp 32))⟩, ⟨(some 33), none, (.pur ⟨(some 33), (.extract (.tmp 28) 0), 3, "", (List.toArray []), none⟩)⟩, ⟨(some 34), none, (.pur ⟨(some 34), (.extract (.tmp 28) 1), 3, "", (List.toArray []), none⟩)⟩, ⟨(some 8), none, (.mov (.tmp 33))⟩, ⟨(some 9), none, (.mov (.tmp 34))⟩])
  (.seq (.reg [⟨(some 35), none, (.mov (.tmp 9))⟩, ⟨(some 36), none, (.cmp .eql (.tmp 35) (.const (.int .i64 0)))⟩])
  (.cond (.tmp 36) (.reg [⟨(some 37), none, (.mov (.tmp 7))⟩, ⟨(some 6), none, (.mov (.tmp 37))⟩])
  .skip))))
  (.reg [⟨(some 26), none, (.mov (.tmp 7))⟩, ⟨(some 27), none, (.ari .add (.tmp 26) (.const (.int .i64 1)))⟩, ⟨(some 7), none, (.mov (.tmp 27))⟩])))
theorem L25x1 : low Try.prog Try.f25.ntmps (at_ Try.f25 [1, 1, 1, 1, 0, 1, 0, 0]) = some R25x1 := by kernel_rfl
theorem N27 : Try.f27.ntmps = 43 := by kernel_rfl
theorem Z27 : Try.f27.results.toList = ((List.toArray [(.tmp 2), (.tmp 3), (.tmp 4)]) : Array ResultVar).toList := by kernel_rfl
theorem B27 : Try.f27.body = some (at_ Try.f27 []) := by kernel_rfl
noncomputable def R27 : RC := (.seq (.reg [⟨(some 1), none, (.box 26 (.tmp 0))⟩, ⟨(some 2), none, (.mov (.const (.int .i64 0)))⟩, ⟨(some 3), none, (.mov (.const (.int .i64 0)))⟩, ⟨(some 4), none, (.mov (.const (.int .i64 0)))⟩])
  (.seq (.seq (.reg [⟨(some 9), none, (.lda (.tmp 1) 13)⟩, ⟨(some 10), none, (.call ⟨(.value (.func 33)), (List.toArray [(.tmp 9)]), (List.toArray [26])⟩ true)⟩, ⟨(some 11), none, (.pur ⟨(some 11), (.unOp .not 4 (.tmp 10)), 4, "", (List.toArray []), none⟩)⟩])
  (.cond (.tmp 11) (.seq (.reg [⟨(some 2), none, (.mov (.const (.int .i64 0)))⟩, ⟨(some 3), none, (.mov (.const (.int .i64 0)))⟩, ⟨(some 4), none, (.mov (.const (.int .i64 1)))⟩])
  .ret)
  .skip))
  (.seq (.seq (.reg [⟨(some 5), none, (.mov (.const (.int .i64 0)))⟩])
  (.block 0 (.other (at_ Try.f27 [1, 1, 0, 1, 0]))))
  (.seq (.reg [⟨(some 2), none, (.mov (.const (.int .i64 0)))⟩, ⟨(some 3), none, (.mov (.const (.int .i64 0)))⟩, ⟨(some 4), none, (.mov (.const (.int .i64 4)))⟩])
  .ret))))
theorem L27 : low Try.prog Try.f27.ntmps (at_ Try.f27 []) = some R27 := by kernel_rfl
theorem E27_1 : at_ Try.f27 [1, 1, 0, 1, 0] = .loop (at_ Try.f27 [1, 1, 0, 1, 0, 0]) := by kernel_rfl
noncomputable def R27x1 : RC := (.seq (.seq (.reg [⟨(some 12), none, (.mov (.tmp 5))⟩, ⟨(some 13), none, (.addo (.tmp 1) 0)⟩, ⟨(some 14), none, (.ld (.tmp 13) 1)⟩, ⟨(some 15), none, (.len (.tmp 14))⟩, ⟨(some 16), none, (.cmp .leq (.tmp 12) (.tmp 15))⟩])
  (.cond (.tmp 16) .skip
  (.exit 0)))
  (.seq (.block 1 (.seq (.reg [⟨(some 6), none, (.mov (.const (.int .i64 0)))⟩])
  (.block 2 (.other (at_ Try.f27 [1, 1, 0, 1, 0, 0, 1, 0, 0, 1, 0])))))
  (.reg [⟨(some 17), none, (.mov (.tmp 5))⟩, ⟨(some 18), none, (.ari .add (.tmp 17) (.const (.int .i64 1)))⟩, ⟨(some 5), none, (.mov (.tmp 18))⟩])))
theorem L27x1 : low Try.prog Try.f27.ntmps (at_ Try.f27 [1, 1, 0, 1, 0, 0]) = some R27x1 := by kernel_rfl
theorem E27_2 : at_ Try.f27 [1, 1, 0, 1, 0, 0, 1, 0, 0, 1, 0] = .loop (at_ Try.f27 [1, 1, 0, 1, 0, 0, 1, 0, 0, 1, 0, 0]) := by kernel_rfl
noncomputable def R27x2 : RC := (.seq (.seq (.reg [⟨(some 19), none, (.mov (.tmp 6))⟩, ⟨(some 20), none, (.mov (.tmp 5))⟩, ⟨(some 21), none, (.ari .add (.tmp 19) (.tmp 20))⟩, ⟨(some 22), none, (.addo (.tmp 1) 0)⟩, ⟨(some 23), none, (.ld (.tmp 22) 1)⟩, ⟨(some 24), none, (.len (.tmp 23))⟩, ⟨(some 25), none, (.cmp .leq (.tmp 21) (.tmp 24))⟩])
  (.cond (.tmp 25) .skip
  (.exit 2)))
  (.seq (.block 3 (.seq (.reg [⟨(some 29), none, (.lda (.tmp 1) 13)⟩, ⟨(some 30), none, (.mov (.tmp 6))⟩, ⟨(some 31), none, (.mov (.tmp 5))⟩, ⟨(some 32), none, (.call ⟨(.value (.func 45)), (List.toArray [(.tmp 29), (.tmp 30), (.tmp 31), (.const (.slice none 0 0))]), (List.toArray [26, 3, 3, 27])⟩ true)⟩, ⟨(some 28), none, (.mov (.tmp 32))⟩, ⟨(some 33), none, (.pur ⟨(some 33), (.extract (.tmp 28) 0), 3, "", (List.toArray []), none⟩)⟩, ⟨(some 34), none, (.pur ⟨(some 34), (.extract (.tmp 28) 1), 3, "", (List.toArray []), none⟩)⟩, ⟨(some 7), none, (.mov (.tmp 33))⟩, ⟨(some 8), none, (.mov (.tmp 34))⟩])
  (.seq (.reg [⟨(some 35), none, (.mov (.tmp 7))⟩, ⟨(some 36), none, (.cmpb .eql (.tmp 35) (.const (.int .i64 2)))⟩, ⟨(some 37), none, (.mov (.tmp 36))⟩, ⟨(some 38), (some (37, true)), (.mov (.tmp 8))⟩, ⟨(some 39), (some (37, true)), (.cmpb .eql (.tmp 38) (.const (.int .i64 0)))⟩, ⟨(some 40), none, (.pur ⟨(some 40), (.pick (.tmp 37) (.tmp 39) (.const (.bool false))), 4, "", (List.toArray []), none⟩)⟩])
  (.cond (.tmp 40) (.seq (.reg [⟨(some 41), none, (.mov (.tmp 6))⟩, ⟨(some 42), none, (.mov (.tmp 5))⟩, ⟨(some 2), none, (.mov (.tmp 41))⟩, ⟨(some 3), none, (.mov (.tmp 42))⟩, ⟨(some 4), none, (.mov (.const (.int .i64 0)))⟩])
  .ret)
  .skip))))
  (.reg [⟨(some 26), none, (.mov (.tmp 6))⟩, ⟨(some 27), none, (.ari .add (.tmp 26) (.const (.int .i64 1)))⟩, ⟨(some 6), none, (.mov (.tmp 27))⟩])))
theorem L27x2 : low Try.prog Try.f27.ntmps (at_ Try.f27 [1, 1, 0, 1, 0, 0, 1, 0, 0, 1, 0, 0]) = some R27x2 := by kernel_rfl
end Go.Ax

/-
  Late: the law LateFewest, whatever the input (written by program).
-/
namespace Go.Ax
open Go Go.RowKit Go.Proofs

theorem Lt.sm_sl {g : Lt} (v : g.Vd) {s : Nat} {F : Nat → Bool} (k : Nat) (h : s + k ≤ g.wn) : g.sm s F k ≤ g.sl s F k := by
  have := Lt.tb_in (us := []) (F := F) v k h
  omega
section
variable {kn : FuncId → Option Bool} {lo : Nat} {H : Hp}
end
end Go.Ax


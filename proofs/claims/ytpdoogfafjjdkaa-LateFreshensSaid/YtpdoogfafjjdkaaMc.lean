import Derived.Test.YtpdoogfafjjdkaaMb
import Derived.Test.YtpdoogfafjjdkaaAxW9
import Derived.Test.YtpdoogfafjjdkaaChecked
import Derived.Test.YtpdoogfafjjdkaaAxW10
set_option linter.all false
/-
  Late: what a law looks at (13), the document's validity (49, 56, 33, 34), what is true (35) (written by program).
-/
namespace Go.Ax
open Go Go.RowKit Go.Proofs

section
variable {kn : FuncId → Option Bool} {lo : Nat} {H : Hp}
theorem great_ok {g : Lt} {la : Option Addr} {n cap : Nat} : ∃ H', FnX Try.prog kn lo 13 [.agg g.v.toArray, .slice la n cap] H (.bool (decide (g.wn > 45) || decide (g.an > 45) || decide (n > 45))) H' ∧ Keep H H' [] := by
  have key := fnX_low (kn := kn) (lo := lo) (H := H) (args := [.agg g.v.toArray, .slice la n cap]) (Q := fun w H' => w = .bool (decide (g.wn > 45) || decide (g.an > 45) || decide (n > 45)) ∧ Keep H H' []) Try.func13 B13 N13 Z13 L13 (by simp) ?_
  · obtain ⟨w, H', h, rfl, q⟩ := key; exact ⟨H', h, q⟩
  have hk := Keep.refl H []
  intro H1 hH1; obtain ⟨kH1, nH1, c1⟩ := new_facts hH1; clear hH1
  have mH1 := kH1.1
  have hk := hk.trans kH1
  have c1 : Cl H1 H.next [.slice g.wa g.wn g.wcap, .slice g.aa g.an g.acap, iv g.r1, iv g.r2, iv g.f1, iv g.f2, iv g.g1, iv g.g2, iv g.full, iv g.base, iv g.kill, iv g.need, iv g.bear] := c1
  refine Exists.intro _ (Exists.intro _ (And.intro c1.of (And.intro (show _ = some (.slice g.wa g.wn g.wcap) from rfl) ?_)))
  intro t1 g1; cases t1
  · have g1 : ¬ ((g.wn : Int) > 45) := of_decide_eq_false g1
    refine Exists.intro _ (Exists.intro _ (And.intro c1.of (And.intro (show _ = some (.slice g.aa g.an g.acap) from rfl) ?_)))
    intro t2 g2; cases t2
    · have g2 : ¬ ((g.an : Int) > 45) := of_decide_eq_false g2
      refine And.intro rfl (Exists.intro (.bool false) (And.intro rfl ?_))
      intro t3 g3; cases t3
      · have g3 : ¬ ((n : Int) > 45) := of_decide_eq_false g3
        refine And.intro rfl (Exists.intro (.bool false) (And.intro rfl ?_))
        exact And.intro trivial (Exists.intro _ (And.intro rfl ⟨by show Value.bool false = _; congr 1; symm; simp; omega, hk⟩))
      · have g3 : (n : Int) > 45 := of_decide_eq_true g3
        refine And.intro rfl (Exists.intro (.bool true) (And.intro rfl ?_))
        exact And.intro trivial (Exists.intro _ (And.intro rfl ⟨by show Value.bool true = _; congr 1; symm; simp; omega, hk⟩))
    · have g2 : (g.an : Int) > 45 := of_decide_eq_true g2
      refine And.intro rfl (Exists.intro (.bool true) (And.intro rfl ?_))
      refine And.intro rfl (Exists.intro (.bool true) (And.intro rfl ?_))
      exact And.intro trivial (Exists.intro _ (And.intro rfl ⟨by show Value.bool true = _; congr 1; symm; simp; omega, hk⟩))
  · have g1 : (g.wn : Int) > 45 := of_decide_eq_true g1
    refine And.intro rfl (Exists.intro (.bool true) (And.intro rfl ?_))
    refine And.intro rfl (Exists.intro (.bool true) (And.intro rfl ?_))
    exact And.intro trivial (Exists.intro _ (And.intro rfl ⟨by show Value.bool true = _; congr 1; symm; simp; omega, hk⟩))
theorem in49_ok {n a b : Int} : ∃ H', FnX Try.prog kn lo 49 [iv n, iv a, iv b] H (.bool (inB n a b)) H' ∧ Keep H H' [] := by
  have key := fnX_low (kn := kn) (lo := lo) (H := H) (args := [iv n, iv a, iv b]) (Q := fun w H' => w = .bool (inB n a b) ∧ Keep H H' []) Try.func49 B49 N49 Z49 L49 (by simp) ?_
  · obtain ⟨w, H', h, rfl, q⟩ := key; exact ⟨H', h, q⟩
  repeat' first
    | (intro t ht; cases t)
    | exact And.intro trivial (Exists.intro _ (And.intro rfl ⟨by simp_all [retV, inB] <;> (intros; omega), Keep.refl _ _⟩))
    | refine And.intro rfl (Exists.intro _ (And.intro rfl ?_))
theorem within56_ok {a b l m : Int} : ∃ H', FnX Try.prog kn lo 56 [spv a b, iv l, iv m] H (.bool (spanB a b l m)) H' ∧ Keep H H' [] := by
  have key := fnX_low (kn := kn) (lo := lo) (H := H) (args := [spv a b, iv l, iv m]) (Q := fun w H' => w = .bool (spanB a b l m) ∧ Keep H H' []) Try.func56 B56 N56 Z56 L56 (by simp) ?_
  · obtain ⟨w, H', h, rfl, q⟩ := key; exact ⟨H', h, q⟩
  intro H1 hH1
  obtain ⟨k1, n1, c1⟩ := new_facts hH1
  repeat' first
    | refine Exists.intro _ (Exists.intro _ (And.intro c1.of (And.intro rfl ?_)))
    | (intro t ht; cases t)
    | exact And.intro trivial (Exists.intro _ (And.intro rfl ⟨by simp_all [retV, spanB] <;> (intros; omega), k1⟩))
    | refine And.intro rfl (Exists.intro _ (And.intro rfl ?_))
theorem late33_ok {g : Lt} (hw : Sl H g.wa g.wn g.wcap (spc g.ws)) (ha : Sl H g.aa g.an g.acap (spc g.as)) (hwl : g.ws.length = g.wn) (hal : g.as.length = g.an) (hwn : g.wn ≤ 1000) (han : g.an ≤ 1000) :
    ∃ H', FnX Try.prog kn lo 33 [.agg g.v.toArray] H (.bool g.ok) H' ∧ Keep H H' [] := by
  have key := fnX_low (kn := kn) (lo := lo) (H := H) (args := [.agg g.v.toArray]) (Q := fun w H' => w = .bool g.ok ∧ Keep H H' []) Try.func33 B33 N33 Z33 L33 (by simp) ?_
  · obtain ⟨w, H', h, rfl, q⟩ := key; exact ⟨H', h, q⟩
  have hk := Keep.refl H []
  intro H1 hH1; obtain ⟨kH1, nH1, c1⟩ := new_facts hH1; clear hH1
  have mH1 := kH1.1
  have hk := hk.trans kH1
  have hw := kH1.sl0 hw
  have ha := kH1.sl0 ha
  have c1 : Cl H1 H.next [.slice g.wa g.wn g.wcap, .slice g.aa g.an g.acap, iv g.r1, iv g.r2, iv g.f1, iv g.f2, iv g.g1, iv g.g2, iv g.full, iv g.base, iv g.kill, iv g.need, iv g.bear] := c1
  refine Exists.intro _ (Exists.intro _ (And.intro c1.of (And.intro (show _ = some (.slice g.wa g.wn g.wcap) from rfl) ?_)))
  refine Exists.intro _ (Exists.intro _ (And.intro c1.of (And.intro (show _ = some (.slice g.aa g.an g.acap) from rfl) ?_)))
  intro t1 g1; cases t1
  · have g1 : ¬ ((g.wn : Int) ≠ (g.an : Int)) := by simpa using g1
    refine Exists.intro _ (Exists.intro _ (And.intro c1.of (And.intro (show _ = some (.slice g.wa g.wn g.wcap) from rfl) ?_)))
    intro t2 g2; cases t2
    · have g2 : ¬ ((g.wn : Int) > 40) := of_decide_eq_false g2
      refine And.intro rfl (Exists.intro (.bool false) (And.intro rfl ?_))
      refine condF ?_
      have hE : g.ok = ((g.ws.all fun s => spanB s.1 s.2 0 5000) && (g.as.all fun s => spanB s.1 s.2 0 20000) && spanB g.r1 g.r2 0 1000 && inB g.full 0 20000 && spanB g.f1 g.f2 0 g.full && spanB g.g1 g.g2 0 g.full && inB g.base 0 5000 && inB g.kill 0 1048576 && inB g.need 0 20000 && inB g.bear 0 40) := by
        unfold Lt.ok; rw [decide_eq_true (show g.wn = g.an by omega), decide_eq_true (show g.wn ≤ 40 by omega)]; simp only [Bool.true_and]
      refine loop_low (fn := Try.f33) E33_1 N33 L33x1 (fun i : Nat => [(1, pt H.next), (3, iv (i : Int))])
        (fun k i H' => i + k = g.wn ∧ Keep H1 H' [] ∧ ((g.ws.take i).all fun s => spanB s.1 s.2 0 5000) = true ∧ ((g.as.take i).all fun s => spanB s.1 s.2 0 20000) = true) g.wn 0 ⟨by omega, Keep.refl _ _, rfl, rfl⟩ ⟨rfl, rfl, trivial⟩ ?_
      rintro k i L1 ⟨hik, hki, hal1, hal2⟩
      have hk := hk.trans hki
      have hw := hki.sl0 hw
      have ha := hki.sl0 ha
      have c1 := hki.cl c1 (by simp)
      have kb := hki
      refine Exists.intro _ (Exists.intro _ (And.intro c1.of (And.intro (show _ = some (.slice g.wa g.wn g.wcap) from rfl) ?_)))
      refine And.intro (fun q3 => ?_) (fun q3 => ?_)
      · have q3 : (i : Int) < (g.wn : Int) := of_decide_eq_true q3
        have hi : i < g.wn := by omega
        obtain ⟨x, hx⟩ := get_some (l := g.ws) (i := i) (by omega)
        obtain ⟨y, hy⟩ := get_some (l := g.as) (i := i) (by omega)
        have hst1 := all_step (f := fun s : Int × Int => spanB s.1 s.2 0 5000) hx
        have hst2 := all_step (f := fun s : Int × Int => spanB s.1 s.2 0 20000) hy
        rcases hw with ⟨_, h0, _⟩ | ⟨wb, ewa, hwd, _⟩
        · omega
        rcases ha with ⟨_, h0, _⟩ | ⟨ab, eaa, had, _⟩
        · omega
        refine Exists.intro _ (Exists.intro _ (And.intro c1.of (And.intro (show _ = some (Value.slice (some ⟨wb, 0, none⟩) g.wn g.wcap) from by rw [← ewa]; rfl) ?_)))
        refine Exists.intro i (And.intro rfl (And.intro hi ?_))
        refine Exists.intro _ (Exists.intro _ (And.intro hwd.of (And.intro (spc_row hx) ?_)))
        refine callB (within56_ok) ?_
        intro tH2 H2 hH2 kH2
        have mH2 := kH2.1
        have hk := hk.trans kH2
        have c1 := kH2.cl c1 (by simp)
        have kb := kb.trans kH2
        have hwd := kH2.rd hwd (by simp)
        have had := kH2.rd had (by simp)
        cases tH2
        · have h1 := hH2
          refine And.intro rfl (Exists.intro (.bool true) (And.intro rfl ?_))
          refine And.intro rfl (Exists.intro (.bool true) (And.intro rfl ?_))
          refine condT ?_
          have e : g.ok = false := by rw [hE, all_fail (f := fun s : Int × Int => spanB s.1 s.2 0 5000) hx h1]; simp only [Bool.false_and]
          exact And.intro trivial (Exists.intro _ (And.intro rfl ⟨by rw [e]; rfl, hk⟩))
        · have h1 := hH2
          refine And.intro rfl (Exists.intro (.bool false) (And.intro rfl ?_))
          refine Exists.intro _ (Exists.intro _ (And.intro c1.of (And.intro (show _ = some (Value.slice (some ⟨ab, 0, none⟩) g.an g.acap) from by rw [← eaa]; rfl) ?_)))
          refine Exists.intro i (And.intro rfl (And.intro (by omega) ?_))
          refine Exists.intro _ (Exists.intro _ (And.intro had.of (And.intro (spc_row hy) ?_)))
          refine callB (within56_ok) ?_
          intro tH3 H3 hH3 kH3
          have mH3 := kH3.1
          have hk := hk.trans kH3
          have c1 := kH3.cl c1 (by simp)
          have kb := kb.trans kH3
          have hwd := kH3.rd hwd (by simp)
          have had := kH3.rd had (by simp)
          cases tH3
          · have h2 := hH3
            refine And.intro rfl (Exists.intro (.bool true) (And.intro rfl ?_))
            refine And.intro rfl (Exists.intro (.bool true) (And.intro rfl ?_))
            refine condT ?_
            have e : g.ok = false := by rw [hE, all_fail (f := fun s : Int × Int => spanB s.1 s.2 0 20000) hy h2]; simp only [Bool.and_false, Bool.false_and]
            exact And.intro trivial (Exists.intro _ (And.intro rfl ⟨by rw [e]; rfl, hk⟩))
          · have h2 := hH3
            refine And.intro rfl (Exists.intro (.bool false) (And.intro rfl ?_))
            refine And.intro rfl (Exists.intro (.bool false) (And.intro rfl ?_))
            refine condF ?_
            refine And.intro ⟨by omega, by omega⟩ ?_
            exact ⟨k - 1, i + 1, by omega, ⟨by omega, kb, by rw [hst1, hal1, h1]; rfl, by rw [hst2, hal2, h2]; rfl⟩, rfl, rfl, trivial⟩
      · have q3 : ¬ ((i : Int) < (g.wn : Int)) := of_decide_eq_false q3
        have e : i = g.wn := by omega
        subst e
        rw [List.take_of_length_le (by omega)] at hal1 hal2
        refine Exists.intro _ (Exists.intro _ (And.intro c1.of (And.intro (show _ = some (iv g.full) from rfl) ?_)))
        refine callB (in49_ok) ?_
        intro tH4 H4 hH4 kH4
        have mH4 := kH4.1
        have hk := hk.trans kH4
        have hw := kH4.sl0 hw
        have ha := kH4.sl0 ha
        have c1 := kH4.cl c1 (by simp)
        have kb := kb.trans kH4
        cases tH4
        · have h4 := hH4
          refine And.intro rfl (Exists.intro (.bool false) (And.intro rfl ?_))
          refine And.intro rfl (Exists.intro (.bool false) (And.intro rfl ?_))
          refine And.intro rfl (Exists.intro (.bool false) (And.intro rfl ?_))
          refine And.intro rfl (Exists.intro (.bool false) (And.intro rfl ?_))
          refine And.intro rfl (Exists.intro (.bool false) (And.intro rfl ?_))
          refine And.intro rfl (Exists.intro (.bool false) (And.intro rfl ?_))
          refine And.intro rfl (Exists.intro (.bool false) (And.intro rfl ?_))
          have e : g.ok = false := by rw [hE]; simp only [hal1, hal2, h4, Bool.and_true, Bool.true_and, Bool.and_false, Bool.false_and]
          exact And.intro trivial (Exists.intro _ (And.intro rfl ⟨by rw [e]; rfl, hk⟩))
        · have h4 := hH4
          refine Exists.intro _ (Exists.intro _ (And.intro c1.of (And.intro (show row 2 _ _ = some [iv g.f1, iv g.f2] from rfl) ?_)))
          refine Exists.intro _ (Exists.intro _ (And.intro c1.of (And.intro (show _ = some (iv g.full) from rfl) ?_)))
          refine callB (within56_ok) ?_
          intro tH5 H5 hH5 kH5
          have mH5 := kH5.1
          have hk := hk.trans kH5
          have hw := kH5.sl0 hw
          have ha := kH5.sl0 ha
          have c1 := kH5.cl c1 (by simp)
          have kb := kb.trans kH5
          cases tH5
          · have h5 := hH5
            refine And.intro rfl (Exists.intro (.bool false) (And.intro rfl ?_))
            refine And.intro rfl (Exists.intro (.bool false) (And.intro rfl ?_))
            refine And.intro rfl (Exists.intro (.bool false) (And.intro rfl ?_))
            refine And.intro rfl (Exists.intro (.bool false) (And.intro rfl ?_))
            refine And.intro rfl (Exists.intro (.bool false) (And.intro rfl ?_))
            refine And.intro rfl (Exists.intro (.bool false) (And.intro rfl ?_))
            refine And.intro rfl (Exists.intro (.bool false) (And.intro rfl ?_))
            have e : g.ok = false := by rw [hE]; simp only [hal1, hal2, h4, h5, Bool.and_true, Bool.true_and, Bool.and_false, Bool.false_and]
            exact And.intro trivial (Exists.intro _ (And.intro rfl ⟨by rw [e]; rfl, hk⟩))
          · have h5 := hH5
            refine And.intro rfl (Exists.intro (.bool true) (And.intro rfl ?_))
            refine Exists.intro _ (Exists.intro _ (And.intro c1.of (And.intro (show row 2 _ _ = some [iv g.g1, iv g.g2] from rfl) ?_)))
            refine Exists.intro _ (Exists.intro _ (And.intro c1.of (And.intro (show _ = some (iv g.full) from rfl) ?_)))
            refine callB (within56_ok) ?_
            intro tH6 H6 hH6 kH6
            have mH6 := kH6.1
            have hk := hk.trans kH6
            have hw := kH6.sl0 hw
            have ha := kH6.sl0 ha
            have c1 := kH6.cl c1 (by simp)
            have kb := kb.trans kH6
            cases tH6
            · have h6 := hH6
              refine And.intro rfl (Exists.intro (.bool false) (And.intro rfl ?_))
              refine And.intro rfl (Exists.intro (.bool false) (And.intro rfl ?_))
              refine And.intro rfl (Exists.intro (.bool false) (And.intro rfl ?_))
              refine And.intro rfl (Exists.intro (.bool false) (And.intro rfl ?_))
              refine And.intro rfl (Exists.intro (.bool false) (And.intro rfl ?_))
              refine And.intro rfl (Exists.intro (.bool false) (And.intro rfl ?_))
              have e : g.ok = false := by rw [hE]; simp only [hal1, hal2, h4, h5, h6, Bool.and_true, Bool.true_and, Bool.and_false, Bool.false_and]
              exact And.intro trivial (Exists.intro _ (And.intro rfl ⟨by rw [e]; rfl, hk⟩))
            · have h6 := hH6
              refine And.intro rfl (Exists.intro (.bool true) (And.intro rfl ?_))
              refine Exists.intro _ (Exists.intro _ (And.intro c1.of (And.intro (show row 2 _ _ = some [iv g.r1, iv g.r2] from rfl) ?_)))
              refine callB (within56_ok) ?_
              intro tH7 H7 hH7 kH7
              have mH7 := kH7.1
              have hk := hk.trans kH7
              have hw := kH7.sl0 hw
              have ha := kH7.sl0 ha
              have c1 := kH7.cl c1 (by simp)
              have kb := kb.trans kH7
              cases tH7
              · have h7 := hH7
                refine And.intro rfl (Exists.intro (.bool false) (And.intro rfl ?_))
                refine And.intro rfl (Exists.intro (.bool false) (And.intro rfl ?_))
                refine And.intro rfl (Exists.intro (.bool false) (And.intro rfl ?_))
                refine And.intro rfl (Exists.intro (.bool false) (And.intro rfl ?_))
                refine And.intro rfl (Exists.intro (.bool false) (And.intro rfl ?_))
                have e : g.ok = false := by rw [hE]; simp only [hal1, hal2, h4, h5, h6, h7, Bool.and_true, Bool.true_and, Bool.and_false, Bool.false_and]
                exact And.intro trivial (Exists.intro _ (And.intro rfl ⟨by rw [e]; rfl, hk⟩))
              · have h7 := hH7
                refine And.intro rfl (Exists.intro (.bool true) (And.intro rfl ?_))
                refine Exists.intro _ (Exists.intro _ (And.intro c1.of (And.intro (show _ = some (iv g.base) from rfl) ?_)))
                refine callB (in49_ok) ?_
                intro tH8 H8 hH8 kH8
                have mH8 := kH8.1
                have hk := hk.trans kH8
                have hw := kH8.sl0 hw
                have ha := kH8.sl0 ha
                have c1 := kH8.cl c1 (by simp)
                have kb := kb.trans kH8
                cases tH8
                · have h8 := hH8
                  refine And.intro rfl (Exists.intro (.bool false) (And.intro rfl ?_))
                  refine And.intro rfl (Exists.intro (.bool false) (And.intro rfl ?_))
                  refine And.intro rfl (Exists.intro (.bool false) (And.intro rfl ?_))
                  refine And.intro rfl (Exists.intro (.bool false) (And.intro rfl ?_))
                  have e : g.ok = false := by rw [hE]; simp only [hal1, hal2, h4, h5, h6, h7, h8, Bool.and_true, Bool.true_and, Bool.and_false, Bool.false_and]
                  exact And.intro trivial (Exists.intro _ (And.intro rfl ⟨by rw [e]; rfl, hk⟩))
                · have h8 := hH8
                  refine And.intro rfl (Exists.intro (.bool true) (And.intro rfl ?_))
                  refine Exists.intro _ (Exists.intro _ (And.intro c1.of (And.intro (show _ = some (iv g.kill) from rfl) ?_)))
                  refine callB (in49_ok) ?_
                  intro tH9 H9 hH9 kH9
                  have mH9 := kH9.1
                  have hk := hk.trans kH9
                  have hw := kH9.sl0 hw
                  have ha := kH9.sl0 ha
                  have c1 := kH9.cl c1 (by simp)
                  have kb := kb.trans kH9
                  cases tH9
                  · have h9 := hH9
                    refine And.intro rfl (Exists.intro (.bool false) (And.intro rfl ?_))
                    refine And.intro rfl (Exists.intro (.bool false) (And.intro rfl ?_))
                    refine And.intro rfl (Exists.intro (.bool false) (And.intro rfl ?_))
                    have e : g.ok = false := by rw [hE]; simp only [hal1, hal2, h4, h5, h6, h7, h8, h9, Bool.and_true, Bool.true_and, Bool.and_false, Bool.false_and]
                    exact And.intro trivial (Exists.intro _ (And.intro rfl ⟨by rw [e]; rfl, hk⟩))
                  · have h9 := hH9
                    refine And.intro rfl (Exists.intro (.bool true) (And.intro rfl ?_))
                    refine Exists.intro _ (Exists.intro _ (And.intro c1.of (And.intro (show _ = some (iv g.need) from rfl) ?_)))
                    refine callB (in49_ok) ?_
                    intro tH10 H10 hH10 kH10
                    have mH10 := kH10.1
                    have hk := hk.trans kH10
                    have hw := kH10.sl0 hw
                    have ha := kH10.sl0 ha
                    have c1 := kH10.cl c1 (by simp)
                    have kb := kb.trans kH10
                    cases tH10
                    · have h10 := hH10
                      refine And.intro rfl (Exists.intro (.bool false) (And.intro rfl ?_))
                      refine And.intro rfl (Exists.intro (.bool false) (And.intro rfl ?_))
                      have e : g.ok = false := by rw [hE]; simp only [hal1, hal2, h4, h5, h6, h7, h8, h9, h10, Bool.and_true, Bool.true_and, Bool.and_false, Bool.false_and]
                      exact And.intro trivial (Exists.intro _ (And.intro rfl ⟨by rw [e]; rfl, hk⟩))
                    · have h10 := hH10
                      refine And.intro rfl (Exists.intro (.bool true) (And.intro rfl ?_))
                      refine Exists.intro _ (Exists.intro _ (And.intro c1.of (And.intro (show _ = some (iv g.bear) from rfl) ?_)))
                      refine callB (in49_ok) ?_
                      intro tH11 H11 hH11 kH11
                      have mH11 := kH11.1
                      have hk := hk.trans kH11
                      have hw := kH11.sl0 hw
                      have ha := kH11.sl0 ha
                      have c1 := kH11.cl c1 (by simp)
                      have kb := kb.trans kH11
                      cases tH11
                      · have h11 := hH11
                        refine And.intro rfl (Exists.intro (.bool false) (And.intro rfl ?_))
                        have e : g.ok = false := by rw [hE]; simp only [hal1, hal2, h4, h5, h6, h7, h8, h9, h10, h11, Bool.and_true, Bool.true_and, Bool.and_false, Bool.false_and]
                        exact And.intro trivial (Exists.intro _ (And.intro rfl ⟨by rw [e]; rfl, hk⟩))
                      · have h11 := hH11
                        refine And.intro rfl (Exists.intro (.bool true) (And.intro rfl ?_))
                        have e : g.ok = true := by rw [hE]; simp only [hal1, hal2, h4, h5, h6, h7, h8, h9, h10, h11, Bool.and_true, Bool.true_and, Bool.and_false, Bool.false_and]
                        exact And.intro trivial (Exists.intro _ (And.intro rfl ⟨by rw [e]; rfl, hk⟩))
    · have g2 : (g.wn : Int) > 40 := of_decide_eq_true g2
      refine And.intro rfl (Exists.intro (.bool true) (And.intro rfl ?_))
      refine condT ?_
      have e : g.ok = false := by unfold Lt.ok; rw [decide_eq_false (show ¬ g.wn ≤ 40 by omega)]; simp only [Bool.and_false, Bool.false_and]
      exact And.intro trivial (Exists.intro _ (And.intro rfl ⟨by rw [e]; rfl, hk⟩))
  · have g1 : (g.wn : Int) ≠ (g.an : Int) := by simpa using g1
    refine And.intro rfl (Exists.intro (.bool true) (And.intro rfl ?_))
    refine condT ?_
    have e : g.ok = false := by unfold Lt.ok; rw [decide_eq_false (show ¬ g.wn = g.an by omega)]; rfl
    exact And.intro trivial (Exists.intro _ (And.intro rfl ⟨by rw [e]; rfl, hk⟩))
theorem flood34_ok {g : Lt} {a b : Int} {la : Option Addr} {n cap : Nat} {us : List Int} (hwn : g.wn ≤ 1000) (hl : Sl H la n cap (ints us)) (hul : us.length = n) (hn : n ≤ 1000) :
    ∃ H', FnX Try.prog kn lo 34 [.agg g.v.toArray, iv a, iv b, .slice la n cap] H (.bool (flB g a b && setB a (a + b) us)) H' ∧ Keep H H' [] := by
  have key := fnX_low (kn := kn) (lo := lo) (H := H) (args := [.agg g.v.toArray, iv a, iv b, .slice la n cap]) (Q := fun w H' => w = .bool (flB g a b && setB a (a + b) us) ∧ Keep H H' []) Try.func34 B34 N34 Z34 L34 (by simp) ?_
  · obtain ⟨w, H', h, rfl, q⟩ := key; exact ⟨H', h, q⟩
  have hk := Keep.refl H []
  intro H1 hH1; obtain ⟨kH1, nH1, c1⟩ := new_facts hH1; clear hH1
  have mH1 := kH1.1
  have hk := hk.trans kH1
  have hl := kH1.sl0 hl
  have c1 : Cl H1 H.next [.slice g.wa g.wn g.wcap, .slice g.aa g.an g.acap, iv g.r1, iv g.r2, iv g.f1, iv g.f2, iv g.g1, iv g.g2, iv g.full, iv g.base, iv g.kill, iv g.need, iv g.bear] := c1
  refine Exists.intro _ (Exists.intro _ (And.intro c1.of (And.intro (show _ = some (.slice g.wa g.wn g.wcap) from rfl) ?_)))
  refine callB (in49_ok) ?_
  intro tH2 H2 hH2 kH2
  have mH2 := kH2.1
  have hk := hk.trans kH2
  have hl := kH2.sl0 hl
  have c1 := kH2.cl c1 (by simp)
  cases tH2
  · have h1 := hH2
    have h1x := h1; simp only [inB, Bool.and_eq_true, Bool.and_eq_false_iff, decide_eq_true_eq, decide_eq_false_iff_not] at h1x
    refine And.intro rfl (Exists.intro (.bool true) (And.intro rfl ?_))
    refine And.intro rfl (Exists.intro (.bool true) (And.intro rfl ?_))
    refine condT ?_
    have e : (flB g a b && setB a (a + b) us) = false := by unfold flB; rw [h1]; rfl
    exact And.intro trivial (Exists.intro _ (And.intro rfl ⟨by rw [e]; rfl, hk⟩))
  · have h1 := hH2
    have h1x := h1; simp only [inB, Bool.and_eq_true, Bool.and_eq_false_iff, decide_eq_true_eq, decide_eq_false_iff_not] at h1x
    refine And.intro rfl (Exists.intro (.bool false) (And.intro rfl ?_))
    refine Exists.intro _ (Exists.intro _ (And.intro c1.of (And.intro (show _ = some (.slice g.wa g.wn g.wcap) from rfl) ?_)))
    refine And.intro ⟨by omega, by omega⟩ ?_
    refine callB (in49_ok) ?_
    intro tH3 H3 hH3 kH3
    have mH3 := kH3.1
    have hk := hk.trans kH3
    have hl := kH3.sl0 hl
    have c1 := kH3.cl c1 (by simp)
    cases tH3
    · have h2 := hH3
      have h2x := h2; simp only [inB, Bool.and_eq_true, Bool.and_eq_false_iff, decide_eq_true_eq, decide_eq_false_iff_not] at h2x
      refine And.intro rfl (Exists.intro (.bool true) (And.intro rfl ?_))
      refine And.intro rfl (Exists.intro (.bool true) (And.intro rfl ?_))
      refine condT ?_
      have e : (flB g a b && setB a (a + b) us) = false := by unfold flB; rw [h1, h2]; rfl
      exact And.intro trivial (Exists.intro _ (And.intro rfl ⟨by rw [e]; rfl, hk⟩))
    · have h2 := hH3
      have h2x := h2; simp only [inB, Bool.and_eq_true, Bool.and_eq_false_iff, decide_eq_true_eq, decide_eq_false_iff_not] at h2x
      refine And.intro rfl (Exists.intro (.bool false) (And.intro rfl ?_))
      refine And.intro rfl (Exists.intro (.bool false) (And.intro rfl ?_))
      refine condF ?_
      have hfl : flB g a b = true := by unfold flB; rw [h1, h2]; rfl
      refine loop_low (fn := Try.f34) E34_1 N34 L34x1 (fun i : Nat => [(1, iv a), (2, iv b), (3, .slice la n cap), (9, iv (i : Int))])
        (fun k i H' => i + k = n ∧ Keep H3 H' [] ∧ setB a (a + b) us = setB (if i = 0 then a else us.getD (i - 1) 0 + 1) (a + b) (us.drop i) ∧ ∀ j, j < i → a ≤ us.getD j 0 ∧ us.getD j 0 < a + b) n 0 ⟨by omega, Keep.refl _ _, rfl, fun j hj => by omega⟩ ⟨rfl, rfl, rfl, rfl, trivial⟩ ?_
      rintro k i L1 ⟨hik, hki, hset, hin⟩
      have hk := hk.trans hki
      have hl := hki.sl0 hl
      have c1 := hki.cl c1 (by simp)
      have kb := hki
      refine And.intro (fun q1 => ?_) (fun q1 => ?_)
      · have q1 : (i : Int) < (n : Int) := of_decide_eq_true q1
        have hi : i < n := by omega
        obtain ⟨x, hx⟩ := get_some (l := us) (i := i) (by omega)
        have hxd : us.getD i 0 = x := by rw [List.getD_eq_getElem?_getD, hx]; rfl
        have hdr : us.drop i = x :: us.drop (i + 1) := by rw [List.drop_eq_getElem_cons (by omega)]; rw [List.getElem?_eq_getElem (by omega)] at hx; rw [Option.some.inj hx]
        have hst : setB a (a + b) us = (decide ((if i = 0 then a else us.getD (i - 1) 0 + 1) ≤ x) && decide (x < a + b) && setB (x + 1) (a + b) (us.drop (i + 1))) := by rw [hset, hdr]; rfl
        obtain ⟨p, hp⟩ : ∃ p, us.getD (i - 1) 0 = p := ⟨_, rfl⟩
        rw [hp] at hst
        have hpi : 0 < i → a ≤ p ∧ p < a + b := fun h => by have := hin (i - 1) (by omega); rw [hp] at this; exact this
        have hpx : 0 < i → us[i - 1]? = some p := fun h => by rw [← hp, List.getD_eq_getElem?_getD, List.getElem?_eq_getElem (by omega)]; rfl
        rcases hl with ⟨_, h0, _⟩ | ⟨lb, rfl, hld, _⟩
        · omega
        refine wD_seq ?_
        refine wD_mov (v := .slice (some ⟨lb, 0, none⟩) n cap) rfl ?_
        refine wD_mov (v := iv (i : Int)) rfl ?_
        refine wD_idx (b := lb) (o := 0) (k := i) (j := (i : Int)) rfl rfl rfl hi ?_
        refine wD_ld (b := lb) (o := 0 + i * 1) (v := iv x) rfl hld (ints_at hx) ?_
        refine wD_mov (v := iv a) rfl ?_
        refine wD_mov (v := iv a) rfl ?_
        refine wD_mov (v := iv b) rfl ?_
        refine wD_add (a := a) (b := b) rfl rfl ⟨by omega, by omega⟩ ?_
        refine wD_sub (a := a + b) (b := 1) rfl rfl ⟨by omega, by omega⟩ ?_
        obtain ⟨H4, fH4, kH4⟩ := in49_ok (kn := kn) (lo := lo) (H := L1) (n := x) (a := a) (b := (a + b) - 1)
        generalize h3 : inB (x) (a) ((a + b) - 1) = t3 at fH4
        have h3x := h3
        refine wD_callf (vs := [iv x, iv a, iv ((a + b) - 1)]) rfl (callX_args fH4) ?_
        have mH4 := kH4.1
        have hk := hk.trans kH4
        have c1 := kH4.cl c1 (by simp)
        have kb := kb.trans kH4
        have hld := kH4.rd hld (by simp)
        cases t3
        · simp only [inB, Bool.and_eq_true, Bool.and_eq_false_iff, decide_eq_true_eq, decide_eq_false_iff_not] at h3x
          refine wD_pur (v := .bool true) rfl rfl ?_
          refine wD_mov (v := .bool true) rfl ?_
          refine wD_gs rfl ?_
          refine wD_gs rfl ?_
          refine wD_gs rfl ?_
          refine wD_gu rfl ?_
          refine wD_gu rfl ?_
          refine wD_gu rfl ?_
          refine wD_gu rfl ?_
          refine wD_gu rfl ?_
          refine wD_gu rfl ?_
          refine wD_gu rfl ?_
          refine wD_gu rfl ?_
          refine wD_gu rfl ?_
          refine wD_gu rfl ?_
          refine wD_gs rfl ?_
          refine wD_pur (v := .bool true) rfl rfl ?_
          refine wD_end (by repeat' first | exact True.intro | exact (fun h => h) | refine And.intro ?_ ?_ | (intro h; have h : (_ : Nat) = _ := h; omega)) ?_
          refine condT ?_
          have e : (flB g a b && setB a (a + b) us) = false := by
            rw [hfl, hst, Bool.true_and]
            have q : ¬ ((if i = 0 then a else p + 1) ≤ x ∧ x < a + b) := by split <;> omega
            rw [← Bool.decide_and, decide_eq_false q]; rfl
          exact And.intro trivial (Exists.intro _ (And.intro rfl ⟨by rw [e]; rfl, hk⟩))
        · simp only [inB, Bool.and_eq_true, Bool.and_eq_false_iff, decide_eq_true_eq, decide_eq_false_iff_not] at h3x
          refine wD_pur (v := .bool false) rfl rfl ?_
          refine wD_mov (v := .bool false) rfl ?_
          refine wD_g rfl (wD_mov (v := iv (i : Int)) rfl ?_)
          refine wD_g rfl (wD_b_gtr (a := (i : Int)) (b := 0) rfl rfl ?_)
          intro t2 g2; cases t2
          · have g2 : ¬ ((i : Int) > 0) := of_decide_eq_false g2
            refine wD_g rfl (wD_mov (v := .bool false) rfl ?_)
            refine wD_gs rfl ?_
            refine wD_gs rfl ?_
            refine wD_gs rfl ?_
            refine wD_gs rfl ?_
            refine wD_gs rfl ?_
            refine wD_gs rfl ?_
            refine wD_gs rfl ?_
            refine wD_gs rfl ?_
            refine wD_gs rfl ?_
            refine wD_gs rfl ?_
            refine wD_g rfl (wD_pur (v := .bool false) rfl rfl ?_)
            refine wD_pur (v := .bool false) rfl rfl ?_
            refine wD_end (by repeat' first | exact True.intro | exact (fun h => h) | refine And.intro ?_ ?_ | (intro h; have h : (_ : Nat) = _ := h; omega)) ?_
            refine condF ?_
            refine And.intro ⟨by omega, by omega⟩ ?_
            have hst2 : setB a (a + b) us = setB (x + 1) (a + b) (us.drop (i + 1)) := by rw [hst, decide_eq_true (by omega), decide_eq_true (by omega)]; rfl
            refine ⟨k - 1, i + 1, by omega, ⟨by omega, kb, ?_, fun j hj => ?_⟩, rfl, rfl, rfl, rfl, trivial⟩
            · rw [hst2, if_neg (by omega), Nat.add_sub_cancel, hxd]
            · rcases Nat.lt_or_ge j i with q | q
              · exact hin j q
              · have : j = i := by omega
                subst this; rw [hxd]; omega
          · have g2 : (i : Int) > 0 := of_decide_eq_true g2
            refine wD_g rfl (wD_mov (v := .bool true) rfl ?_)
            have hpos : 0 < i := by omega
            refine wD_g rfl (wD_mov (v := .slice (some ⟨lb, 0, none⟩) n cap) rfl ?_)
            refine wD_g rfl (wD_mov (v := iv (i : Int)) rfl ?_)
            refine wD_g rfl (wD_idx (b := lb) (o := 0) (k := i) (j := (i : Int)) rfl rfl rfl hi ?_)
            refine wD_g rfl (wD_ld (b := lb) (o := 0 + i * 1) (v := iv x) rfl hld (ints_at hx) ?_)
            refine wD_g rfl (wD_mov (v := .slice (some ⟨lb, 0, none⟩) n cap) rfl ?_)
            refine wD_g rfl (wD_mov (v := iv (i : Int)) rfl ?_)
            refine wD_g rfl (wD_sub (a := (i : Int)) (b := 1) rfl rfl ⟨by omega, by omega⟩ ?_)
            refine wD_g rfl (wD_idx (b := lb) (o := 0) (k := i - 1) (j := (i : Int) - 1) rfl rfl (by omega) (by omega) ?_)
            refine wD_g rfl (wD_ld (b := lb) (o := 0 + (i - 1) * 1) (v := iv p) rfl hld (ints_at (hpx hpos)) ?_)
            refine wD_g rfl (wD_b_leq (a := x) (b := p) rfl rfl ?_)
            intro t3 g3; cases t3
            · have g3 : ¬ (x ≤ p) := of_decide_eq_false g3
              refine wD_g rfl (wD_pur (v := .bool false) rfl rfl ?_)
              refine wD_pur (v := .bool false) rfl rfl ?_
              refine wD_end (by repeat' first | exact True.intro | exact (fun h => h) | refine And.intro ?_ ?_ | (intro h; have h : (_ : Nat) = _ := h; omega)) ?_
              refine condF ?_
              refine And.intro ⟨by omega, by omega⟩ ?_
              have hst2 : setB a (a + b) us = setB (x + 1) (a + b) (us.drop (i + 1)) := by rw [hst, decide_eq_true (by omega), decide_eq_true (by omega)]; rfl
              refine ⟨k - 1, i + 1, by omega, ⟨by omega, kb, ?_, fun j hj => ?_⟩, rfl, rfl, rfl, rfl, trivial⟩
              · rw [hst2, if_neg (by omega), Nat.add_sub_cancel, hxd]
              · rcases Nat.lt_or_ge j i with q | q
                · exact hin j q
                · have : j = i := by omega
                  subst this; rw [hxd]; omega
            · have g3 : x ≤ p := of_decide_eq_true g3
              refine wD_g rfl (wD_pur (v := .bool true) rfl rfl ?_)
              refine wD_pur (v := .bool true) rfl rfl ?_
              refine wD_end (by repeat' first | exact True.intro | exact (fun h => h) | refine And.intro ?_ ?_ | (intro h; have h : (_ : Nat) = _ := h; omega)) ?_
              refine condT ?_
              have e : (flB g a b && setB a (a + b) us) = false := by
                rw [hfl, hst, Bool.true_and]
                have q : ¬ ((if i = 0 then a else p + 1) ≤ x ∧ x < a + b) := by split <;> omega
                rw [← Bool.decide_and, decide_eq_false q]; rfl
              exact And.intro trivial (Exists.intro _ (And.intro rfl ⟨by rw [e]; rfl, hk⟩))
      · have q1 : ¬ ((i : Int) < (n : Int)) := of_decide_eq_false q1
        have e1 : i = n := by omega
        subst e1
        rw [List.drop_eq_nil_of_le (by omega)] at hset
        have e : (flB g a b && setB a (a + b) us) = true := by rw [hfl, hset]; rfl
        exact And.intro trivial (Exists.intro _ (And.intro rfl ⟨by rw [e]; rfl, hk⟩))
end
end Go.Ax

/-
  Late: what is true of a flood, by remainders (35) (written by program).
-/
namespace Go.Ax
open Go Go.RowKit Go.Proofs

theorem se27 : sliceElem Try.prog 27 = some (3, 1) := by kernel_rfl
theorem z3 : zeroOf Try.prog 3 = some (.int .i64 0) := by kernel_rfl
theorem u27 : Try.prog.underlying 27 = some (.slice 3) := by kernel_rfl
section
variable {kn : FuncId → Option Bool} {lo : Nat} {H : Hp}
end
end Go.Ax

/-
  Late: the law LateTrue, whatever the input (written by program).
-/
namespace Go.Ax
open Go Go.RowKit Go.Proofs

theorem sure_zero {a s : Bool} (h : sureV a s = 0) : s = false := by cases a <;> cases s <;> simp [sureV] at h ⊢
theorem flB_of {g : Lt} {s d : Nat} (h : s + d ≤ g.wn) : flB g s d = true := by
  unfold flB inB
  simp only [Bool.and_eq_true, decide_eq_true_eq]
  omega
theorem Lt.Tl.c0 {g : Lt} {a b : Int} {us : List Int} {w : Value} (h : g.Tl a b us w) (hok : g.ok = false) : w = .tuple #[iv 0, iv 0, iv 1] := by
  rcases h with ⟨_, h⟩ | ⟨h, _⟩ | ⟨h, _⟩
  · exact h
  · rw [hok] at h; cases h
  · rw [hok] at h; cases h
theorem Lt.Tl.c1 {g : Lt} {a b : Int} {us : List Int} {w : Value} (h : g.Tl a b us w) (hok : g.ok = true) (hf : (flB g a b && setB a (a + b) us) = false) : w = .tuple #[iv 0, iv 0, iv 2] := by
  rcases h with ⟨h, _⟩ | ⟨_, _, h⟩ | ⟨_, s, d, rfl, rfl, h1, h2, _⟩
  · rw [hok] at h; cases h
  · exact h
  · rw [flB_of h1, h2] at hf; exact absurd hf (by decide)
theorem Lt.Tl.c2 {g : Lt} {s d : Nat} {us : List Int} {w : Value} (h : g.Tl s d us w) (hok : g.ok = true) (hsd : s + d ≤ g.wn) (hset : setB s (s + d) us = true) : w = .tuple #[iv (sureV (decide (g.wl s d ≥ g.kill)) (decide (g.wh s d ≥ g.kill))), iv (sureV (decide (g.sm s (Nat.testBit (dayMask us)) d > g.bear)) (decide (g.sl s (Nat.testBit (dayMask us)) d > g.bear))), iv 0] := by
  rcases h with ⟨h, _⟩ | ⟨_, h, _⟩ | ⟨_, s', d', e1, e2, _, _, h⟩
  · rw [hok] at h; cases h
  · rw [flB_of hsd, hset] at h; exact absurd h (by decide)
  · obtain rfl : s = s' := by omega
    obtain rfl : d = d' := by omega
    exact h
theorem Lt.Wm.any {g : Lt} {a b : Int} {w : Value} (h : g.Wm a b w) : ∃ p q e : Int, w = .tuple #[spv p q, iv e] := by
  rcases h with ⟨_, h⟩ | ⟨_, _, h⟩ | ⟨_, _, _, _, _, _, h⟩ <;> exact ⟨_, _, _, h⟩
theorem Lt.Wm.c2 {g : Lt} {s d : Nat} {w : Value} (h : g.Wm s d w) (hok : g.ok = true) (hsd : s + d ≤ g.wn) : w = .tuple #[spv (g.wl s d) (g.wh s d), iv 0] := by
  rcases h with ⟨h, _⟩ | ⟨_, h, _⟩ | ⟨_, s', d', e1, e2, _, h⟩
  · rw [hok] at h; cases h
  · rw [flB_of hsd] at h; cases h
  · obtain rfl : s = s' := by omega
    obtain rfl : d = d' := by omega
    exact h
section
variable {P : Program} {kn : FuncId → Option Bool} {lo n : Nat} {masks : List Nat} {r : List RO} {ks : List Kd} {S : Rg} {H : Hp} {K : Rg → Hp → Prop} {d : Option Nat} {x y : Operand} {a b : Int}
theorem wD_k_geq (t : Bool) (hx : evS S x = some (.int .i64 a)) (hy : evS S y = some (.int .i64 b)) (ht : decide (a ≥ b) = t) (h : wDraw P kn lo n masks r (.pure :: ks) (putS S d (.bool t)) H K) : wDraw P kn lo n masks (⟨d, none, .cmp .geq x y⟩ :: r) ks S H K := by
  simp only [wDraw, wRO, wRI, hx, hy, ht]; exact h
theorem wD_k_gtr (t : Bool) (hx : evS S x = some (.int .i64 a)) (hy : evS S y = some (.int .i64 b)) (ht : decide (a > b) = t) (h : wDraw P kn lo n masks r (.pure :: ks) (putS S d (.bool t)) H K) : wDraw P kn lo n masks (⟨d, none, .cmp .gtr x y⟩ :: r) ks S H K := by
  simp only [wDraw, wRO, wRI, hx, hy, ht]; exact h
end
section
variable {kn : FuncId → Option Bool} {lo : Nat} {H : Hp}
end
end Go.Ax

/-! What 'low' makes of more functions of late (written by program). -/
namespace Go.Ax
open Go Go.RowKit Go.Proofs
theorem N40 : Try.f40.ntmps = 46 := by kernel_rfl
theorem Z40 : Try.f40.results.toList = ((List.toArray [(.cell 6 24)]) : Array ResultVar).toList := by kernel_rfl
theorem B40 : Try.f40.body = some (at_ Try.f40 []) := by kernel_rfl
noncomputable def R40 : RC := (.seq (.reg [⟨(some 3), none, (.box 26 (.tmp 0))⟩, ⟨(some 6), none, (.alc 24 [(.int .i64 0), (.int .i64 0)])⟩])
  (.seq (.reg [⟨(some 7), none, (.alc 24 [(.int .i64 0), (.int .i64 0)])⟩])
  (.seq (.seq (.reg [⟨(some 9), none, (.mov (.tmp 1))⟩, ⟨(some 8), none, (.mov (.tmp 9))⟩])
  (.block 0 (.other (at_ Try.f40 [1, 1, 0, 1, 0]))))
  (.seq (.reg [⟨(some 45), none, (.lda (.tmp 7) 2)⟩, ⟨none, none, (.sta (.tmp 6) (.tmp 45) 2)⟩])
  .ret))))
theorem L40 : low Try.prog Try.f40.ntmps (at_ Try.f40 []) = some R40 := by kernel_rfl
theorem E40_1 : at_ Try.f40 [1, 1, 0, 1, 0] = .loop (at_ Try.f40 [1, 1, 0, 1, 0, 0]) := by kernel_rfl
noncomputable def R40x1 : RC := (.seq (.seq (.reg [⟨(some 10), none, (.mov (.tmp 8))⟩, ⟨(some 11), none, (.mov (.tmp 1))⟩, ⟨(some 12), none, (.mov (.tmp 2))⟩, ⟨(some 13), none, (.ari .add (.tmp 11) (.tmp 12))⟩, ⟨(some 14), none, (.cmp .lss (.tmp 10) (.tmp 13))⟩])
  (.cond (.tmp 14) .skip
  (.exit 0)))
  (.seq (.block 1 (.seq (.dreg [⟨(some 17), none, (.addo (.tmp 7) 0)⟩, ⟨(some 18), none, (.ld (.tmp 17) 1)⟩, ⟨(some 19), none, (.addo (.tmp 3) 0)⟩, ⟨(some 20), none, (.ld (.tmp 19) 1)⟩, ⟨(some 21), none, (.mov (.tmp 8))⟩, ⟨(some 22), none, (.idx (.tmp 20) (.tmp 21) 2)⟩, ⟨(some 23), none, (.addo (.tmp 22) 0)⟩, ⟨(some 24), none, (.ld (.tmp 23) 1)⟩, ⟨(some 25), none, (.addo (.tmp 3) 9)⟩, ⟨(some 26), none, (.ld (.tmp 25) 1)⟩, ⟨(some 27), none, (.ari .sub (.tmp 24) (.tmp 26))⟩, ⟨(some 28), none, (.mm false (.const (.int .i64 0)) (.tmp 27))⟩, ⟨(some 29), none, (.ari .add (.tmp 18) (.tmp 28))⟩, ⟨(some 30), none, (.addo (.tmp 7) 0)⟩, ⟨none, none, (.st (.tmp 30) (.tmp 29))⟩] [16383, 8191, 4095, 2044, 1020, 256, 0, 124, 60, 28, 0, 4, 0, 1, 0])
  (.dreg [⟨(some 31), none, (.addo (.tmp 7) 1)⟩, ⟨(some 32), none, (.ld (.tmp 31) 1)⟩, ⟨(some 33), none, (.addo (.tmp 3) 0)⟩, ⟨(some 34), none, (.ld (.tmp 33) 1)⟩, ⟨(some 35), none, (.mov (.tmp 8))⟩, ⟨(some 36), none, (.idx (.tmp 34) (.tmp 35) 2)⟩, ⟨(some 37), none, (.addo (.tmp 36) 1)⟩, ⟨(some 38), none, (.ld (.tmp 37) 1)⟩, ⟨(some 39), none, (.addo (.tmp 3) 9)⟩, ⟨(some 40), none, (.ld (.tmp 39) 1)⟩, ⟨(some 41), none, (.ari .sub (.tmp 38) (.tmp 40))⟩, ⟨(some 42), none, (.mm false (.const (.int .i64 0)) (.tmp 41))⟩, ⟨(some 43), none, (.ari .add (.tmp 32) (.tmp 42))⟩, ⟨(some 44), none, (.addo (.tmp 7) 1)⟩, ⟨none, none, (.st (.tmp 44) (.tmp 43))⟩] [16383, 8191, 4095, 2044, 1020, 256, 0, 124, 60, 28, 0, 4, 0, 1, 0])))
  (.reg [⟨(some 15), none, (.mov (.tmp 8))⟩, ⟨(some 16), none, (.ari .add (.tmp 15) (.const (.int .i64 1)))⟩, ⟨(some 8), none, (.mov (.tmp 16))⟩])))
theorem L40x1 : low Try.prog Try.f40.ntmps (at_ Try.f40 [1, 1, 0, 1, 0, 0]) = some R40x1 := by kernel_rfl
theorem N43 : Try.f43.ntmps = 93 := by kernel_rfl
theorem Z43 : Try.f43.results.toList = ((List.toArray [(.tmp 8)]) : Array ResultVar).toList := by kernel_rfl
theorem B43 : Try.f43.body = some (at_ Try.f43 []) := by kernel_rfl
noncomputable def R43 : RC := (.seq (.reg [⟨(some 4), none, (.box 26 (.tmp 0))⟩, ⟨(some 8), none, (.mov (.const (.slice none 0 0)))⟩])
  (.seq (.reg [⟨(some 9), none, (.mov (.const (.slice none 0 0)))⟩])
  (.seq (.reg [⟨(some 15), none, (.addo (.tmp 4) 4)⟩, ⟨(some 16), none, (.lda (.tmp 15) 2)⟩, ⟨(some 10), none, (.alc 24 [(.int .i64 0), (.int .i64 0)])⟩, ⟨none, none, (.sta (.tmp 10) (.tmp 16) 2)⟩])
  (.seq (.seq (.reg [⟨(some 17), none, (.mov (.tmp 1))⟩, ⟨(some 11), none, (.mov (.tmp 17))⟩])
  (.block 0 (.other (at_ Try.f43 [1, 1, 1, 0, 1, 0]))))
  (.seq (.reg [⟨(some 92), none, (.mov (.tmp 9))⟩, ⟨(some 8), none, (.mov (.tmp 92))⟩])
  .ret)))))
theorem L43 : low Try.prog Try.f43.ntmps (at_ Try.f43 []) = some R43 := by kernel_rfl
theorem E43_1 : at_ Try.f43 [1, 1, 1, 0, 1, 0] = .loop (at_ Try.f43 [1, 1, 1, 0, 1, 0, 0]) := by kernel_rfl
noncomputable def R43x1 : RC := (.seq (.seq (.reg [⟨(some 18), none, (.mov (.tmp 11))⟩, ⟨(some 19), none, (.mov (.tmp 1))⟩, ⟨(some 20), none, (.mov (.tmp 2))⟩, ⟨(some 21), none, (.ari .add (.tmp 19) (.tmp 20))⟩, ⟨(some 22), none, (.cmp .lss (.tmp 18) (.tmp 21))⟩])
  (.cond (.tmp 22) .skip
  (.exit 0)))
  (.seq (.block 1 (.seq (.seq (.reg [⟨(some 12), none, (.mov (.const (.int .i64 0)))⟩])
  (.block 2 (.other (at_ Try.f43 [1, 1, 1, 0, 1, 0, 0, 1, 0, 0, 0, 1, 0]))))
  (.seq (.dreg [⟨(some 39), none, (.lda (.tmp 4) 13)⟩, ⟨(some 40), none, (.addo (.tmp 4) 0)⟩, ⟨(some 41), none, (.ld (.tmp 40) 1)⟩, ⟨(some 42), none, (.mov (.tmp 11))⟩, ⟨(some 43), none, (.idx (.tmp 41) (.tmp 42) 2)⟩, ⟨(some 44), none, (.addo (.tmp 43) 1)⟩, ⟨(some 45), none, (.ld (.tmp 44) 1)⟩, ⟨(some 46), none, (.call ⟨(.value (.func 67)), (List.toArray [(.tmp 39), (.tmp 45)]), (List.toArray [26, 3])⟩ false)⟩, ⟨(some 47), none, (.pur ⟨(some 47), (.field 24 (.tmp 46) 1), 3, "", (List.toArray []), none⟩)⟩, ⟨(some 48), none, (.lda (.tmp 4) 13)⟩, ⟨(some 49), none, (.addo (.tmp 4) 0)⟩, ⟨(some 50), none, (.ld (.tmp 49) 1)⟩, ⟨(some 51), none, (.mov (.tmp 11))⟩, ⟨(some 52), none, (.idx (.tmp 50) (.tmp 51) 2)⟩, ⟨(some 53), none, (.addo (.tmp 52) 0)⟩, ⟨(some 54), none, (.ld (.tmp 53) 1)⟩, ⟨(some 55), none, (.call ⟨(.value (.func 67)), (List.toArray [(.tmp 48), (.tmp 54)]), (List.toArray [26, 3])⟩ true)⟩, ⟨(some 56), none, (.pur ⟨(some 56), (.field 24 (.tmp 55) 0), 3, "", (List.toArray []), none⟩)⟩, ⟨(some 13), none, (.mov (.tmp 47))⟩, ⟨(some 14), none, (.mov (.tmp 56))⟩] [524287, 131071, 130815, 65279, 31744, 15360, 7168, 0, 1024, 0, 0, 255, 127, 62, 30, 14, 0, 2, 0, 0])
  (.seq (.dreg [⟨(some 57), none, (.addo (.tmp 4) 8)⟩, ⟨(some 58), none, (.ld (.tmp 57) 1)⟩, ⟨(some 59), none, (.addo (.tmp 10) 0)⟩, ⟨(some 60), none, (.ld (.tmp 59) 1)⟩, ⟨(some 61), none, (.addo (.tmp 4) 1)⟩, ⟨(some 62), none, (.ld (.tmp 61) 1)⟩, ⟨(some 63), none, (.mov (.tmp 11))⟩, ⟨(some 64), none, (.idx (.tmp 62) (.tmp 63) 2)⟩, ⟨(some 65), none, (.addo (.tmp 64) 0)⟩, ⟨(some 66), none, (.ld (.tmp 65) 1)⟩, ⟨(some 67), none, (.ari .add (.tmp 60) (.tmp 66))⟩, ⟨(some 68), none, (.mov (.tmp 13))⟩, ⟨(some 69), none, (.ari .sub (.tmp 67) (.tmp 68))⟩, ⟨(some 70), none, (.mm false (.const (.int .i64 0)) (.tmp 69))⟩, ⟨(some 71), none, (.mm true (.tmp 58) (.tmp 70))⟩, ⟨(some 72), none, (.addo (.tmp 4) 8)⟩, ⟨(some 73), none, (.ld (.tmp 72) 1)⟩, ⟨(some 74), none, (.addo (.tmp 10) 1)⟩, ⟨(some 75), none, (.ld (.tmp 74) 1)⟩, ⟨(some 76), none, (.addo (.tmp 4) 1)⟩, ⟨(some 77), none, (.ld (.tmp 76) 1)⟩, ⟨(some 78), none, (.mov (.tmp 11))⟩, ⟨(some 79), none, (.idx (.tmp 77) (.tmp 78) 2)⟩, ⟨(some 80), none, (.addo (.tmp 79) 1)⟩, ⟨(some 81), none, (.ld (.tmp 80) 1)⟩, ⟨(some 82), none, (.ari .add (.tmp 75) (.tmp 81))⟩, ⟨(some 83), none, (.mov (.tmp 14))⟩, ⟨(some 84), none, (.ari .sub (.tmp 82) (.tmp 83))⟩, ⟨(some 85), none, (.mm false (.const (.int .i64 0)) (.tmp 84))⟩, ⟨(some 86), none, (.mm true (.tmp 73) (.tmp 85))⟩, ⟨(some 87), none, (.pur ⟨(some 87), (.build 24 (List.toArray [(0, (.tmp 71)), (1, (.tmp 86))])), 24, "", (List.toArray []), none⟩)⟩, ⟨none, none, (.sta (.tmp 10) (.tmp 87) 2)⟩] [2147483647, 1073741823, 536838144, 268304384, 134086656, 0, 33423360, 16252928, 7864320, 3670016, 0, 524288, 0, 131072, 0, 32768, 0, 16383, 8188, 4092, 0, 1020, 496, 240, 112, 0, 16, 0, 4, 0, 1, 0])
  (.reg [⟨(some 88), none, (.mov (.tmp 9))⟩, ⟨(some 89), none, (.lda (.tmp 10) 2)⟩, ⟨(some 90), none, (.mem ⟨(some 90), (.buildSlice 22 1 (List.toArray [(0, (.tmp 89))])), 22, "", (List.toArray []), none⟩)⟩, ⟨(some 91), none, (.mem ⟨(some 91), (.call ⟨(.builtin .append), (List.toArray [(.tmp 88), (.tmp 90)]), (List.toArray [22, 22])⟩), 22, "", (List.toArray []), none⟩)⟩, ⟨(some 9), none, (.mov (.tmp 91))⟩])))))
  (.reg [⟨(some 23), none, (.mov (.tmp 11))⟩, ⟨(some 24), none, (.ari .add (.tmp 23) (.const (.int .i64 1)))⟩, ⟨(some 11), none, (.mov (.tmp 24))⟩])))
theorem L43x1 : low Try.prog Try.f43.ntmps (at_ Try.f43 [1, 1, 1, 0, 1, 0, 0]) = some R43x1 := by kernel_rfl
theorem E43_2 : at_ Try.f43 [1, 1, 1, 0, 1, 0, 0, 1, 0, 0, 0, 1, 0] = .loop (at_ Try.f43 [1, 1, 1, 0, 1, 0, 0, 1, 0, 0, 0, 1, 0, 0]) := by kernel_rfl
noncomputable def R43x2 : RC := (.seq (.seq (.reg [⟨(some 25), none, (.mov (.tmp 12))⟩, ⟨(some 26), none, (.mov (.tmp 3))⟩, ⟨(some 27), none, (.len (.tmp 26))⟩, ⟨(some 28), none, (.cmp .lss (.tmp 25) (.tmp 27))⟩])
  (.cond (.tmp 28) .skip
  (.exit 2)))
  (.seq (.block 3 (.seq (.reg [⟨(some 31), none, (.mov (.tmp 3))⟩, ⟨(some 32), none, (.mov (.tmp 12))⟩, ⟨(some 33), none, (.idx (.tmp 31) (.tmp 32) 1)⟩, ⟨(some 34), none, (.ld (.tmp 33) 1)⟩, ⟨(some 35), none, (.mov (.tmp 11))⟩, ⟨(some 36), none, (.cmp .eql (.tmp 34) (.tmp 35))⟩])
  (.cond (.tmp 36) (.reg [⟨(some 37), none, (.addo (.tmp 4) 6)⟩, ⟨(some 38), none, (.lda (.tmp 37) 2)⟩, ⟨none, none, (.sta (.tmp 10) (.tmp 38) 2)⟩])
  .skip)))
  (.reg [⟨(some 29), none, (.mov (.tmp 12))⟩, ⟨(some 30), none, (.ari .add (.tmp 29) (.const (.int .i64 1)))⟩, ⟨(some 12), none, (.mov (.tmp 30))⟩])))
theorem L43x2 : low Try.prog Try.f43.ntmps (at_ Try.f43 [1, 1, 1, 0, 1, 0, 0, 1, 0, 0, 0, 1, 0, 0]) = some R43x2 := by kernel_rfl
theorem N45 : Try.f45.ntmps = 70 := by kernel_rfl
theorem Z45 : Try.f45.results.toList = ((List.toArray [(.tmp 8), (.tmp 9)]) : Array ResultVar).toList := by kernel_rfl
theorem B45 : Try.f45.body = some (at_ Try.f45 []) := by kernel_rfl
noncomputable def R45 : RC := (.seq (.reg [⟨(some 4), none, (.box 26 (.tmp 0))⟩, ⟨(some 8), none, (.mov (.const (.int .i64 0)))⟩, ⟨(some 9), none, (.mov (.const (.int .i64 0)))⟩])
  (.seq (.reg [⟨(some 15), none, (.lda (.tmp 4) 13)⟩, ⟨(some 16), none, (.mov (.tmp 1))⟩, ⟨(some 17), none, (.mov (.tmp 2))⟩, ⟨(some 18), none, (.call ⟨(.value (.func 40)), (List.toArray [(.tmp 15), (.tmp 16), (.tmp 17)]), (List.toArray [26, 3, 3])⟩ true)⟩, ⟨(some 10), none, (.alc 24 [(.int .i64 0), (.int .i64 0)])⟩, ⟨none, none, (.sta (.tmp 10) (.tmp 18) 2)⟩])
  (.seq (.reg [⟨(some 11), none, (.mov (.const (.int .i64 0)))⟩, ⟨(some 12), none, (.mov (.const (.int .i64 0)))⟩])
  (.seq (.reg [⟨(some 19), none, (.lda (.tmp 4) 13)⟩, ⟨(some 20), none, (.mov (.tmp 1))⟩, ⟨(some 21), none, (.mov (.tmp 2))⟩, ⟨(some 22), none, (.mov (.tmp 3))⟩, ⟨(some 23), none, (.call ⟨(.value (.func 43)), (List.toArray [(.tmp 19), (.tmp 20), (.tmp 21), (.tmp 22)]), (List.toArray [26, 3, 3, 27])⟩ true)⟩, ⟨(some 13), none, (.mov (.tmp 23))⟩])
  (.seq (.seq (.reg [⟨(some 14), none, (.mov (.const (.int .i64 0)))⟩])
  (.block 0 (.other (at_ Try.f45 [1, 1, 1, 1, 0, 1, 0]))))
  (.seq (.dreg [⟨(some 50), none, (.addo (.tmp 10) 1)⟩, ⟨(some 51), none, (.ld (.tmp 50) 1)⟩, ⟨(some 52), none, (.addo (.tmp 4) 10)⟩, ⟨(some 53), none, (.ld (.tmp 52) 1)⟩, ⟨(some 54), none, (.cmp .geq (.tmp 51) (.tmp 53))⟩, ⟨(some 55), none, (.addo (.tmp 10) 0)⟩, ⟨(some 56), none, (.ld (.tmp 55) 1)⟩, ⟨(some 57), none, (.addo (.tmp 4) 10)⟩, ⟨(some 58), none, (.ld (.tmp 57) 1)⟩, ⟨(some 59), none, (.cmp .geq (.tmp 56) (.tmp 58))⟩, ⟨(some 60), none, (.call ⟨(.value (.func 68)), (List.toArray [(.tmp 54), (.tmp 59)]), (List.toArray [4, 4])⟩ false)⟩, ⟨(some 61), none, (.mov (.tmp 12))⟩, ⟨(some 62), none, (.addo (.tmp 4) 12)⟩, ⟨(some 63), none, (.ld (.tmp 62) 1)⟩, ⟨(some 64), none, (.cmp .gtr (.tmp 61) (.tmp 63))⟩, ⟨(some 65), none, (.mov (.tmp 11))⟩, ⟨(some 66), none, (.addo (.tmp 4) 12)⟩, ⟨(some 67), none, (.ld (.tmp 66) 1)⟩, ⟨(some 68), none, (.cmp .gtr (.tmp 65) (.tmp 67))⟩, ⟨(some 69), none, (.call ⟨(.value (.func 68)), (List.toArray [(.tmp 64), (.tmp 68)]), (List.toArray [4, 4])⟩ true)⟩, ⟨(some 8), none, (.mov (.tmp 60))⟩, ⟨(some 9), none, (.mov (.tmp 69))⟩] [2097151, 1048575, 524287, 229376, 65536, 0, 0, 14336, 4096, 0, 0, 1023, 480, 128, 0, 32, 0, 15, 4, 0, 1, 0])
  .ret))))))
theorem L45 : low Try.prog Try.f45.ntmps (at_ Try.f45 []) = some R45 := by kernel_rfl
theorem E45_1 : at_ Try.f45 [1, 1, 1, 1, 0, 1, 0] = .loop (at_ Try.f45 [1, 1, 1, 1, 0, 1, 0, 0]) := by kernel_rfl
noncomputable def R45x1 : RC := (.seq (.seq (.reg [⟨(some 24), none, (.mov (.tmp 14))⟩, ⟨(some 25), none, (.mov (.tmp 13))⟩, ⟨(some 26), none, (.len (.tmp 25))⟩, ⟨(some 27), none, (.cmp .lss (.tmp 24) (.tmp 26))⟩])
  (.cond (.tmp 27) .skip
  (.exit 0)))
  (.seq (.block 1 (.seq (.seq (.dreg [⟨(some 30), none, (.mov (.tmp 13))⟩, ⟨(some 31), none, (.mov (.tmp 14))⟩, ⟨(some 32), none, (.idx (.tmp 30) (.tmp 31) 2)⟩, ⟨(some 33), none, (.addo (.tmp 32) 0)⟩, ⟨(some 34), none, (.ld (.tmp 33) 1)⟩, ⟨(some 35), none, (.addo (.tmp 4) 11)⟩, ⟨(some 36), none, (.ld (.tmp 35) 1)⟩, ⟨(some 37), none, (.cmp .lss (.tmp 34) (.tmp 36))⟩] [127, 32, 0, 15, 7, 3, 0, 0])
  (.cond (.tmp 37) (.reg [⟨(some 38), none, (.mov (.tmp 12))⟩, ⟨(some 39), none, (.ari .add (.tmp 38) (.const (.int .i64 1)))⟩, ⟨(some 12), none, (.mov (.tmp 39))⟩])
  .skip))
  (.seq (.dreg [⟨(some 40), none, (.mov (.tmp 13))⟩, ⟨(some 41), none, (.mov (.tmp 14))⟩, ⟨(some 42), none, (.idx (.tmp 40) (.tmp 41) 2)⟩, ⟨(some 43), none, (.addo (.tmp 42) 1)⟩, ⟨(some 44), none, (.ld (.tmp 43) 1)⟩, ⟨(some 45), none, (.addo (.tmp 4) 11)⟩, ⟨(some 46), none, (.ld (.tmp 45) 1)⟩, ⟨(some 47), none, (.cmp .lss (.tmp 44) (.tmp 46))⟩] [127, 32, 0, 15, 7, 3, 0, 0])
  (.cond (.tmp 47) (.reg [⟨(some 48), none, (.mov (.tmp 11))⟩, ⟨(some 49), none, (.ari .add (.tmp 48) (.const (.int .i64 1)))⟩, ⟨(some 11), none, (.mov (.tmp 49))⟩])
  .skip))))
  (.reg [⟨(some 28), none, (.mov (.tmp 14))⟩, ⟨(some 29), none, (.ari .add (.tmp 28) (.const (.int .i64 1)))⟩, ⟨(some 14), none, (.mov (.tmp 29))⟩])))
theorem L45x1 : low Try.prog Try.f45.ntmps (at_ Try.f45 [1, 1, 1, 1, 0, 1, 0, 0]) = some R45x1 := by kernel_rfl
theorem N67 : Try.f67.ntmps = 19 := by kernel_rfl
theorem Z67 : Try.f67.results.toList = ((List.toArray [(.cell 4 24)]) : Array ResultVar).toList := by kernel_rfl
theorem B67 : Try.f67.body = some (at_ Try.f67 []) := by kernel_rfl
noncomputable def R67 : RC := (.seq (.reg [⟨(some 2), none, (.box 26 (.tmp 0))⟩, ⟨(some 4), none, (.alc 24 [(.int .i64 0), (.int .i64 0)])⟩])
  (.seq (.reg [⟨(some 5), none, (.addo (.tmp 2) 2)⟩, ⟨(some 6), none, (.addo (.tmp 5) 0)⟩, ⟨(some 7), none, (.ld (.tmp 6) 1)⟩, ⟨(some 8), none, (.mov (.tmp 1))⟩, ⟨(some 9), none, (.ari .mul (.tmp 7) (.tmp 8))⟩, ⟨(some 10), none, (.ari .quo (.tmp 9) (.const (.int .i64 100)))⟩, ⟨(some 11), none, (.addo (.tmp 2) 2)⟩, ⟨(some 12), none, (.addo (.tmp 11) 1)⟩, ⟨(some 13), none, (.ld (.tmp 12) 1)⟩, ⟨(some 14), none, (.mov (.tmp 1))⟩, ⟨(some 15), none, (.ari .mul (.tmp 13) (.tmp 14))⟩, ⟨(some 16), none, (.ari .add (.tmp 15) (.const (.int .i64 99)))⟩, ⟨(some 17), none, (.ari .quo (.tmp 16) (.const (.int .i64 100)))⟩, ⟨(some 18), none, (.pur ⟨(some 18), (.build 24 (List.toArray [(0, (.tmp 10)), (1, (.tmp 17))])), 24, "", (List.toArray []), none⟩)⟩, ⟨none, none, (.sta (.tmp 4) (.tmp 18) 2)⟩])
  .ret))
theorem L67 : low Try.prog Try.f67.ntmps (at_ Try.f67 []) = some R67 := by kernel_rfl
theorem N68 : Try.f68.ntmps = 7 := by kernel_rfl
theorem Z68 : Try.f68.results.toList = ((List.toArray [(.tmp 4)]) : Array ResultVar).toList := by kernel_rfl
theorem B68 : Try.f68.body = some (at_ Try.f68 []) := by kernel_rfl
noncomputable def R68 : RC := (.seq (.reg [⟨(some 4), none, (.mov (.const (.int .i64 0)))⟩])
  (.seq (.seq (.reg [⟨(some 5), none, (.mov (.tmp 1))⟩])
  (.cond (.tmp 5) (.seq (.reg [⟨(some 4), none, (.mov (.const (.int .i64 2)))⟩])
  .ret)
  .skip))
  (.seq (.seq (.reg [⟨(some 6), none, (.mov (.tmp 0))⟩])
  (.cond (.tmp 6) (.seq (.reg [⟨(some 4), none, (.mov (.const (.int .i64 1)))⟩])
  .ret)
  .skip))
  (.seq (.reg [⟨(some 4), none, (.mov (.const (.int .i64 0)))⟩])
  .ret))))
theorem L68 : low Try.prog Try.f68.ntmps (at_ Try.f68 []) = some R68 := by kernel_rfl
end Go.Ax

/-
  Late: the document's functions: spans compared, what is used, sureness, the warmth (21, 67, 68, 40) (written by program).
-/
namespace Go.Ax
open Go Go.RowKit Go.Proofs

theorem prun_bind {P : Program} {α β : Type} (f : α → Sem β) : ∀ (x : Sem α), prun P (x >>= f) = match prun P x with | some a => prun P (f a) | none => none := by
  intro x
  induction x with
  | pure a => rfl
  | program k ih => exact ih P
  | _ => rfl
theorem prun_pure {P : Program} {α : Type} (a : α) : prun P (pure a) = some a := rfl
theorem prun_und : prun Try.prog (underlying 3) = some (.int .i64) := by kernel_rfl
theorem prun_eqi (d : Nat) (a b : Int) : prun Try.prog (Op.equalIn (d + 1) 3 (iv a) (iv b)) = some (a == b) := by
  rw [Op.equalIn]
  rw [prun_bind, prun_und]
  rfl
theorem md : Op.maxDepth = 9998 + 2 := by decide
theorem flB_get {g : Lt} {a b : Int} (h : flB g a b = true) : ∃ s d : Nat, a = s ∧ b = d ∧ s + d ≤ g.wn := by
  simp only [flB, inB, Bool.and_eq_true, decide_eq_true_eq] at h
  exact ⟨a.toNat, b.toNat, by omega, by omega, by omega⟩
section
variable {kn : FuncId → Option Bool} {lo : Nat} {H : Hp}
theorem used67_ok {g : Lt} {x : Int} (v : g.Vd) (hx : 0 ≤ x ∧ x ≤ 5000) (hlo : lo ≤ H.next) : ∃ H', FnX Try.prog kn lo 67 [.agg g.v.toArray, iv x] H (spv (g.r1 * x / 100) ((g.r2 * x + 99) / 100)) H' ∧ Keep H H' [] := by
  have key := fnX_low (kn := kn) (lo := lo) (H := H) (args := [.agg g.v.toArray, iv x]) (Q := fun w H' => w = spv (g.r1 * x / 100) ((g.r2 * x + 99) / 100) ∧ Keep H H' []) Try.func67 B67 N67 Z67 L67 (by simp) ?_
  · obtain ⟨w, H', h, rfl, q⟩ := key; exact ⟨H', h, q⟩
  have hr := v.r
  have m1 := mul_rng (a := g.r1) (b := x) (p := 1000) (q := 5000) ⟨by omega, by omega⟩ hx
  have m2 := mul_rng (a := g.r2) (b := x) (p := 1000) (q := 5000) ⟨by omega, by omega⟩ hx
  have hk := Keep.refl H []
  intro H1 hH1; obtain ⟨kH1, nH1, c1⟩ := new_facts hH1; clear hH1
  have mH1 := kH1.1
  have hk := hk.trans kH1
  have c1 : Cl H1 H.next [.slice g.wa g.wn g.wcap, .slice g.aa g.an g.acap, iv g.r1, iv g.r2, iv g.f1, iv g.f2, iv g.g1, iv g.g2, iv g.full, iv g.base, iv g.kill, iv g.need, iv g.bear] := c1
  intro H2 hH2; obtain ⟨kH2, nH2, c2⟩ := new_facts hH2; clear hH2
  have c2 : Cl H2 H1.next [iv 0, iv 0] := c2
  have mH2 := kH2.1
  have hk := hk.trans kH2
  have c1 := kH2.cl c1 (by simp)
  refine Exists.intro _ (Exists.intro _ (And.intro c1.of (And.intro (show _ = some (iv g.r1) from rfl) ?_)))
  refine And.intro (show InR (g.r1 * x) from ⟨by omega, by omega⟩) ?_
  refine And.intro (by omega) (And.intro (by omega) (And.intro ⟨by omega, by omega⟩ ?_))
  refine Exists.intro _ (Exists.intro _ (And.intro c1.of (And.intro (show _ = some (iv g.r2) from rfl) ?_)))
  refine And.intro (show InR (g.r2 * x) from ⟨by omega, by omega⟩) ?_
  refine And.intro (show InR ((g.r2 * x) + 99) from ⟨by omega, by omega⟩) ?_
  refine And.intro (by omega) (And.intro (by omega) (And.intro ⟨by omega, by omega⟩ ?_))
  refine And.intro rfl (Exists.intro (.agg #[iv ((g.r1 * x) / 100), iv (((g.r2 * x) + 99) / 100)]) (And.intro (by kernel_rfl) ?_))
  obtain ⟨_, eH3, lH3, gH3⟩ := id c2
  refine Exists.intro _ (Exists.intro _ (Exists.intro _ (And.intro gH3 (And.intro (by omega) (And.intro rfl (And.intro rfl (And.intro (by simp) ?_)))))))
  intro H3 hH3; obtain ⟨kH3, nH3, sH3⟩ := up_facts c2 hH3; clear hH3
  have mH3 := kH3.1
  have hk := hk.new kH3 (fun b hb => by simp at hb ⊢; omega)
  have c1 := kH3.cl c1 (by first | (simp; done) | (simp; omega))
  have c2 : Cl H3 H1.next [iv ((g.r1 * x) / 100), iv (((g.r2 * x) + 99) / 100)] := sH3
  exact And.intro trivial (Exists.intro _ (And.intro (res_cell rfl a24 i24s rfl c2) ⟨rfl, hk⟩))
theorem sure68_ok {s a : Bool} : ∃ H', FnX Try.prog kn lo 68 [.bool s, .bool a] H (iv (sureV a s)) H' ∧ Keep H H' [] := by
  have key := fnX_low (kn := kn) (lo := lo) (H := H) (args := [.bool s, .bool a]) (Q := fun w H' => w = iv (sureV a s) ∧ Keep H H' []) Try.func68 B68 N68 Z68 L68 (by simp) ?_
  · obtain ⟨w, H', h, rfl, q⟩ := key; exact ⟨H', h, q⟩
  have hk := Keep.refl H []
  cases s <;> cases a
  · refine condF ?_
    refine condF ?_
    exact And.intro trivial (Exists.intro _ (And.intro rfl ⟨rfl, hk⟩))
  · refine condT ?_
    exact And.intro trivial (Exists.intro _ (And.intro rfl ⟨rfl, hk⟩))
  · refine condF ?_
    refine condT ?_
    exact And.intro trivial (Exists.intro _ (And.intro rfl ⟨rfl, hk⟩))
  · refine condT ?_
    exact And.intro trivial (Exists.intro _ (And.intro rfl ⟨rfl, hk⟩))
theorem warm40_ok {g : Lt} (v : g.Vd) {s d : Nat} (hsd : s + d ≤ g.wn) (hw : Sl H g.wa g.wn g.wcap (spc g.ws)) (hlo : lo ≤ H.next) :
    ∃ H', FnX Try.prog kn lo 40 [.agg g.v.toArray, iv (s : Int), iv (d : Int)] H (spv (g.wl s d) (g.wh s d)) H' ∧ Keep H H' [] := by
  have key := fnX_low (kn := kn) (lo := lo) (H := H) (args := [.agg g.v.toArray, iv (s : Int), iv (d : Int)]) (Q := fun w H' => w = spv (g.wl s d) (g.wh s d) ∧ Keep H H' []) Try.func40 B40 N40 Z40 L40 (by simp) ?_
  · obtain ⟨w, H', h, rfl, q⟩ := key; exact ⟨H', h, q⟩
  have hk := Keep.refl H []
  have fw := hw.old; have hn40 := v.n40
  intro H1 hH1; obtain ⟨kH1, nH1, c1⟩ := new_facts hH1; clear hH1
  have mH1 := kH1.1
  have hk := hk.trans kH1
  have hw := kH1.sl0 hw
  have c1 : Cl H1 H.next [.slice g.wa g.wn g.wcap, .slice g.aa g.an g.acap, iv g.r1, iv g.r2, iv g.f1, iv g.f2, iv g.g1, iv g.g2, iv g.full, iv g.base, iv g.kill, iv g.need, iv g.bear] := c1
  intro H2 hH2; obtain ⟨kH2, nH2, c2⟩ := new_facts hH2; clear hH2
  have c2 : Cl H2 H1.next [iv 0, iv 0] := c2
  have mH2 := kH2.1
  have hk := hk.trans kH2
  have hw := kH2.sl0 hw
  have c1 := kH2.cl c1 (by simp)
  intro H3 hH3; obtain ⟨kH3, nH3, c3⟩ := new_facts hH3; clear hH3
  have c3 : Cl H3 H2.next [iv 0, iv 0] := c3
  have mH3 := kH3.1
  have hk := hk.trans kH3
  have hw := kH3.sl0 hw
  have c1 := kH3.cl c1 (by simp)
  have c2 := kH3.cl c2 (by simp)
  obtain ⟨z0, hz0⟩ : ∃ z, z = H.next := ⟨_, rfl⟩
  obtain ⟨z1, hz1⟩ : ∃ z, z = H1.next := ⟨_, rfl⟩
  obtain ⟨z2, hz2⟩ : ∃ z, z = H2.next := ⟨_, rfl⟩
  have b36 : z0 < z1 ∧ z1 < z2 ∧ H.next ≤ z0 := by omega
  rw [← hz0] at c1
  rw [← hz1] at c2
  rw [← hz2] at c3
  rw [← hz0, ← hz1, ← hz2]
  clear hz0 hz1 hz2
  refine loop_low (fn := Try.f40) E40_1 N40 L40x1 (fun k : Nat => [(1, iv (s : Int)), (2, iv (d : Int)), (3, pt z0), (6, pt z1), (7, pt z2), (8, iv ((s + k : Nat) : Int))])
    (fun q k H' => k + q = d ∧ Keep H H' [] ∧ Sl H' g.wa g.wn g.wcap (spc g.ws) ∧ Cl H' z0 g.v ∧ Cl H' z1 [iv 0, iv 0] ∧ Cl H' z2 [iv (g.wl s k), iv (g.wh s k)]) d 0 ⟨by omega, hk, hw, c1, c2, c3⟩ ⟨rfl, rfl, rfl, rfl, rfl, rfl, trivial⟩ ?_
  rintro q k L1 ⟨hik, hk, hw, c3, c6, c7⟩
  have hm := hk.1
  have l3 := c3.lt
  have l6 := c6.lt
  have l7 := c7.lt
  have hwb := fun h : s + k ≤ g.wn => Lt.wl_in (s := s) v k h
  refine And.intro (show InR ((s : Int) + (d : Int)) from ⟨by omega, by omega⟩) ?_
  refine And.intro (fun q1 => ?_) (fun q1 => ?_)
  · have q1 : ((s + k : Nat) : Int) < ((s : Int) + (d : Int)) := of_decide_eq_true q1
    have hkd : k < d := by omega
    have hsw : s + k < g.wn := by omega
    have hW := Lt.W_in v hsw; have hbb := v.b; have hwb := hwb (by omega)
    rcases hw with ⟨_, h0, _⟩ | ⟨wb, ewa, hwd, qw⟩
    · omega
    have lwb := fw wb ewa
    refine wD_seq ?_
    refine wD_addo (b := z2) (o := 0) rfl ?_
    refine wD_ld (b := z2) (o := 0) (v := iv (g.wl s k)) rfl c7.rd rfl ?_
    refine wD_addo (b := z0) (o := 0) rfl ?_
    refine wD_ld (b := z0) (o := 0) (v := .slice (some ⟨wb, 0, none⟩) g.wn g.wcap) rfl c3.rd (show _ = some (Value.slice (some ⟨wb, 0, none⟩) g.wn g.wcap) from by rw [← ewa]; rfl) ?_
    refine wD_mov (v := iv ((s + k : Nat) : Int)) rfl ?_
    refine wD_idx (b := wb) (o := 0) (k := (s + k)) (j := ((s + k : Nat) : Int)) rfl rfl rfl hsw ?_
    refine wD_addo (b := wb) (o := 0 + (s + k) * 2) rfl ?_
    refine wD_ld (b := wb) (o := 0 + (s + k) * 2) (v := iv ((g.W (s + k)).1)) rfl hwd (span_get hW.1).1 ?_
    refine wD_addo (b := z0) (o := 0) rfl ?_
    refine wD_ld (b := z0) (o := 9) (v := iv g.base) rfl c3.rd rfl ?_
    refine wD_sub (a := (g.W (s + k)).1) (b := g.base) rfl rfl ⟨by omega, by omega⟩ ?_
    refine wD_mm (a := 0) (b := ((g.W (s + k)).1) - g.base) rfl rfl ?_
    refine wD_add (a := g.wl s k) (b := max 0 (((g.W (s + k)).1) - g.base)) rfl rfl ⟨by omega, by omega⟩ ?_
    refine wD_addo (b := z2) (o := 0) rfl ?_
    refine wD_st (b := z2) (o := 0) rfl rfl c7 (by omega) rfl rfl (by simp) ?_
    intro H4 kH4 nH4 sH4
    have mH4 := kH4.1
    have hk := hk.new kH4 (fun b hb => by simp at hb ⊢; omega)
    have c3 := kH4.cl c3 (by first | (simp; done) | (simp; omega))
    have c6 := kH4.cl c6 (by first | (simp; done) | (simp; omega))
    have hwd := kH4.rd hwd (by first | (simp; done) | (simp; omega))
    have c7 : Cl H4 z2 [iv ((g.wl s k) + (max 0 (((g.W (s + k)).1) - g.base))), iv (g.wh s k)] := sH4
    refine wD_end (by repeat' first | exact True.intro | exact (fun h => h) | refine And.intro ?_ ?_ | (intro h; have h : (_ : Nat) = _ := h; omega)) ?_
    refine wD_dreg ?_
    refine wD_addo (b := z2) (o := 0) rfl ?_
    refine wD_ld (b := z2) (o := 1) (v := iv (g.wh s k)) rfl c7.rd rfl ?_
    refine wD_addo (b := z0) (o := 0) rfl ?_
    refine wD_ld (b := z0) (o := 0) (v := .slice (some ⟨wb, 0, none⟩) g.wn g.wcap) rfl c3.rd (show _ = some (Value.slice (some ⟨wb, 0, none⟩) g.wn g.wcap) from by rw [← ewa]; rfl) ?_
    refine wD_mov (v := iv ((s + k : Nat) : Int)) rfl ?_
    refine wD_idx (b := wb) (o := 0) (k := (s + k)) (j := ((s + k : Nat) : Int)) rfl rfl rfl hsw ?_
    refine wD_addo (b := wb) (o := 0 + (s + k) * 2) rfl ?_
    refine wD_ld (b := wb) (o := 0 + (s + k) * 2 + 1) (v := iv ((g.W (s + k)).2)) rfl hwd (span_get hW.1).2 ?_
    refine wD_addo (b := z0) (o := 0) rfl ?_
    refine wD_ld (b := z0) (o := 9) (v := iv g.base) rfl c3.rd rfl ?_
    refine wD_sub (a := (g.W (s + k)).2) (b := g.base) rfl rfl ⟨by omega, by omega⟩ ?_
    refine wD_mm (a := 0) (b := ((g.W (s + k)).2) - g.base) rfl rfl ?_
    refine wD_add (a := g.wh s k) (b := max 0 (((g.W (s + k)).2) - g.base)) rfl rfl ⟨by omega, by omega⟩ ?_
    refine wD_addo (b := z2) (o := 0) rfl ?_
    refine wD_st (b := z2) (o := 1) rfl rfl c7 (by omega) rfl rfl (by simp) ?_
    intro H5 kH5 nH5 sH5
    have mH5 := kH5.1
    have hk := hk.new kH5 (fun b hb => by simp at hb ⊢; omega)
    have c3 := kH5.cl c3 (by first | (simp; done) | (simp; omega))
    have c6 := kH5.cl c6 (by first | (simp; done) | (simp; omega))
    have hwd := kH5.rd hwd (by first | (simp; done) | (simp; omega))
    have c7 : Cl H5 z2 [iv ((g.wl s k) + (max 0 (((g.W (s + k)).1) - g.base))), iv ((g.wh s k) + (max 0 (((g.W (s + k)).2) - g.base)))] := sH5
    refine wD_end (by repeat' first | exact True.intro | exact (fun h => h) | refine And.intro ?_ ?_ | (intro h; have h : (_ : Nat) = _ := h; omega)) ?_
    refine And.intro (show InR (((s + k : Nat) : Int) + 1) from ⟨by omega, by omega⟩) ?_
    exact ⟨q - 1, k + 1, by omega, ⟨by omega, hk, .inr ⟨wb, ewa, hwd, qw⟩, c3, c6, c7⟩, rfl, rfl, rfl, rfl, rfl, rfl, trivial⟩
  · have q1 : ¬ (((s + k : Nat) : Int) < ((s : Int) + (d : Int))) := of_decide_eq_false q1
    have hkd : k = d := by omega
    subst hkd
    refine Exists.intro _ (Exists.intro _ (And.intro c7.of (And.intro (show row 2 _ _ = some [iv (g.wl s k), iv (g.wh s k)] from rfl) ?_)))
    obtain ⟨_, eH6, lH6, gH6⟩ := id c6
    refine Exists.intro _ (Exists.intro _ (Exists.intro _ (And.intro gH6 (And.intro (by omega) (And.intro rfl (And.intro rfl (And.intro (by simp) ?_)))))))
    intro H6 hH6; obtain ⟨kH6, nH6, sH6⟩ := up_facts c6 hH6; clear hH6
    have mH6 := kH6.1
    have hk := hk.new kH6 (fun b hb => by simp at hb ⊢; omega)
    have hw := kH6.sl hw (fun b e => by have := fw b e; first | (simp; done) | (simp; omega))
    have c3 := kH6.cl c3 (by first | (simp; done) | (simp; omega))
    have c7 := kH6.cl c7 (by first | (simp; done) | (simp; omega))
    have c6 : Cl H6 z1 [iv (g.wl s k), iv (g.wh s k)] := sH6
    exact And.intro trivial (Exists.intro _ (And.intro (res_cell rfl a24 i24s rfl c6) ⟨rfl, hk⟩))
end
end Go.Ax

/-
  Late: the document's functions: the oxygen (43) (written by program).
-/
namespace Go.Ax
open Go Go.RowKit Go.Proofs

/-- a number, or another one if a day is among the first of a list -/
def nowV (us : List Int) (j : Nat) (x a b : Int) : Int := bif (us.take j).contains x then a else b
theorem nowV_zero {us : List Int} {x a b : Int} : nowV us 0 x a b = b := by simp [nowV]
theorem nowV_hit {us : List Int} {j : Nat} {x y a b : Int} (hy : us[j]? = some y) (h : x = y) : nowV us (j + 1) x a b = a := by
  unfold nowV
  rw [List.take_add_one, hy]
  have : (us.take j ++ (some y).toList).contains x = true := by rw [List.contains_iff_mem, h]; simp
  rw [this]; rfl
theorem nowV_miss {us : List Int} {j : Nat} {x y a b : Int} (hy : us[j]? = some y) (h : ¬ x = y) : nowV us (j + 1) x a b = nowV us j x a b := by
  unfold nowV
  rw [List.take_add_one, hy]
  have : (us.take j ++ (some y).toList).contains x = (us.take j).contains x := by
    rw [Bool.eq_iff_iff, List.contains_iff_mem, List.contains_iff_mem, List.mem_append]
    constructor
    · rintro (q | q)
      · exact q
      · simp at q; exact absurd q h
    · exact fun q => .inl q
  rw [this]
theorem nowV_in {us : List Int} {j : Nat} {x a b l m : Int} (ha : l ≤ a ∧ a ≤ m) (hb : l ≤ b ∧ b ≤ m) : l ≤ nowV us j x a b ∧ nowV us j x a b ≤ m := by
  unfold nowV
  cases (us.take j).contains x <;> simp only [cond_true, cond_false] <;> assumption
theorem lo_next {g : Lt} {us : List Int} {s k n : Nat} (hF : ∀ i : Nat, (dayMask us).testBit i = us.contains (i : Int)) (hn : us.length = n) : min g.full (max 0 (nowV us n ((s + k : Nat) : Int) g.g1 (g.lo s (Nat.testBit (dayMask us)) k) + (g.A (s + k)).1 - (g.r2 * (g.W (s + k)).2 + 99) / 100)) = g.lo s (Nat.testBit (dayMask us)) (k + 1) := by
  rw [Lt.lo]
  unfold nowV Lt.loDay
  rw [List.take_of_length_le (by omega), ← hF]
  omega
theorem hi_next {g : Lt} {us : List Int} {s k n : Nat} (hF : ∀ i : Nat, (dayMask us).testBit i = us.contains (i : Int)) (hn : us.length = n) : min g.full (max 0 (nowV us n ((s + k : Nat) : Int) g.g2 (g.hi s (Nat.testBit (dayMask us)) k) + (g.A (s + k)).2 - g.r1 * (g.W (s + k)).1 / 100)) = g.hi s (Nat.testBit (dayMask us)) (k + 1) := by
  rw [Lt.hi]
  unfold nowV Lt.hiDay
  rw [List.take_of_length_le (by omega), ← hF]
  omega
section
variable {kn : FuncId → Option Bool} {lo : Nat} {H : Hp}
theorem levels_ok {g : Lt} (v : g.Vd) {s d : Nat} (hsd : s + d ≤ g.wn) {la : Option Addr} {n cap : Nat} {us : List Int} (hw : Sl H g.wa g.wn g.wcap (spc g.ws)) (ha : Sl H g.aa g.an g.acap (spc g.as)) (hl : Sl H la n cap (ints us)) (hul : us.length = n) (hn : n ≤ 1000)
    (hF : ∀ i : Nat, (dayMask us).testBit i = us.contains (i : Int)) (hlo : lo ≤ H.next) :
    ∃ w H', FnX Try.prog kn lo 43 [.agg g.v.toArray, iv (s : Int), iv (d : Int), .slice la n cap] H w H' ∧ Keep H H' [] ∧ ∃ ta tc, w = .slice ta d tc ∧ Sl H' ta d tc (spc (g.ox s (Nat.testBit (dayMask us)) d)) := by
  refine fnX_low (kn := kn) (lo := lo) (H := H) (args := [.agg g.v.toArray, iv (s : Int), iv (d : Int), .slice la n cap]) (Q := fun w H' => Keep H H' [] ∧ ∃ ta tc, w = .slice ta d tc ∧ Sl H' ta d tc (spc (g.ox s (Nat.testBit (dayMask us)) d))) Try.func43 B43 N43 Z43 L43 (by simp) ?_
  have hk := Keep.refl H []
  have fw := hw.old; have fa := ha.old; have fl := hl.old
  have hfu := v.fu; have hr := v.r; have hf1 := v.f; have hgr := v.gr; have hnn := v.n; have hn40 := v.n40; have hb := v.b
  intro H1 hH1; obtain ⟨kH1, nH1, c1⟩ := new_facts hH1; clear hH1
  have mH1 := kH1.1
  have hk := hk.trans kH1
  have hw := kH1.sl0 hw
  have ha := kH1.sl0 ha
  have hl := kH1.sl0 hl
  have c1 : Cl H1 H.next [.slice g.wa g.wn g.wcap, .slice g.aa g.an g.acap, iv g.r1, iv g.r2, iv g.f1, iv g.f2, iv g.g1, iv g.g2, iv g.full, iv g.base, iv g.kill, iv g.need, iv g.bear] := c1
  refine Exists.intro _ (Exists.intro _ (And.intro c1.of (And.intro (show row 2 _ _ = some [iv g.f1, iv g.f2] from rfl) ?_)))
  intro H2 hH2; obtain ⟨kH2, nH2, c2⟩ := new_facts hH2; clear hH2
  have c2 : Cl H2 H1.next [iv 0, iv 0] := c2
  have mH2 := kH2.1
  have hk := hk.trans kH2
  have hw := kH2.sl0 hw
  have ha := kH2.sl0 ha
  have hl := kH2.sl0 hl
  have c1 := kH2.cl c1 (by simp)
  obtain ⟨_, eH3, lH3, gH3⟩ := id c2
  refine Exists.intro _ (Exists.intro _ (Exists.intro _ (And.intro gH3 (And.intro (by omega) (And.intro rfl (And.intro rfl (And.intro (by simp) ?_)))))))
  intro H3 hH3; obtain ⟨kH3, nH3, sH3⟩ := up_facts c2 hH3; clear hH3
  have mH3 := kH3.1
  have hk := hk.new kH3 (fun b hb => by simp at hb ⊢; omega)
  have hw := kH3.sl hw (fun b e => by have := fw b e; first | (simp; done) | (simp; omega))
  have ha := kH3.sl ha (fun b e => by have := fa b e; first | (simp; done) | (simp; omega))
  have hl := kH3.sl hl (fun b e => by have := fl b e; first | (simp; done) | (simp; omega))
  have c1 := kH3.cl c1 (by first | (simp; done) | (simp; omega))
  have c2 : Cl H3 H1.next [iv g.f1, iv g.f2] := sH3
  obtain ⟨z0, hz0⟩ : ∃ z, z = H.next := ⟨_, rfl⟩
  obtain ⟨z1, hz1⟩ : ∃ z, z = H1.next := ⟨_, rfl⟩
  obtain ⟨ff, hff⟩ : ∃ z, z = H3.next := ⟨_, rfl⟩
  have b36 : z0 < z1 ∧ z1 < ff ∧ H.next ≤ z0 := by omega
  rw [← hz0] at c1
  rw [← hz1] at c2
  rw [← hz0, ← hz1]
  have hfm : ff ≤ H3.next := by omega
  clear hz0 hz1 hff
  refine loop_low (fn := Try.f43) E43_1 N43 L43x1 (fun x : Value × Nat => [(1, iv (s : Int)), (2, iv (d : Int)), (3, .slice la n cap), (4, pt z0), (9, x.1), (10, pt z1), (11, iv ((s + x.2 : Nat) : Int))])
    (fun q x H' => x.2 + q = d ∧ Keep H H' [] ∧ Sl H' g.wa g.wn g.wcap (spc g.ws) ∧ Sl H' g.aa g.an g.acap (spc g.as) ∧ Sl H' la n cap (ints us) ∧ Cl H' z0 g.v ∧ Cl H' z1 [iv (g.lo s (Nat.testBit (dayMask us)) x.2), iv (g.hi s (Nat.testBit (dayMask us)) x.2)] ∧ Acc lo ff 24 H' x.1 x.2 (spc (g.ox s (Nat.testBit (dayMask us)) x.2)) ∧ ff ≤ H'.next) d (.slice none 0 0, 0) ⟨by omega, hk, hw, ha, hl, c1, c2, .inl ⟨rfl, rfl, rfl⟩, hfm⟩ ⟨rfl, rfl, rfl, rfl, rfl, rfl, rfl, trivial⟩ ?_
  rintro q ⟨wv, k⟩ L1 ⟨hik, hk, hw, ha, hl, c4, c10, hacc, hfl⟩
  try simp only at hik
  try simp only at hacc
  try simp only at c10
  have hm := hk.1
  have l4 := c4.lt
  have l10 := c10.lt
  refine And.intro (show InR ((s : Int) + (d : Int)) from ⟨by omega, by omega⟩) ?_
  refine And.intro (fun q1 => ?_) (fun q1 => ?_)
  · have q1 : ((s + k : Nat) : Int) < ((s : Int) + (d : Int)) := of_decide_eq_true q1
    have hkd : k < d := by omega
    have hsw : s + k < g.wn := by omega
    have hsa : s + k < g.an := by omega
    have hW := Lt.W_in v hsw; have hA := Lt.A_in v hsw
    have hlo1 := Lt.lo_in (s := s) (F := (Nat.testBit (dayMask us))) v k; have hhi1 := Lt.hi_in (s := s) (F := (Nat.testBit (dayMask us))) v k
    have m1 := mul_rng (a := g.r1) (b := (g.W (s + k)).1) (p := 1000) (q := 5000) ⟨by omega, by omega⟩ ⟨by omega, by omega⟩
    have m2 := mul_rng (a := g.r2) (b := (g.W (s + k)).2) (p := 1000) (q := 5000) ⟨by omega, by omega⟩ ⟨by omega, by omega⟩
    have e0 : nowV us 0 ((s + k : Nat) : Int) g.g1 (g.lo s (Nat.testBit (dayMask us)) k) = g.lo s (Nat.testBit (dayMask us)) k := nowV_zero
    have e1 : nowV us 0 ((s + k : Nat) : Int) g.g2 (g.hi s (Nat.testBit (dayMask us)) k) = g.hi s (Nat.testBit (dayMask us)) k := nowV_zero
    refine loop_low (fn := Try.f43) E43_2 N43 L43x2 (fun j : Nat => [(1, iv (s : Int)), (2, iv (d : Int)), (3, .slice la n cap), (4, pt z0), (9, wv), (10, pt z1), (11, iv ((s + k : Nat) : Int)), (12, iv (j : Int))])
      (fun p j H' => j + p = n ∧ Keep H H' [] ∧ Sl H' g.wa g.wn g.wcap (spc g.ws) ∧ Sl H' g.aa g.an g.acap (spc g.as) ∧ Sl H' la n cap (ints us) ∧ Cl H' z0 g.v ∧ Cl H' z1 [iv (nowV us j ((s + k : Nat) : Int) g.g1 (g.lo s (Nat.testBit (dayMask us)) k)), iv (nowV us j ((s + k : Nat) : Int) g.g2 (g.hi s (Nat.testBit (dayMask us)) k))] ∧ Acc lo ff 24 H' wv k (spc (g.ox s (Nat.testBit (dayMask us)) k)) ∧ ff ≤ H'.next) n 0 ⟨by omega, hk, hw, ha, hl, c4, by rw [e0, e1]; exact c10, hacc, hfl⟩ ⟨rfl, rfl, rfl, rfl, rfl, rfl, rfl, rfl, trivial⟩ ?_
    rintro p j L2 ⟨hjp, hk, hw, ha, hl, c4, c10, hacc, hfl2⟩
    have hm2 := hk.1
    have l4b := c4.lt
    have l10b := c10.lt
    refine And.intro (fun q2 => ?_) (fun q2 => ?_)
    · have q2 : (j : Int) < (n : Int) := of_decide_eq_true q2
      have hj : j < n := by omega
      obtain ⟨x, hx⟩ := get_some (l := us) (i := j) (by omega)
      rcases hl with ⟨_, h0, _⟩ | ⟨lb, rfl, hld, qld⟩
      · omega
      have llb := fl lb rfl
      refine Exists.intro j (And.intro rfl (And.intro hj ?_))
      refine Exists.intro _ (Exists.intro _ (And.intro hld.of (And.intro (ints_at hx) ?_)))
      refine And.intro (fun q3 => ?_) (fun q3 => ?_)
      · have q3 : x = ((s + k : Nat) : Int) := by simpa using q3
        have hxe := q3
        refine Exists.intro _ (Exists.intro _ (And.intro c4.of (And.intro (show row 2 _ _ = some [iv g.g1, iv g.g2] from rfl) ?_)))
        obtain ⟨_, eH4, lH4, gH4⟩ := id c10
        refine Exists.intro _ (Exists.intro _ (Exists.intro _ (And.intro gH4 (And.intro (by omega) (And.intro rfl (And.intro rfl (And.intro (by simp) ?_)))))))
        intro H4 hH4; obtain ⟨kH4, nH4, sH4⟩ := up_facts c10 hH4; clear hH4
        have mH4 := kH4.1
        have hk := hk.new kH4 (fun b hb => by simp at hb ⊢; omega)
        have hw := kH4.sl hw (fun b e => by have := fw b e; first | (simp; done) | (simp; omega))
        have ha := kH4.sl ha (fun b e => by have := fa b e; first | (simp; done) | (simp; omega))
        have c4 := kH4.cl c4 (by first | (simp; done) | (simp; omega))
        have hacc := hacc.keepW kH4 (by omega)
        have hld := kH4.rd hld (by first | (simp; done) | (simp; omega))
        have c10 : Cl H4 z1 [iv g.g1, iv g.g2] := sH4
        refine And.intro (show InR ((j : Int) + 1) from ⟨by omega, by omega⟩) ?_
        rw [← show nowV us (j + 1) ((s + k : Nat) : Int) g.g1 (g.lo s (Nat.testBit (dayMask us)) k) = g.g1 from nowV_hit hx hxe.symm, ← show nowV us (j + 1) ((s + k : Nat) : Int) g.g2 (g.hi s (Nat.testBit (dayMask us)) k) = g.g2 from nowV_hit hx hxe.symm] at c10
        exact ⟨p - 1, j + 1, by omega, ⟨by omega, hk, hw, ha, .inr ⟨lb, rfl, hld, qld⟩, c4, c10, hacc, by omega⟩, rfl, rfl, rfl, rfl, rfl, rfl, rfl, rfl, trivial⟩
      · have q3 : ¬ (x = ((s + k : Nat) : Int)) := by simpa using q3
        have hxe := q3
        refine And.intro (show InR ((j : Int) + 1) from ⟨by omega, by omega⟩) ?_
        rw [← show nowV us (j + 1) ((s + k : Nat) : Int) g.g1 (g.lo s (Nat.testBit (dayMask us)) k) = nowV us j ((s + k : Nat) : Int) g.g1 (g.lo s (Nat.testBit (dayMask us)) k) from nowV_miss hx (fun e => hxe e.symm), ← show nowV us (j + 1) ((s + k : Nat) : Int) g.g2 (g.hi s (Nat.testBit (dayMask us)) k) = nowV us j ((s + k : Nat) : Int) g.g2 (g.hi s (Nat.testBit (dayMask us)) k) from nowV_miss hx (fun e => hxe e.symm)] at c10
        exact ⟨p - 1, j + 1, by omega, ⟨by omega, hk, hw, ha, .inr ⟨lb, rfl, hld, qld⟩, c4, c10, hacc, by omega⟩, rfl, rfl, rfl, rfl, rfl, rfl, rfl, rfl, trivial⟩
    · have q2 : ¬ ((j : Int) < (n : Int)) := of_decide_eq_false q2
      have hjn : j = n := by omega
      subst hjn
      rcases hw with ⟨_, h0, _⟩ | ⟨wb, ewa, hwd, qw⟩
      · omega
      rcases ha with ⟨_, h0, _⟩ | ⟨ab, eaa, had, qa⟩
      · omega
      have lwb := fw wb ewa; have lab := fa ab eaa
      have hnl := nowV_in (us := us) (j := j) (x := ((s + k : Nat) : Int)) (show 0 ≤ g.g1 ∧ g.g1 ≤ g.full by omega) hlo1
      have hnh := nowV_in (us := us) (j := j) (x := ((s + k : Nat) : Int)) (show 0 ≤ g.g2 ∧ g.g2 ≤ g.full by omega) hhi1
      have el := lo_next (g := g) (s := s) (k := k) hF hul
      have eh := hi_next (g := g) (s := s) (k := k) hF hul
      refine wD_seq ?_
      refine wD_lda (b := z0) (o := 0) rfl c4.rd (show row 13 _ _ = some [.slice g.wa g.wn g.wcap, .slice g.aa g.an g.acap, iv g.r1, iv g.r2, iv g.f1, iv g.f2, iv g.g1, iv g.g2, iv g.full, iv g.base, iv g.kill, iv g.need, iv g.bear] from rfl) ?_
      refine wD_addo (b := z0) (o := 0) rfl ?_
      refine wD_ld (b := z0) (o := 0) (v := .slice (some ⟨wb, 0, none⟩) g.wn g.wcap) rfl c4.rd (show _ = some (Value.slice (some ⟨wb, 0, none⟩) g.wn g.wcap) from by rw [← ewa]; rfl) ?_
      refine wD_mov (v := iv ((s + k : Nat) : Int)) rfl ?_
      refine wD_idx (b := wb) (o := 0) (k := (s + k)) (j := ((s + k : Nat) : Int)) rfl rfl rfl hsw ?_
      refine wD_addo (b := wb) (o := 0 + (s + k) * 2) rfl ?_
      refine wD_ld (b := wb) (o := 0 + (s + k) * 2 + 1) (v := iv ((g.W (s + k)).2)) rfl hwd (span_get hW.1).2 ?_
      obtain ⟨H5, fH5, kH5⟩ := used67_ok (kn := kn) (lo := L2.next) (H := L2) (x := (g.W (s + k)).2) v ⟨by omega, by omega⟩ (by omega)
      refine wD_callh (vs := [.agg g.v.toArray, iv ((g.W (s + k)).2)]) rfl (by kernel_rfl) (callX_args fH5) ?_
      have mH5 := kH5.1
      have hk := hk.trans kH5
      have hl := kH5.sl0 hl
      have c4 := kH5.cl c4 (by simp)
      have c10 := kH5.cl c10 (by simp)
      have hacc := hacc.keep kH5
      have hwd := kH5.rd hwd (by simp)
      have had := kH5.rd had (by simp)
      refine wD_pur (v := iv ((g.r2 * ((g.W (s + k)).2) + 99) / 100)) rfl (by kernel_rfl) ?_
      refine wD_lda (b := z0) (o := 0) rfl c4.rd (show row 13 _ _ = some [.slice g.wa g.wn g.wcap, .slice g.aa g.an g.acap, iv g.r1, iv g.r2, iv g.f1, iv g.f2, iv g.g1, iv g.g2, iv g.full, iv g.base, iv g.kill, iv g.need, iv g.bear] from rfl) ?_
      refine wD_addo (b := z0) (o := 0) rfl ?_
      refine wD_ld (b := z0) (o := 0) (v := .slice (some ⟨wb, 0, none⟩) g.wn g.wcap) rfl c4.rd (show _ = some (Value.slice (some ⟨wb, 0, none⟩) g.wn g.wcap) from by rw [← ewa]; rfl) ?_
      refine wD_mov (v := iv ((s + k : Nat) : Int)) rfl ?_
      refine wD_idx (b := wb) (o := 0) (k := (s + k)) (j := ((s + k : Nat) : Int)) rfl rfl rfl hsw ?_
      refine wD_addo (b := wb) (o := 0 + (s + k) * 2) rfl ?_
      refine wD_ld (b := wb) (o := 0 + (s + k) * 2) (v := iv ((g.W (s + k)).1)) rfl hwd (span_get hW.1).1 ?_
      obtain ⟨H6, fH6, kH6⟩ := used67_ok (kn := kn) (lo := lo) (H := H5) (x := (g.W (s + k)).1) v ⟨by omega, by omega⟩ (by omega)
      refine wD_callf (vs := [.agg g.v.toArray, iv ((g.W (s + k)).1)]) rfl (callX_args fH6) ?_
      have mH6 := kH6.1
      have hk := hk.trans kH6
      have hl := kH6.sl0 hl
      have c4 := kH6.cl c4 (by simp)
      have c10 := kH6.cl c10 (by simp)
      have hacc := hacc.keep kH6
      have hwd := kH6.rd hwd (by simp)
      have had := kH6.rd had (by simp)
      refine wD_pur (v := iv (g.r1 * ((g.W (s + k)).1) / 100)) rfl (by kernel_rfl) ?_
      refine wD_mov (v := iv ((g.r2 * ((g.W (s + k)).2) + 99) / 100)) rfl ?_
      refine wD_mov (v := iv (g.r1 * ((g.W (s + k)).1) / 100)) rfl ?_
      refine wD_end (by repeat' first | exact True.intro | exact (fun h => h) | refine And.intro ?_ ?_ | (intro h; have h : (_ : Nat) = _ := h; omega)) ?_
      refine wD_seq ?_
      refine wD_addo (b := z0) (o := 0) rfl ?_
      refine wD_ld (b := z0) (o := 8) (v := iv g.full) rfl c4.rd rfl ?_
      refine wD_addo (b := z1) (o := 0) rfl ?_
      refine wD_ld (b := z1) (o := 0) (v := iv (nowV us j ((s + k : Nat) : Int) g.g1 (g.lo s (Nat.testBit (dayMask us)) k))) rfl c10.rd rfl ?_
      refine wD_addo (b := z0) (o := 0) rfl ?_
      refine wD_ld (b := z0) (o := 1) (v := .slice (some ⟨ab, 0, none⟩) g.an g.acap) rfl c4.rd (show _ = some (Value.slice (some ⟨ab, 0, none⟩) g.an g.acap) from by rw [← eaa]; rfl) ?_
      refine wD_mov (v := iv ((s + k : Nat) : Int)) rfl ?_
      refine wD_idx (b := ab) (o := 0) (k := (s + k)) (j := ((s + k : Nat) : Int)) rfl rfl rfl hsa ?_
      refine wD_addo (b := ab) (o := 0 + (s + k) * 2) rfl ?_
      refine wD_ld (b := ab) (o := 0 + (s + k) * 2) (v := iv ((g.A (s + k)).1)) rfl had (span_get hA.1).1 ?_
      refine wD_add (a := nowV us j ((s + k : Nat) : Int) g.g1 (g.lo s (Nat.testBit (dayMask us)) k)) (b := (g.A (s + k)).1) rfl rfl ⟨by omega, by omega⟩ ?_
      refine wD_mov (v := iv ((g.r2 * ((g.W (s + k)).2) + 99) / 100)) rfl ?_
      refine wD_sub (a := (nowV us j ((s + k : Nat) : Int) g.g1 (g.lo s (Nat.testBit (dayMask us)) k)) + ((g.A (s + k)).1)) (b := (g.r2 * ((g.W (s + k)).2) + 99) / 100) rfl rfl ⟨by omega, by omega⟩ ?_
      refine wD_mm (a := 0) (b := ((nowV us j ((s + k : Nat) : Int) g.g1 (g.lo s (Nat.testBit (dayMask us)) k)) + ((g.A (s + k)).1)) - ((g.r2 * ((g.W (s + k)).2) + 99) / 100)) rfl rfl ?_
      refine wD_mm (a := g.full) (b := max 0 (((nowV us j ((s + k : Nat) : Int) g.g1 (g.lo s (Nat.testBit (dayMask us)) k)) + ((g.A (s + k)).1)) - ((g.r2 * ((g.W (s + k)).2) + 99) / 100))) rfl rfl ?_
      refine wD_addo (b := z0) (o := 0) rfl ?_
      refine wD_ld (b := z0) (o := 8) (v := iv g.full) rfl c4.rd rfl ?_
      refine wD_addo (b := z1) (o := 0) rfl ?_
      refine wD_ld (b := z1) (o := 1) (v := iv (nowV us j ((s + k : Nat) : Int) g.g2 (g.hi s (Nat.testBit (dayMask us)) k))) rfl c10.rd rfl ?_
      refine wD_addo (b := z0) (o := 0) rfl ?_
      refine wD_ld (b := z0) (o := 1) (v := .slice (some ⟨ab, 0, none⟩) g.an g.acap) rfl c4.rd (show _ = some (Value.slice (some ⟨ab, 0, none⟩) g.an g.acap) from by rw [← eaa]; rfl) ?_
      refine wD_mov (v := iv ((s + k : Nat) : Int)) rfl ?_
      refine wD_idx (b := ab) (o := 0) (k := (s + k)) (j := ((s + k : Nat) : Int)) rfl rfl rfl hsa ?_
      refine wD_addo (b := ab) (o := 0 + (s + k) * 2) rfl ?_
      refine wD_ld (b := ab) (o := 0 + (s + k) * 2 + 1) (v := iv ((g.A (s + k)).2)) rfl had (span_get hA.1).2 ?_
      refine wD_add (a := nowV us j ((s + k : Nat) : Int) g.g2 (g.hi s (Nat.testBit (dayMask us)) k)) (b := (g.A (s + k)).2) rfl rfl ⟨by omega, by omega⟩ ?_
      refine wD_mov (v := iv (g.r1 * ((g.W (s + k)).1) / 100)) rfl ?_
      refine wD_sub (a := (nowV us j ((s + k : Nat) : Int) g.g2 (g.hi s (Nat.testBit (dayMask us)) k)) + ((g.A (s + k)).2)) (b := g.r1 * ((g.W (s + k)).1) / 100) rfl rfl ⟨by omega, by omega⟩ ?_
      refine wD_mm (a := 0) (b := ((nowV us j ((s + k : Nat) : Int) g.g2 (g.hi s (Nat.testBit (dayMask us)) k)) + ((g.A (s + k)).2)) - (g.r1 * ((g.W (s + k)).1) / 100)) rfl rfl ?_
      refine wD_mm (a := g.full) (b := max 0 (((nowV us j ((s + k : Nat) : Int) g.g2 (g.hi s (Nat.testBit (dayMask us)) k)) + ((g.A (s + k)).2)) - (g.r1 * ((g.W (s + k)).1) / 100))) rfl rfl ?_
      refine wD_pur (v := .agg #[iv (min g.full (max 0 (((nowV us j ((s + k : Nat) : Int) g.g1 (g.lo s (Nat.testBit (dayMask us)) k)) + ((g.A (s + k)).1)) - ((g.r2 * ((g.W (s + k)).2) + 99) / 100)))), iv (min g.full (max 0 (((nowV us j ((s + k : Nat) : Int) g.g2 (g.hi s (Nat.testBit (dayMask us)) k)) + ((g.A (s + k)).2)) - (g.r1 * ((g.W (s + k)).1) / 100))))]) rfl (by kernel_rfl) ?_
      refine wD_sta (b := z1) (o := 0) rfl rfl c10 (by omega) rfl rfl (by simp) ?_
      intro H7 kH7 nH7 sH7
      have mH7 := kH7.1
      have hk := hk.new kH7 (fun b hb => by simp at hb ⊢; omega)
      have hl := kH7.sl hl (fun b e => by have := fl b e; first | (simp; done) | (simp; omega))
      have c4 := kH7.cl c4 (by first | (simp; done) | (simp; omega))
      have hacc := hacc.keepW kH7 (by omega)
      have hwd := kH7.rd hwd (by first | (simp; done) | (simp; omega))
      have had := kH7.rd had (by first | (simp; done) | (simp; omega))
      have c10 : Cl H7 z1 [iv (min g.full (max 0 (((nowV us j ((s + k : Nat) : Int) g.g1 (g.lo s (Nat.testBit (dayMask us)) k)) + ((g.A (s + k)).1)) - ((g.r2 * ((g.W (s + k)).2) + 99) / 100)))), iv (min g.full (max 0 (((nowV us j ((s + k : Nat) : Int) g.g2 (g.hi s (Nat.testBit (dayMask us)) k)) + ((g.A (s + k)).2)) - (g.r1 * ((g.W (s + k)).1) / 100))))] := sH7
      refine wD_end (by repeat' first | exact True.intro | exact (fun h => h) | refine And.intro ?_ ?_ | (intro h; have h : (_ : Nat) = _ := h; omega)) ?_
      refine Exists.intro _ (Exists.intro _ (And.intro c10.of (And.intro (show row 2 _ _ = some [iv (min g.full (max 0 (((nowV us j ((s + k : Nat) : Int) g.g1 (g.lo s (Nat.testBit (dayMask us)) k)) + ((g.A (s + k)).1)) - ((g.r2 * ((g.W (s + k)).2) + 99) / 100)))), iv (min g.full (max 0 (((nowV us j ((s + k : Nat) : Int) g.g2 (g.hi s (Nat.testBit (dayMask us)) k)) + ((g.A (s + k)).2)) - (g.r1 * ((g.W (s + k)).1) / 100))))] from rfl) ?_)))
      obtain ⟨H8, hH8⟩ : ∃ H8, H7.new (.cells [iv (min g.full (max 0 (((nowV us j ((s + k : Nat) : Int) g.g1 (g.lo s (Nat.testBit (dayMask us)) k)) + ((g.A (s + k)).1)) - ((g.r2 * ((g.W (s + k)).2) + 99) / 100)))), iv (min g.full (max 0 (((nowV us j ((s + k : Nat) : Int) g.g2 (g.hi s (Nat.testBit (dayMask us)) k)) + ((g.A (s + k)).2)) - (g.r1 * ((g.W (s + k)).1) / 100))))] 24 false) = H8 := ⟨_, rfl⟩
      refine And.intro rfl (Or.inr (And.intro (by kernel_rfl) (Exists.intro _ (Exists.intro H8 (Exists.intro _ (And.intro ((heap_build1 (v := .agg #[iv (min g.full (max 0 (((nowV us j ((s + k : Nat) : Int) g.g1 (g.lo s (Nat.testBit (dayMask us)) k)) + ((g.A (s + k)).1)) - ((g.r2 * ((g.W (s + k)).2) + 99) / 100)))), iv (min g.full (max 0 (((nowV us j ((s + k : Nat) : Int) g.g2 (g.hi s (Nat.testBit (dayMask us)) k)) + ((g.A (s + k)).2)) - (g.r1 * ((g.W (s + k)).1) / 100))))]) se22 z24 rfl rfl rfl (by decide)).trans (by rw [← hH8]; rfl)) (And.intro (fun b e => by cases e) ?_)))))))
      obtain ⟨kH8, nH8, c8⟩ := new_facts hH8; clear hH8
      have c8 : Cl H8 H7.next [iv (min g.full (max 0 (((nowV us j ((s + k : Nat) : Int) g.g1 (g.lo s (Nat.testBit (dayMask us)) k)) + ((g.A (s + k)).1)) - ((g.r2 * ((g.W (s + k)).2) + 99) / 100)))), iv (min g.full (max 0 (((nowV us j ((s + k : Nat) : Int) g.g2 (g.hi s (Nat.testBit (dayMask us)) k)) + ((g.A (s + k)).2)) - (g.r1 * ((g.W (s + k)).1) / 100))))] := c8
      have mH8 := kH8.1
      have hk := hk.trans kH8
      have hl := kH8.sl0 hl
      have c4 := kH8.cl c4 (by simp)
      have hacc := hacc.keep kH8
      have hwd := kH8.rd hwd (by simp)
      have had := kH8.rd had (by simp)
      have c10 := kH8.cl c10 (by simp)
      have hw : Sl _ _ _ _ _ := .inr ⟨wb, ewa, hwd, qw⟩
      obtain ⟨H9, kdH9, eH9, dH9, aH9, kbH9⟩ := heap_append_below (P := Try.prog) (lo := lo) (k := k) (t1 := 22) se22 u22 (c8.sl (Nat.le_refl 1)) rfl (by decide) rfl (by rw [spc_len, Lt.ox_len]) (by omega) (hacc.keep (Keep.refl _ [])) (by omega) (by omega)
      refine And.intro rfl (Or.inr (And.intro (by cases wv <;> kernel_rfl) (Exists.intro _ (Exists.intro H9 (Exists.intro _ (And.intro (eH9 _ _ _ _ _ _ _ rfl rfl) (And.intro (reg_ok dH9 _) ?_)))))))
      have hk := kbH9.keep hk (by omega)
      have hl := kbH9.sl hl (fun b e => by have := fl b e; omega)
      have c4 := kbH9.cl c4 (by omega)
      have c10 := kbH9.cl c10 (by omega)
      have mH9 := kbH9.1
      have hw := kbH9.sl hw (fun b e => by have := fw b e; omega)
      have had := kbH9.rd had (by omega)
      refine And.intro (show InR (((s + k : Nat) : Int) + 1) from ⟨by omega, by omega⟩) ?_
      have ho : spc (g.ox s (Nat.testBit (dayMask us)) (k + 1)) = spc (g.ox s (Nat.testBit (dayMask us)) k) ++ [iv (g.lo s (Nat.testBit (dayMask us)) (k + 1)), iv (g.hi s (Nat.testBit (dayMask us)) (k + 1))] := by rw [Lt.ox_succ]; simp [spc]
      rw [el, eh] at c10
      refine ⟨q - 1, (_, k + 1), by omega, ⟨by show k + 1 + (q - 1) = d; omega, hk, hw, .inr ⟨ab, eaa, had, qa⟩, hl, c4, c10, ?_, by show ff ≤ H9.next; omega⟩, rfl, rfl, rfl, rfl, rfl, rfl, rfl, trivial⟩
      show Acc _ _ _ _ _ (k + 1) (spc (g.ox s (Nat.testBit (dayMask us)) (k + 1)))
      rw [ho]; rw [el, eh] at aH9; exact aH9
  · have q1 : ¬ (((s + k : Nat) : Int) < ((s : Int) + (d : Int))) := of_decide_eq_false q1
    have hkd : k = d := by omega
    subst hkd
    obtain ⟨ta, tc, rfl, hsl, _⟩ := hacc.sl
    exact And.intro trivial (Exists.intro _ (And.intro rfl ⟨hk, ta, tc, rfl, hsl⟩))
end
end Go.Ax

/-
  Late: the document's Warmth, Oxygen and Tells (45, 16, 18, 20) (written by program).
-/
namespace Go.Ax
open Go Go.RowKit Go.Proofs

theorem Lt.Tl.any {g : Lt} {a b : Int} {us : List Int} {w : Value} (h : g.Tl a b us w) : ∃ x y e : Int, w = .tuple #[iv x, iv y, iv e] := by
  rcases h with ⟨_, h⟩ | ⟨_, _, h⟩ | ⟨_, _, _, _, _, _, _, h⟩ <;> exact ⟨_, _, _, h⟩
section
variable {kn : FuncId → Option Bool} {lo : Nat} {H : Hp}
theorem tells45_ok {g : Lt} (v : g.Vd) {s d : Nat} (hsd : s + d ≤ g.wn) (hw : Sl H g.wa g.wn g.wcap (spc g.ws)) (ha : Sl H g.aa g.an g.acap (spc g.as)) {la : Option Addr} {n cap : Nat} {us : List Int} (hl : Sl H la n cap (ints us)) (hul : us.length = n) (hn : n ≤ 1000) (hF : ∀ i : Nat, (dayMask us).testBit i = us.contains (i : Int)) (hlo : lo ≤ H.next) :
    ∃ H', FnX Try.prog kn lo 45 [.agg g.v.toArray, iv (s : Int), iv (d : Int), .slice la n cap] H (.tuple #[iv (sureV (decide (g.wl s d ≥ g.kill)) (decide (g.wh s d ≥ g.kill))), iv (sureV (decide (g.sm s (Nat.testBit (dayMask us)) d > g.bear)) (decide (g.sl s (Nat.testBit (dayMask us)) d > g.bear)))]) H' ∧ Keep H H' [] := by
  have key := fnX_low (kn := kn) (lo := lo) (H := H) (args := [.agg g.v.toArray, iv (s : Int), iv (d : Int), .slice la n cap]) (Q := fun w H' => w = .tuple #[iv (sureV (decide (g.wl s d ≥ g.kill)) (decide (g.wh s d ≥ g.kill))), iv (sureV (decide (g.sm s (Nat.testBit (dayMask us)) d > g.bear)) (decide (g.sl s (Nat.testBit (dayMask us)) d > g.bear)))] ∧ Keep H H' []) Try.func45 B45 N45 Z45 L45 (by simp) ?_
  · obtain ⟨w, H', h, rfl, q⟩ := key; exact ⟨H', h, q⟩
  have hk := Keep.refl H []
  have fw := hw.old; have fa := ha.old
  have fl := hl.old; have hn40 := v.n40
  intro H1 hH1; obtain ⟨kH1, nH1, c1⟩ := new_facts hH1; clear hH1
  have mH1 := kH1.1
  have hk := hk.trans kH1
  have hw := kH1.sl0 hw
  have ha := kH1.sl0 ha
  have hl := kH1.sl0 hl
  have c1 : Cl H1 H.next [.slice g.wa g.wn g.wcap, .slice g.aa g.an g.acap, iv g.r1, iv g.r2, iv g.f1, iv g.f2, iv g.g1, iv g.g2, iv g.full, iv g.base, iv g.kill, iv g.need, iv g.bear] := c1
  refine Exists.intro _ (Exists.intro _ (And.intro c1.of (And.intro (show row 13 _ _ = some [.slice g.wa g.wn g.wcap, .slice g.aa g.an g.acap, iv g.r1, iv g.r2, iv g.f1, iv g.f2, iv g.g1, iv g.g2, iv g.full, iv g.base, iv g.kill, iv g.need, iv g.bear] from rfl) ?_)))
  obtain ⟨H2, fH2, kH2⟩ := warm40_ok (kn := kn) (lo := lo) (H := H1) v hsd hw (by omega)
  have mH2 := kH2.1
  have hk := hk.trans kH2
  have hw := kH2.sl0 hw
  have ha := kH2.sl0 ha
  have hl := kH2.sl0 hl
  have c1 := kH2.cl c1 (by simp)
  refine Exists.intro _ (Exists.intro _ (And.intro (callX_args fH2) ?_))
  intro H3 hH3; obtain ⟨kH3, nH3, c3⟩ := new_facts hH3; clear hH3
  have c3 : Cl H3 H2.next [iv 0, iv 0] := c3
  have mH3 := kH3.1
  have hk := hk.trans kH3
  have hw := kH3.sl0 hw
  have ha := kH3.sl0 ha
  have hl := kH3.sl0 hl
  have c1 := kH3.cl c1 (by simp)
  obtain ⟨_, eH4, lH4, gH4⟩ := id c3
  refine Exists.intro _ (Exists.intro _ (Exists.intro _ (And.intro gH4 (And.intro (by omega) (And.intro rfl (And.intro rfl (And.intro (by simp) ?_)))))))
  intro H4 hH4; obtain ⟨kH4, nH4, sH4⟩ := up_facts c3 hH4; clear hH4
  have mH4 := kH4.1
  have hk := hk.new kH4 (fun b hb => by simp at hb ⊢; omega)
  have hw := kH4.sl hw (fun b e => by have := fw b e; first | (simp; done) | (simp; omega))
  have ha := kH4.sl ha (fun b e => by have := fa b e; first | (simp; done) | (simp; omega))
  have hl := kH4.sl hl (fun b e => by have := fl b e; first | (simp; done) | (simp; omega))
  have c1 := kH4.cl c1 (by first | (simp; done) | (simp; omega))
  have c3 : Cl H4 H2.next [iv (g.wl s d), iv (g.wh s d)] := sH4
  refine Exists.intro _ (Exists.intro _ (And.intro c1.of (And.intro (show row 13 _ _ = some [.slice g.wa g.wn g.wcap, .slice g.aa g.an g.acap, iv g.r1, iv g.r2, iv g.f1, iv g.f2, iv g.g1, iv g.g2, iv g.full, iv g.base, iv g.kill, iv g.need, iv g.bear] from rfl) ?_)))
  obtain ⟨wH5, H5, fH5, kH5, ta, tc, rfl, hta⟩ := levels_ok (kn := kn) (lo := lo) (H := H4) v hsd hw ha hl hul hn hF (by omega)
  have mH5 := kH5.1
  have hk := hk.trans kH5
  have hw := kH5.sl0 hw
  have ha := kH5.sl0 ha
  have hl := kH5.sl0 hl
  have c1 := kH5.cl c1 (by simp)
  have c3 := kH5.cl c3 (by simp)
  have fta : ∀ x, ta = some ⟨x, 0, none⟩ → x < H5.next := hta.old
  refine Exists.intro _ (Exists.intro _ (And.intro (callX_args fH5) ?_))
  refine loop_low (fn := Try.f45) E45_1 N45 L45x1 (fun i : Nat => [(4, pt H.next), (10, pt H2.next), (13, .slice ta d tc), (11, iv (g.sm s (Nat.testBit (dayMask us)) i)), (12, iv (g.sl s (Nat.testBit (dayMask us)) i)), (14, iv (i : Int))])
    (fun k i H' => i + k = d ∧ Keep H5 H' []) d 0 ⟨by omega, Keep.refl _ _⟩ ⟨rfl, rfl, rfl, rfl, rfl, rfl, trivial⟩ ?_
  rintro k i L1 ⟨hik, hki⟩
  have hm := hki.1
  have hk := hk.trans hki
  have hw := hki.sl0 hw
  have ha := hki.sl0 ha
  have hl := hki.sl0 hl
  have c1 := hki.cl c1 (by simp)
  have c3 := hki.cl c3 (by simp)
  have hta := hki.sl0 hta
  have kb := hki
  have hsi := Lt.sl_in (g := g) (s := s) (F := (Nat.testBit (dayMask us))) i; have hmi := Lt.sm_in (g := g) (s := s) (F := (Nat.testBit (dayMask us))) i
  refine And.intro (fun q1 => ?_) (fun q1 => ?_)
  · have q1 : (i : Int) < (d : Int) := of_decide_eq_true q1
    have hid : i < d := by omega
    rcases hta with ⟨_, h0, _⟩ | ⟨tb, rfl, htd, _⟩
    · omega
    refine wD_seq ?_
    refine wD_mov (v := .slice (some ⟨tb, 0, none⟩) d tc) rfl ?_
    refine wD_mov (v := iv (i : Int)) rfl ?_
    refine wD_idx (b := tb) (o := 0) (k := i) (j := (i : Int)) rfl rfl rfl hid ?_
    refine wD_addo (b := tb) (o := 0 + i * 2) rfl ?_
    refine wD_ld (b := tb) (o := 0 + i * 2) (v := iv (g.lo s (Nat.testBit (dayMask us)) (i + 1))) rfl htd (span_get (Lt.ox_get hid)).1 ?_
    refine wD_addo (b := H.next) (o := 0) rfl ?_
    refine wD_ld (b := H.next) (o := 11) (v := iv g.need) rfl c1.rd rfl ?_
    refine wD_c_lss (a := g.lo s (Nat.testBit (dayMask us)) (i + 1)) (b := g.need) rfl rfl ?_
    refine wD_end (by repeat' first | exact True.intro | exact (fun h => h) | refine And.intro ?_ ?_ | (intro h; have h : (_ : Nat) = _ := h; omega)) ?_
    refine And.intro (fun q2 => ?_) (fun q2 => ?_)
    · have q2 : (g.lo s (Nat.testBit (dayMask us)) (i + 1)) < g.need := of_decide_eq_true q2
      have hp := q2
      refine And.intro (show InR ((g.sl s (Nat.testBit (dayMask us)) i) + 1) from ⟨by omega, by omega⟩) ?_
      refine wD_seq ?_
      refine wD_mov (v := .slice (some ⟨tb, 0, none⟩) d tc) rfl ?_
      refine wD_mov (v := iv (i : Int)) rfl ?_
      refine wD_idx (b := tb) (o := 0) (k := i) (j := (i : Int)) rfl rfl rfl hid ?_
      refine wD_addo (b := tb) (o := 0 + i * 2) rfl ?_
      refine wD_ld (b := tb) (o := 0 + i * 2 + 1) (v := iv (g.hi s (Nat.testBit (dayMask us)) (i + 1))) rfl htd (span_get (Lt.ox_get hid)).2 ?_
      refine wD_addo (b := H.next) (o := 0) rfl ?_
      refine wD_ld (b := H.next) (o := 11) (v := iv g.need) rfl c1.rd rfl ?_
      refine wD_c_lss (a := g.hi s (Nat.testBit (dayMask us)) (i + 1)) (b := g.need) rfl rfl ?_
      refine wD_end (by repeat' first | exact True.intro | exact (fun h => h) | refine And.intro ?_ ?_ | (intro h; have h : (_ : Nat) = _ := h; omega)) ?_
      refine And.intro (fun q3 => ?_) (fun q3 => ?_)
      · have q3 : (g.hi s (Nat.testBit (dayMask us)) (i + 1)) < g.need := of_decide_eq_true q3
        have hq := q3
        refine And.intro (show InR ((g.sm s (Nat.testBit (dayMask us)) i) + 1) from ⟨by omega, by omega⟩) ?_
        refine And.intro (show InR ((i : Int) + 1) from ⟨by omega, by omega⟩) ?_
        have e1 : g.sl s (Nat.testBit (dayMask us)) (i + 1) = g.sl s (Nat.testBit (dayMask us)) i + 1 := by rw [Lt.sl, decide_eq_true hp]; rfl
        have e2 : g.sm s (Nat.testBit (dayMask us)) (i + 1) = g.sm s (Nat.testBit (dayMask us)) i + 1 := by rw [Lt.sm, decide_eq_true hq]; rfl
        exact ⟨k - 1, i + 1, by omega, ⟨by omega, kb⟩, rfl, rfl, rfl, by rw [e2]; rfl, by rw [e1]; rfl, rfl, trivial⟩
      · have q3 : ¬ ((g.hi s (Nat.testBit (dayMask us)) (i + 1)) < g.need) := of_decide_eq_false q3
        have hq := q3
        refine And.intro (show InR ((i : Int) + 1) from ⟨by omega, by omega⟩) ?_
        have e1 : g.sl s (Nat.testBit (dayMask us)) (i + 1) = g.sl s (Nat.testBit (dayMask us)) i + 1 := by rw [Lt.sl, decide_eq_true hp]; rfl
        have e2 : g.sm s (Nat.testBit (dayMask us)) (i + 1) = g.sm s (Nat.testBit (dayMask us)) i := by rw [Lt.sm, decide_eq_false hq]; rfl
        exact ⟨k - 1, i + 1, by omega, ⟨by omega, kb⟩, rfl, rfl, rfl, by rw [e2]; rfl, by rw [e1]; rfl, rfl, trivial⟩
    · have q2 : ¬ ((g.lo s (Nat.testBit (dayMask us)) (i + 1)) < g.need) := of_decide_eq_false q2
      have hp := q2
      refine wD_seq ?_
      refine wD_mov (v := .slice (some ⟨tb, 0, none⟩) d tc) rfl ?_
      refine wD_mov (v := iv (i : Int)) rfl ?_
      refine wD_idx (b := tb) (o := 0) (k := i) (j := (i : Int)) rfl rfl rfl hid ?_
      refine wD_addo (b := tb) (o := 0 + i * 2) rfl ?_
      refine wD_ld (b := tb) (o := 0 + i * 2 + 1) (v := iv (g.hi s (Nat.testBit (dayMask us)) (i + 1))) rfl htd (span_get (Lt.ox_get hid)).2 ?_
      refine wD_addo (b := H.next) (o := 0) rfl ?_
      refine wD_ld (b := H.next) (o := 11) (v := iv g.need) rfl c1.rd rfl ?_
      refine wD_c_lss (a := g.hi s (Nat.testBit (dayMask us)) (i + 1)) (b := g.need) rfl rfl ?_
      refine wD_end (by repeat' first | exact True.intro | exact (fun h => h) | refine And.intro ?_ ?_ | (intro h; have h : (_ : Nat) = _ := h; omega)) ?_
      refine And.intro (fun q4 => ?_) (fun q4 => ?_)
      · have q4 : (g.hi s (Nat.testBit (dayMask us)) (i + 1)) < g.need := of_decide_eq_true q4
        have hq := q4
        refine And.intro (show InR ((g.sm s (Nat.testBit (dayMask us)) i) + 1) from ⟨by omega, by omega⟩) ?_
        refine And.intro (show InR ((i : Int) + 1) from ⟨by omega, by omega⟩) ?_
        have e1 : g.sl s (Nat.testBit (dayMask us)) (i + 1) = g.sl s (Nat.testBit (dayMask us)) i := by rw [Lt.sl, decide_eq_false hp]; rfl
        have e2 : g.sm s (Nat.testBit (dayMask us)) (i + 1) = g.sm s (Nat.testBit (dayMask us)) i + 1 := by rw [Lt.sm, decide_eq_true hq]; rfl
        exact ⟨k - 1, i + 1, by omega, ⟨by omega, kb⟩, rfl, rfl, rfl, by rw [e2]; rfl, by rw [e1]; rfl, rfl, trivial⟩
      · have q4 : ¬ ((g.hi s (Nat.testBit (dayMask us)) (i + 1)) < g.need) := of_decide_eq_false q4
        have hq := q4
        refine And.intro (show InR ((i : Int) + 1) from ⟨by omega, by omega⟩) ?_
        have e1 : g.sl s (Nat.testBit (dayMask us)) (i + 1) = g.sl s (Nat.testBit (dayMask us)) i := by rw [Lt.sl, decide_eq_false hp]; rfl
        have e2 : g.sm s (Nat.testBit (dayMask us)) (i + 1) = g.sm s (Nat.testBit (dayMask us)) i := by rw [Lt.sm, decide_eq_false hq]; rfl
        exact ⟨k - 1, i + 1, by omega, ⟨by omega, kb⟩, rfl, rfl, rfl, by rw [e2]; rfl, by rw [e1]; rfl, rfl, trivial⟩
  · have q1 : ¬ ((i : Int) < (d : Int)) := of_decide_eq_false q1
    have hid : d = i := by omega
    subst hid
    have hsi := Lt.sl_in (g := g) (s := s) (F := (Nat.testBit (dayMask us))) d; have hmi := Lt.sm_in (g := g) (s := s) (F := (Nat.testBit (dayMask us))) d
    refine wD_seq ?_
    refine wD_addo (b := H2.next) (o := 0) rfl ?_
    refine wD_ld (b := H2.next) (o := 1) (v := iv (g.wh s d)) rfl c3.rd rfl ?_
    refine wD_addo (b := H.next) (o := 0) rfl ?_
    refine wD_ld (b := H.next) (o := 10) (v := iv g.kill) rfl c1.rd rfl ?_
    refine wD_k_geq (decide ((g.wh s d) ≥ g.kill)) rfl rfl rfl ?_
    refine wD_addo (b := H2.next) (o := 0) rfl ?_
    refine wD_ld (b := H2.next) (o := 0) (v := iv (g.wl s d)) rfl c3.rd rfl ?_
    refine wD_addo (b := H.next) (o := 0) rfl ?_
    refine wD_ld (b := H.next) (o := 10) (v := iv g.kill) rfl c1.rd rfl ?_
    refine wD_k_geq (decide ((g.wl s d) ≥ g.kill)) rfl rfl rfl ?_
    obtain ⟨H6, fH6, kH6⟩ := sure68_ok (kn := kn) (lo := L1.next) (H := L1) (s := decide ((g.wh s d) ≥ g.kill)) (a := decide ((g.wl s d) ≥ g.kill))
    refine wD_callh (vs := [.bool (decide ((g.wh s d) ≥ g.kill)), .bool (decide ((g.wl s d) ≥ g.kill))]) rfl (by kernel_rfl) (callX_args fH6) ?_
    have mH6 := kH6.1
    have hk := hk.trans kH6
    have hw := kH6.sl0 hw
    have ha := kH6.sl0 ha
    have hl := kH6.sl0 hl
    have c1 := kH6.cl c1 (by simp)
    have c3 := kH6.cl c3 (by simp)
    have hta := kH6.sl0 hta
    refine wD_mov (v := iv (g.sl s (Nat.testBit (dayMask us)) d)) rfl ?_
    refine wD_addo (b := H.next) (o := 0) rfl ?_
    refine wD_ld (b := H.next) (o := 12) (v := iv g.bear) rfl c1.rd rfl ?_
    refine wD_k_gtr (decide ((g.sl s (Nat.testBit (dayMask us)) d) > g.bear)) rfl rfl rfl ?_
    refine wD_mov (v := iv (g.sm s (Nat.testBit (dayMask us)) d)) rfl ?_
    refine wD_addo (b := H.next) (o := 0) rfl ?_
    refine wD_ld (b := H.next) (o := 12) (v := iv g.bear) rfl c1.rd rfl ?_
    refine wD_k_gtr (decide ((g.sm s (Nat.testBit (dayMask us)) d) > g.bear)) rfl rfl rfl ?_
    obtain ⟨H7, fH7, kH7⟩ := sure68_ok (kn := kn) (lo := lo) (H := H6) (s := decide ((g.sl s (Nat.testBit (dayMask us)) d) > g.bear)) (a := decide ((g.sm s (Nat.testBit (dayMask us)) d) > g.bear))
    refine wD_callf (vs := [.bool (decide ((g.sl s (Nat.testBit (dayMask us)) d) > g.bear)), .bool (decide ((g.sm s (Nat.testBit (dayMask us)) d) > g.bear))]) rfl (callX_args fH7) ?_
    have mH7 := kH7.1
    have hk := hk.trans kH7
    have hw := kH7.sl0 hw
    have ha := kH7.sl0 ha
    have hl := kH7.sl0 hl
    have c1 := kH7.cl c1 (by simp)
    have c3 := kH7.cl c3 (by simp)
    have hta := kH7.sl0 hta
    refine wD_mov (v := iv (sureV (decide ((g.wl s d) ≥ g.kill)) (decide ((g.wh s d) ≥ g.kill)))) rfl ?_
    refine wD_mov (v := iv (sureV (decide ((g.sm s (Nat.testBit (dayMask us)) d) > g.bear)) (decide ((g.sl s (Nat.testBit (dayMask us)) d) > g.bear)))) rfl ?_
    refine wD_end (by repeat' first | exact True.intro | exact (fun h => h) | refine And.intro ?_ ?_ | (intro h; have h : (_ : Nat) = _ := h; omega)) ?_
    exact And.intro trivial (Exists.intro _ (And.intro rfl ⟨rfl, hk⟩))
end
end Go.Ax

/-
  Late: the law LateFloods, whatever the input (written by program).
-/
namespace Go.Ax
open Go Go.RowKit Go.Proofs

section
variable {kn : FuncId → Option Bool} {lo : Nat} {H : Hp}
end
end Go.Ax

/-! What 'low' makes of more functions of late (written by program). -/
namespace Go.Ax
open Go Go.RowKit Go.Proofs
end Go.Ax

/-
  Late: the longest course; Drowned, Bears (46, 22, 24) (written by program).
-/
namespace Go.Ax
open Go Go.RowKit Go.Proofs

theorem prun_und72 : prun Try.prog (underlying 72) = some (.struct #[⟨"days", 3, 0, false, "", "fenberry/late", 0⟩, ⟨"warmth", 24, 1, false, "", "fenberry/late", 8⟩, ⟨"least", 69, 3, false, "", "fenberry/late", 24⟩, ⟨"most", 70, 5, false, "", "fenberry/late", 40⟩]) := by kernel_rfl
theorem st72 : Try.prog.stoodInHeld 72 = false := by kernel_rfl
/-- a state, whether it is the one that a search returns that finds nothing -/
theorem prun_eq72 (d : Nat) {a : Int} {v1 v2 v3 v4 v5 v6 : Value} (h : a ≠ -1) : prun Try.prog (Op.equalIn (d + 2) 72 (.agg #[iv a, v1, v2, v3, v4, v5, v6]) (.agg noneS.toArray)) = some false := by
  rw [Op.equalIn]
  rw [prun_bind, prun_und72]
  simp only []
  rw [prun_bind]
  rw [show prun Try.prog program = some Try.prog from rfl]
  simp only [st72]
  simp only [Bool.false_eq_true, if_false, ↓reduceIte]
  rw [← Array.forIn_toList]
  simp only [List.forIn_cons, List.forIn_nil]
  rw [if_pos (by decide)]
  have e0 : prun Try.prog (part 3 #[iv a, v1, v2, v3, v4, v5, v6] 0) = some (iv a) := by kernel_rfl
  have e1 : prun Try.prog (part 3 noneS.toArray 0) = some (iv (-1)) := by kernel_rfl
  have e2 : (a == -1) = false := by simpa using h
  simp only [prun_bind, e0, e1, prun_eqi, e2, Bool.not_false, ↓reduceIte, prun_pure]
theorem pure_eq72 {n : Nat} {S : Rg} {d : Option Tmp} {x y : Operand} {p : String} {a : Int} {v1 v2 v3 v4 v5 v6 : Value} (hx : evS S x = some (.agg #[iv a, v1, v2, v3, v4, v5, v6])) (hy : evS S y = some (.agg noneS.toArray)) (hv : flat (.agg #[iv a, v1, v2, v3, v4, v5, v6]) = true) (h : a ≠ -1) :
    pureOp Try.prog (frS n S) ⟨d, .binOp .eql 72 x y 72, 4, p, #[], none⟩ = some (.bool false) := by
  have key : prun Try.prog (do eqGuard .eql 72 x y (.agg #[iv a, v1, v2, v3, v4, v5, v6]) (.agg noneS.toArray); binOp .eql 72 (.agg #[iv a, v1, v2, v3, v4, v5, v6]) (.agg noneS.toArray)) = some (.bool false) := by
    rw [prun_bind]
    have hg : prun Try.prog (eqGuard .eql 72 x y (.agg #[iv a, v1, v2, v3, v4, v5, v6]) (.agg noneS.toArray)) = some () := by kernel_rfl
    rw [hg]
    clear hg
    have hb : binOp .eql 72 (.agg #[iv a, v1, v2, v3, v4, v5, v6]) (.agg noneS.toArray) = (Op.equal 72 (.agg #[iv a, v1, v2, v3, v4, v5, v6]) (.agg noneS.toArray) >>= fun r => pure (.bool r)) := by kernel_rfl
    simp only [hb]
    rw [prun_bind]
    have heq : Op.equal 72 (.agg #[iv a, v1, v2, v3, v4, v5, v6]) (.agg noneS.toArray) = Op.equalIn (9998 + 2) 72 (.agg #[iv a, v1, v2, v3, v4, v5, v6]) (.agg noneS.toArray) := congrArg (fun n => Op.equalIn n 72 (.agg #[iv a, v1, v2, v3, v4, v5, v6]) (.agg noneS.toArray)) md
    rw [heq, prun_eq72 _ h]
    rfl
  unfold pureOp
  simp only [ev_frS, hx, hy]
  rw [show (flat (.agg #[iv a, v1, v2, v3, v4, v5, v6]) && flat (.agg noneS.toArray)) = true by rw [hv]; rfl, cond_true, key]
  rfl
theorem pure_eq72n {n : Nat} {S : Rg} {d : Option Tmp} {x y : Operand} {p : String} (hx : evS S x = some (.agg noneS.toArray)) (hy : evS S y = some (.agg noneS.toArray)) :
    pureOp Try.prog (frS n S) ⟨d, .binOp .eql 72 x y 72, 4, p, #[], none⟩ = some (.bool true) := by
  unfold pureOp
  simp only [ev_frS, hx, hy]
  kernel_rfl
/-- what longestCourse answers -/
def Lt.Lc (g : Lt) (a : Int) (w : Value) : Prop :=
  (g.ok = false ∧ w = .tuple #[.agg zeroC.toArray, iv 1]) ∨ (g.ok = true ∧ inB a 0 g.wn = false ∧ w = .tuple #[.agg zeroC.toArray, iv 2]) ∨
  (g.ok = true ∧ ∃ s d : Nat, a = s ∧ s + d = g.wn ∧ w = .tuple #[.agg (crs g s d 0).toArray, iv 0])
theorem Lt.Nc.lc {g : Lt} {a : Int} (hwn : g.wn ≤ 1000) {w : Value} (h : g.Nc a (IntKind.i64.wrap (g.wn - a)) [] w) : g.Lc a w := by
  rcases h with ⟨h1, rfl⟩ | ⟨h1, h2, rfl⟩ | ⟨h1, s, d, rfl, e, h3, _, rfl⟩
  · exact .inl ⟨h1, rfl⟩
  · refine .inr (.inl ⟨h1, ?_, rfl⟩)
    cases hb : inB a 0 g.wn with
    | false => rfl
    | true =>
      have hx := hb
      simp only [inB, Bool.and_eq_true, decide_eq_true_eq] at hx
      rw [wrap_i64 ⟨by omega, by omega⟩] at h2
      simp only [flB, hb, setB, Bool.and_true, Bool.true_and, inB, Bool.and_eq_false_iff, decide_eq_false_iff_not] at h2
      omega
  · have h4 : (s : Int) ≤ g.wn := by omega
    rw [wrap_i64 ⟨by omega, by omega⟩] at e
    exact .inr (.inr ⟨h1, s, d, rfl, by omega, rfl⟩)
/-- what Drowned answers -/
def Lt.Dr (g : Lt) (a : Int) (w : Value) : Prop :=
  (g.ok = false ∧ w = .tuple #[iv 0, iv 1]) ∨ (g.ok = true ∧ inB a 0 g.wn = false ∧ w = .tuple #[iv 0, iv 2]) ∨
  (g.ok = true ∧ ∃ s d : Nat, a = s ∧ s + d = g.wn ∧ ((∃ k, k ≤ d ∧ g.kill ≤ g.wl s k ∧ (∀ j, j < k → g.wl s j < g.kill) ∧ w = .tuple #[iv (k : Int), iv 0]) ∨ ((∀ j, j ≤ d → g.wl s j < g.kill) ∧ w = .tuple #[iv 0, iv 4])))
/-- what Bears answers -/
def Lt.Br (g : Lt) (a : Int) (w : Value) : Prop :=
  (g.ok = false ∧ w = .tuple #[iv 0, iv 1]) ∨ (g.ok = true ∧ inB a 0 g.wn = false ∧ w = .tuple #[iv 0, iv 2]) ∨
  (g.ok = true ∧ ∃ s d m : Nat, a = s ∧ s + d = g.wn ∧ m ≤ d ∧ (∀ j, j ≤ m → g.sl s (Nat.testBit 0) j ≤ g.bear) ∧ (m = d ∨ g.bear < g.sl s (Nat.testBit 0) (m + 1)) ∧ w = .tuple #[iv (m : Int), iv 0])
section
variable {kn : FuncId → Option Bool} {lo : Nat} {H : Hp}
end
end Go.Ax

/-
  Late: Best (26) (written by program).
-/
namespace Go.Ax
open Go Go.RowKit Go.Proofs

/-- a flood without fresh days in which both is sure -/
def Lt.fine (g : Lt) (s d : Nat) : Prop := g.kill ≤ g.wl s d ∧ g.sl s (Nat.testBit 0) d ≤ g.bear
theorem Lt.sl_le {g : Lt} {s : Nat} {F : Nat → Bool} : ∀ {j k : Nat}, j ≤ k → g.sl s F j ≤ g.sl s F k
  | j, 0, h => by have : j = 0 := by omega
                  subst this; exact Int.le_refl _
  | j, k + 1, h => by
    rcases Nat.lt_or_ge k j with q | q
    · have : j = k + 1 := by omega
      subst this; exact Int.le_refl _
    · have := Lt.sl_le (g := g) (s := s) (F := F) q
      rw [Lt.sl]; cases decide (g.lo s F (k + 1) < g.need) <;> simp only [cond_true, cond_false] <;> omega
theorem Lt.first {g : Lt} {s k : Nat} (h3 : ∀ j, j < k → g.wl s j < g.kill) {d : Nat} (h : g.fine s d) : k ≤ d := by
  rcases Nat.lt_or_ge d k with q | q
  · have := h3 d q; have := h.1; omega
  · exact q
abbrev Lt.bc (g : Lt) : Option (Nat × Nat) → List Value
  | none => noneS
  | some (a, b) => g.st a (Nat.testBit 0) b
/-- what Best answers -/
def Lt.Bs (g : Lt) (w : Value) : Prop :=
  (g.ok = false ∧ w = .tuple #[iv 0, iv 0, iv 1]) ∨ (g.ok = true ∧ (∀ s d, s + d ≤ g.wn → ¬ g.fine s d) ∧ w = .tuple #[iv 0, iv 0, iv 4]) ∨
  (g.ok = true ∧ ∃ a b : Nat, a + b ≤ g.wn ∧ g.fine a b ∧ (∀ s d, s + d ≤ g.wn → g.fine s d → b < d ∨ (b = d ∧ a ≤ s)) ∧ w = .tuple #[iv (a : Int), iv (b : Int), iv 0])
section
variable {kn : FuncId → Option Bool} {lo : Nat} {H : Hp}
end
end Go.Ax

/-! What 'low' makes of more functions of late (written by program). -/
namespace Go.Ax
open Go Go.RowKit Go.Proofs
end Go.Ax

/-
  Late: the law LateFewest, whatever the input (written by program).
-/
namespace Go.Ax
open Go Go.RowKit Go.Proofs

theorem Lt.sm_sl {g : Lt} (v : g.Vd) {s : Nat} {F : Nat → Bool} (k : Nat) (h : s + k ≤ g.wn) : g.sm s F k ≤ g.sl s F k := by
  have := Lt.tb_in (us := []) (F := F) v k h
  omega
theorem conv_8 (x : Int) (h2 : 0 ≤ x ∧ x ≤ 255) {S : Rg} {n : Nat} {o : Operand} {d : Option Nat} (hx : evS S o = some (.int .u8 x)) : pureOp Try.prog (frS n S) ⟨d, .convert 5 3 o, 3, "", #[], none⟩ = some (iv x) := by
  have e : ∀ y : Int, prun Try.prog (Go.convert 5 3 (.int .u8 y)) = some (.int .i64 (IntKind.i64.wrap y)) := fun y => by kernel_rfl
  unfold pureOp
  simp only [ev_frS, hx, e, wrap_i64 (x := x) ⟨by omega, by omega⟩]
  rfl
section
variable {kn : FuncId → Option Bool} {lo : Nat} {H : Hp}
end
end Go.Ax

/-
  Late: the document's Drowned, Bears, Best (23, 25, 27); the law LateBests, whatever the input (written by program).
-/
namespace Go.Ax
open Go Go.RowKit Go.Proofs

section
variable {kn : FuncId → Option Bool} {lo : Nat} {H : Hp}
end
theorem Lt.Dr.any {g : Lt} {a : Int} {w : Value} (h : g.Dr a w) : ∃ x e : Int, w = .tuple #[iv x, iv e] := by
  rcases h with ⟨_, h⟩ | ⟨_, _, h⟩ | ⟨_, _, _, _, _, ⟨_, _, _, _, h⟩ | ⟨_, h⟩⟩ <;> exact ⟨_, _, h⟩
theorem Lt.Br.any {g : Lt} {a : Int} {w : Value} (h : g.Br a w) : ∃ x e : Int, w = .tuple #[iv x, iv e] := by
  rcases h with ⟨_, h⟩ | ⟨_, _, h⟩ | ⟨_, _, _, _, _, _, _, _, _, h⟩ <;> exact ⟨_, _, h⟩
theorem Lt.Bs.any {g : Lt} {w : Value} (h : g.Bs w) : ∃ x y e : Int, w = .tuple #[iv x, iv y, iv e] := by
  rcases h with ⟨_, h⟩ | ⟨_, _, h⟩ | ⟨_, _, _, _, _, _, h⟩ <;> exact ⟨_, _, _, h⟩
section
variable {kn : FuncId → Option Bool} {lo : Nat} {H : Hp}
end
end Go.Ax

/-! What 'low' makes of more functions of late (written by program). -/
namespace Go.Ax
open Go Go.RowKit Go.Proofs
end Go.Ax

/-
  Late: for LateMore, LateEnds, LateOwns: more of everything, a fresh day, parts of lists (37, 36, 21, 17) (written by program).
-/
namespace Go.Ax
open Go Go.RowKit Go.Proofs

/-- A block that append has made. -/
def Lz (H : Hp) (b : Nat) (cs : List Value) : Prop := b < H.next ∧ H.t.get b = some (.cells cs 24 true)
theorem Keep.lz {H H1 : Hp} {l : List Nat} (h : Keep H H1 l) {b : Nat} {cs : List Value} (hc : Lz H b cs) (hl : b ∉ l) : Lz H1 b cs :=
  ⟨Nat.lt_of_lt_of_le hc.1 h.1, by rw [h.2 b hc.1 hl]; exact hc.2⟩
theorem KeepB.lz {f : Nat} {H H1 : Hp} {b : Nat} {cs : List Value} (h : KeepB f H H1) (hc : Lz H b cs) (hb : b < f) : Lz H1 b cs :=
  ⟨Nat.lt_of_lt_of_le hc.1 h.1, by rw [h.2 b hb]; exact hc.2⟩
theorem Lz.rd {H : Hp} {b : Nat} {cs : List Value} (h : Lz H b cs) : Rd H b cs := ⟨h.1, by unfold cellsOf; rw [h.2]⟩
theorem Lz.cl {H : Hp} {b : Nat} {cs : List Value} (h : Lz H b cs) : Cl H b cs := ⟨h.1, _, _, h.2⟩
theorem Acc.lz {lo f : Nat} {H : Hp} {v : Value} {n : Nat} {cs : List Value} (h : Acc lo f 24 H v n cs) (h0 : 0 < n) : ∃ b, v = .slice (some ⟨b, 0, none⟩) n n ∧ f ≤ b ∧ lo ≤ b ∧ Lz H b cs := by
  rcases h with ⟨h, _⟩ | ⟨b, e, _, hf, hl, hn, hg⟩
  · omega
  · exact ⟨b, e, hf, hl, hn, hg⟩
theorem Acc.nil {lo f : Nat} {e : TypeId} {H : Hp} {v : Value} {cs : List Value} (h : Acc lo f e H v 0 cs) : v = .slice none 0 0 := by
  rcases h with ⟨_, _, h⟩ | ⟨_, _, h, _⟩
  · exact h
  · omega
section
variable {kn : FuncId → Option Bool} {lo : Nat} {H : Hp}
end
end Go.Ax

/-
  Late: the law LateMore, whatever the input (written by program).
-/
namespace Go.Ax
open Go Go.RowKit Go.Proofs

def Lt.ty (g : Lt) (s d : Nat) : Int := sureV (decide (g.sm s (Nat.testBit 0) d > g.bear)) (decide (g.sl s (Nat.testBit 0) d > g.bear))
section
variable {kn : FuncId → Option Bool} {lo : Nat} {H : Hp}
end
end Go.Ax

/-
  Late: for LateEnds: several lists that append makes side by side; the cold and the hot forecast (written by program).
-/
namespace Go.Ax
open Go Go.RowKit Go.Proofs

def bkv : Value → Option Nat
  | .slice (some ⟨b, _, _⟩) _ _ => some b
  | _ => none
/-- not in the same block -/
def Ap (v w : Value) : Prop := ∀ b c, bkv v = some b → bkv w = some c → b ≠ c
theorem Ap.symm {v w : Value} (h : Ap v w) : Ap w v := fun b c h1 h2 e => h c b h2 h1 e.symm
theorem Acc.ap {lo f : Nat} {e : TypeId} {H : Hp} {w : Value} {m : Nat} {ds : List Value} (h : Acc lo f e H w m ds) (i j : Nat) : Ap (.slice (some ⟨H.next, 0, none⟩) i j) w := by
  intro b c h1 h2 e1
  rcases h with ⟨_, _, rfl⟩ | ⟨b2, rfl, _, _, _, hn, _⟩
  · simp [bkv] at h2
  · simp [bkv] at h1 h2; omega
theorem heap_append_sep {P : Program} {lo : Nat} {H : Hp} {t0 t1 e ep : TypeId} {size k cap2 f : Nat} {a : Option Addr} {v : Value} {cs news : List Value} (he : sliceElem P t0 = some (e, size)) (ht : P.underlying t1 = some (.slice ep))
    (hs : Sl H a 1 cap2 news) (hl : news.length = 1 * size) (hz : 0 < size) (hone : news.all one = true) (hcl : cs.length = k * size) (hk : k < 1000) (ha : Acc lo f e H v k cs) (hlo : lo ≤ H.next) (hf : f ≤ H.next) :
    ∃ H1 kd, (∀ (n : Nat) (S : Rg) (d : Option Tmp) (x y : Operand) (ty : TypeId) (p : String), evS S x = some v → evS S y = some (.slice a 1 cap2) → heapOp P lo (frS n S) H ⟨d, .call ⟨.builtin .append, #[x, y], #[t0, t1]⟩, ty, p, #[], none⟩ = some (.val (.slice (some ⟨H.next, 0, none⟩) (k + 1) (k + 1)) H1, kd)) ∧ (kd = .heavy ∨ ∃ b, kd = .store b ∧ f ≤ b) ∧
      Acc lo f e H1 (.slice (some ⟨H.next, 0, none⟩) (k + 1) (k + 1)) (k + 1) (cs ++ news) ∧ KeepB f H H1 ∧ (∀ (w : Value) (m : Nat) (ds : List Value), Acc lo f e H w m ds → Ap v w → Acc lo f e H1 w m ds) := by
  rcases ha with ⟨rfl, rfl, rfl⟩ | ⟨b, rfl, h0, hb, hlb, hn, hg⟩
  · refine ⟨H.new (.cells news e true), .heavy, ?_, .inl rfl, ?_, ⟨Nat.le_succ _, fun b hb => (new_facts rfl).1.2 b (by omega) (by simp)⟩, fun w m ds hw _ => hw.keep (new_facts rfl).1⟩
    · intro n S d x y ty p hx hy
      unfold heapOp
      simp only [evs, ev_frS, hx, hy, builtinV, List.getElem?_toArray, List.getElem?_cons_zero, List.getElem?_cons_succ, he, ht, src_of hs hl, appendV]
      rfl
    · refine .inr ⟨H.next, rfl, by omega, hf, hlo, Nat.lt_succ_self _, ?_⟩
      show (H.t.set H.next _).get H.next = _
      rw [Tr.get_set, if_pos rfl]; rfl
  · have h1 : Nat.ble (0 + (k + 1) * size) cs.length = false := by
      cases h : Nat.ble (0 + (k + 1) * size) cs.length with
      | false => rfl
      | true => have := Nat.le_of_ble_eq_true h; rw [hcl, Nat.succ_mul] at this; omega
    have h2 : Nat.beq (0 + k * size) cs.length = true := by rw [hcl, Nat.zero_add]; exact Nat.beq_refl _
    have h3 : Nat.ble (k + 1) 1048576 = true := Nat.ble_eq_true_of_le (by omega)
    have h4 : Nat.beq e e = true := Nat.beq_refl e
    refine ⟨({ H with t := H.t.set b .dead } : Hp).new (.cells (cs ++ news) e true), .store b, ?_, .inr ⟨b, rfl, hb⟩, ?_, ?_, ?_⟩
    · intro n S d x y ty p hx hy
      unfold heapOp
      simp only [evs, ev_frS, hx, hy, builtinV, List.getElem?_toArray, List.getElem?_cons_zero, List.getElem?_cons_succ, he, ht, src_of hs hl, appendV, hg, h1, h2, h3, h4, hone, Nat.ble_eq_true_of_le hlb, Bool.and_self, cond_true, cond_false, List.drop_zero, show Nat.beq 1 0 = false from rfl]
    · refine .inr ⟨H.next, rfl, by omega, hf, hlo, Nat.lt_succ_self _, ?_⟩
      show ((H.t.set b .dead).set H.next _).get H.next = _
      rw [Tr.get_set, if_pos rfl]
    · refine ⟨Nat.le_succ _, fun c hc => ?_⟩
      show ((H.t.set b .dead).set H.next _).get c = _
      rw [Tr.get_set, if_neg (by omega), Tr.get_set, if_neg (by omega)]
    · intro w m ds hw hap
      rcases hw with h | ⟨b2, rfl, q1, q2, q3, q4, q5⟩
      · exact .inl h
      · have hne : b ≠ b2 := hap b b2 rfl rfl
        refine .inr ⟨b2, rfl, q1, q2, q3, Nat.lt_succ_of_lt q4, ?_⟩
        show ((H.t.set b .dead).set H.next _).get b2 = _
        rw [Tr.get_set, if_neg (by omega), Tr.get_set, if_neg (fun e => hne e.symm)]
        exact q5
/-- several lists that append makes, apart from each other -/
def AcL (lo f : Nat) (e : TypeId) (H : Hp) (l : List (Value × Nat × List Value)) : Prop := (∀ x ∈ l, Acc lo f e H x.1 x.2.1 x.2.2) ∧ l.Pairwise fun x y => Ap x.1 y.1
theorem AcL.keep {lo f : Nat} {e : TypeId} {H H1 : Hp} {l : List (Value × Nat × List Value)} (h : AcL lo f e H l) (k : Keep H H1 []) : AcL lo f e H1 l := ⟨fun x hx => (h.1 x hx).keep k, h.2⟩
theorem AcL.keepW {lo f : Nat} {e : TypeId} {H H1 : Hp} {l : List (Value × Nat × List Value)} (h : AcL lo f e H l) {x : Nat} (k : Keep H H1 [x]) (hx : x < f) : AcL lo f e H1 l := ⟨fun y hy => (h.1 y hy).keepW k hx, h.2⟩
theorem AcL.app {P : Program} {lo : Nat} {H : Hp} {t0 t1 e ep : TypeId} {size k cap2 f : Nat} {a : Option Addr} {v : Value} {cs news : List Value} (pre post : List (Value × Nat × List Value)) (he : sliceElem P t0 = some (e, size)) (ht : P.underlying t1 = some (.slice ep))
    (hs : Sl H a 1 cap2 news) (hl : news.length = 1 * size) (hz : 0 < size) (hone : news.all one = true) (hcl : cs.length = k * size) (hk : k < 1000) (ha : AcL lo f e H (pre ++ (v, k, cs) :: post)) (hlo : lo ≤ H.next) (hf : f ≤ H.next) :
    ∃ H1 kd, (∀ (n : Nat) (S : Rg) (d : Option Tmp) (x y : Operand) (ty : TypeId) (p : String), evS S x = some v → evS S y = some (.slice a 1 cap2) → heapOp P lo (frS n S) H ⟨d, .call ⟨.builtin .append, #[x, y], #[t0, t1]⟩, ty, p, #[], none⟩ = some (.val (.slice (some ⟨H.next, 0, none⟩) (k + 1) (k + 1)) H1, kd)) ∧ (kd = .heavy ∨ ∃ b, kd = .store b ∧ f ≤ b) ∧
      AcL lo f e H1 (pre ++ (.slice (some ⟨H.next, 0, none⟩) (k + 1) (k + 1), k + 1, cs ++ news) :: post) ∧ KeepB f H H1 := by
  obtain ⟨h1, h2⟩ := ha
  rw [List.pairwise_append, List.pairwise_cons] at h2
  obtain ⟨p1, ⟨p2, p3⟩, p4⟩ := h2
  obtain ⟨H1, kd, q1, q2, q3, q4, q5⟩ := heap_append_sep he ht hs hl hz hone hcl hk (h1 (v, k, cs) (by simp)) hlo hf
  refine ⟨H1, kd, q1, q2, ⟨fun x hx => ?_, ?_⟩, q4⟩
  · rw [List.mem_append, List.mem_cons] at hx
    rcases hx with hx | rfl | hx
    · exact q5 _ _ _ (h1 x (by simp [hx])) (p4 x hx _ (by simp)).symm
    · exact q3
    · exact q5 _ _ _ (h1 x (by simp [hx])) (p2 x hx)
  · rw [List.pairwise_append, List.pairwise_cons]
    refine ⟨p1, ⟨fun x hx => (h1 x (by simp [hx])).ap _ _, p3⟩, fun x hx y hy => ?_⟩
    rcases List.mem_cons.1 hy with rfl | hy
    · exact ((h1 x (by simp [hx])).ap _ _).symm
    · exact p4 x hx y (by simp [hy])
def oneL (s : Int × Int) : Int × Int := (s.1, s.1)
def oneH (s : Int × Int) : Int × Int := (s.2, s.2)
abbrev Lt.hot (g : Lt) (a1 : Option Addr) (c1 : Nat) (a2 : Option Addr) (c2 : Nat) : Lt := ⟨a1, g.wn, c1, g.ws.map oneH, a2, g.wn, c2, g.as.map oneL, g.r2, g.r2, g.f1, g.f1, g.g1, g.g1, g.full, g.base, g.kill, g.need, g.bear⟩
section
variable {g : Lt} {s : Nat} {F : Nat → Bool} {a1 : Option Addr} {c1 : Nat} {a2 : Option Addr} {c2 : Nat}
end
end Go.Ax

/-
  Late: LateEnds: the regions of its loop (written by program).
-/
namespace Go.Ax
open Go Go.RowKit Go.Proofs

section
variable {kn : FuncId → Option Bool} {lo : Nat} {H : Hp}
end
end Go.Ax

/-
  Late: the law LateEnds, whatever the input (written by program).
-/
namespace Go.Ax
open Go Go.RowKit Go.Proofs

section
variable {kn : FuncId → Option Bool} {lo : Nat} {H : Hp}
end
end Go.Ax

/-! What 'low' makes of more functions of late (written by program). -/
namespace Go.Ax
open Go Go.RowKit Go.Proofs
theorem N30 : Try.f30.ntmps = 26 := by kernel_rfl
theorem Z30 : Try.f30.results.toList = ((List.toArray [(.tmp 4)]) : Array ResultVar).toList := by kernel_rfl
theorem B30 : Try.f30.body = some (at_ Try.f30 []) := by kernel_rfl
noncomputable def R30 : RC := (.seq (.reg [⟨(some 4), none, (.mov (.const (.bool false)))⟩])
  (.seq (.seq (.reg [⟨(some 6), none, (.mov (.tmp 0))⟩, ⟨(some 7), none, (.len (.tmp 6))⟩, ⟨(some 8), none, (.mov (.tmp 1))⟩, ⟨(some 9), none, (.len (.tmp 8))⟩, ⟨(some 10), none, (.cmp .neq (.tmp 7) (.tmp 9))⟩])
  (.cond (.tmp 10) (.seq (.reg [⟨(some 4), none, (.mov (.const (.bool false)))⟩])
  .ret)
  .skip))
  (.seq (.seq (.reg [⟨(some 5), none, (.mov (.const (.int .i64 0)))⟩])
  (.block 0 (.other (at_ Try.f30 [1, 1, 0, 1, 0]))))
  (.seq (.reg [⟨(some 4), none, (.mov (.const (.bool true)))⟩])
  .ret))))
theorem L30 : low Try.prog Try.f30.ntmps (at_ Try.f30 []) = some R30 := by kernel_rfl
theorem E30_1 : at_ Try.f30 [1, 1, 0, 1, 0] = .loop (at_ Try.f30 [1, 1, 0, 1, 0, 0]) := by kernel_rfl
noncomputable def R30x1 : RC := (.seq (.seq (.reg [⟨(some 11), none, (.mov (.tmp 5))⟩, ⟨(some 12), none, (.mov (.tmp 0))⟩, ⟨(some 13), none, (.len (.tmp 12))⟩, ⟨(some 14), none, (.cmp .lss (.tmp 11) (.tmp 13))⟩])
  (.cond (.tmp 14) .skip
  (.exit 0)))
  (.seq (.block 1 (.seq (.dreg [⟨(some 17), none, (.mov (.tmp 0))⟩, ⟨(some 18), none, (.mov (.tmp 5))⟩, ⟨(some 19), none, (.idx (.tmp 17) (.tmp 18) 1)⟩, ⟨(some 20), none, (.ld (.tmp 19) 1)⟩, ⟨(some 21), none, (.mov (.tmp 1))⟩, ⟨(some 22), none, (.mov (.tmp 5))⟩, ⟨(some 23), none, (.idx (.tmp 21) (.tmp 22) 1)⟩, ⟨(some 24), none, (.ld (.tmp 23) 1)⟩, ⟨(some 25), none, (.cmp .neq (.tmp 20) (.tmp 24))⟩] [255, 112, 48, 0, 0, 7, 3, 0, 0])
  (.cond (.tmp 25) (.seq (.reg [⟨(some 4), none, (.mov (.const (.bool false)))⟩])
  .ret)
  .skip)))
  (.reg [⟨(some 15), none, (.mov (.tmp 5))⟩, ⟨(some 16), none, (.ari .add (.tmp 15) (.const (.int .i64 1)))⟩, ⟨(some 5), none, (.mov (.tmp 16))⟩])))
theorem L30x1 : low Try.prog Try.f30.ntmps (at_ Try.f30 [1, 1, 0, 1, 0, 0]) = some R30x1 := by kernel_rfl
end Go.Ax

/-
  Late: the law LateOwns, whatever the input (written by program).
-/
namespace Go.Ax
open Go Go.RowKit Go.Proofs

theorem AccB.rd {b0 lo f : Nat} {e : TypeId} {H : Hp} {v : Value} {n : Nat} {cs : List Value} (h : AccB b0 lo f e H v n cs) (hf : f ≤ b0) : ∃ b, v = .slice (some ⟨b, 0, none⟩) n n ∧ f ≤ b ∧ Rd H b cs := by
  rcases h with ⟨h1, h2, h3, h4, e0, h5⟩ | ⟨b, e1, h0, hb, hl, hn, hg⟩
  · exact ⟨b0, by rw [h3, h1], hf, h4, by unfold cellsOf; rw [h5, h2]⟩
  · exact ⟨b, e1, hb, hn, by unfold cellsOf; rw [hg]⟩
theorem Lt.Ox.c1 {g : Lt} {a b : Int} {us : List Int} {H H' : Hp} {w : Value} (h : g.Ox a b us H w H') (hok : g.ok = false) : w = .tuple #[.slice none 0 0, iv 1] := by
  rcases h with ⟨_, h⟩ | ⟨h, _⟩ | ⟨h, _⟩
  · exact h
  · rw [hok] at h; cases h
  · rw [hok] at h; cases h
theorem Lt.Ox.c2 {g : Lt} {a b : Int} {us : List Int} {H H' : Hp} {w : Value} (h : g.Ox a b us H w H') (hok : g.ok = true) (hf : (flB g a b && setB a (a + b) us) = false) : w = .tuple #[.slice none 0 0, iv 2] := by
  rcases h with ⟨h, _⟩ | ⟨_, _, h⟩ | ⟨_, s, d, rfl, rfl, h1, h2, _⟩
  · rw [hok] at h; cases h
  · exact h
  · rw [flB_of h1, h2] at hf; cases hf
section
variable {kn : FuncId → Option Bool} {lo : Nat} {H : Hp}
theorem ints30_ok {a1 a2 : Option Addr} {n c1 c2 : Nat} {us : List Int} (h1 : Sl H a1 n c1 (ints us)) (h2 : Sl H a2 n c2 (ints us)) (hl : us.length = n) (hn : n ≤ 1000) :
    ∃ H', FnX Try.prog kn lo 30 [.slice a1 n c1, .slice a2 n c2] H (.bool true) H' ∧ Keep H H' [] := by
  have key := fnX_low (kn := kn) (lo := lo) (H := H) (args := [.slice a1 n c1, .slice a2 n c2]) (Q := fun w H' => w = .bool true ∧ Keep H H' []) Try.func30 B30 N30 Z30 L30 (by simp) ?_
  · obtain ⟨w, H', h, rfl, q⟩ := key; exact ⟨H', h, q⟩
  have hk := Keep.refl H []
  refine And.intro (fun q1 => ?_) (fun q1 => ?_)
  · have q1 : (n : Int) ≠ (n : Int) := by simpa using q1
    exact absurd rfl q1
  · have q1 : ¬ ((n : Int) ≠ (n : Int)) := by simpa using q1
    refine loop_low (fn := Try.f30) E30_1 N30 L30x1 (fun i : Nat => [(0, .slice a1 n c1), (1, .slice a2 n c2), (5, iv (i : Int))])
      (fun k i H' => i + k = n ∧ Keep H H' []) n 0 ⟨by omega, Keep.refl _ _⟩ ⟨rfl, rfl, rfl, trivial⟩ ?_
    rintro k i L1 ⟨hik, hki⟩
    have hm := hki.1
    have hk := hk.trans hki
    have h1 := hki.sl0 h1
    have h2 := hki.sl0 h2
    have kb := hki
    refine And.intro (fun q2 => ?_) (fun q2 => ?_)
    · have q2 : (i : Int) < (n : Int) := of_decide_eq_true q2
      have hi : i < n := by omega
      obtain ⟨x, hx⟩ := get_some (l := us) (i := i) (by omega)
      rcases h1 with ⟨_, h0, _⟩ | ⟨b1, rfl, r1, _⟩
      · omega
      rcases h2 with ⟨_, h0, _⟩ | ⟨b2, rfl, r2, _⟩
      · omega
      refine wD_seq ?_
      refine wD_mov (v := .slice (some ⟨b1, 0, none⟩) n c1) rfl ?_
      refine wD_mov (v := iv (i : Int)) rfl ?_
      refine wD_idx (b := b1) (o := 0) (k := i) (j := (i : Int)) rfl rfl rfl hi ?_
      refine wD_ld (b := b1) (o := 0 + i * 1) (v := iv x) rfl r1 (ints_at hx) ?_
      refine wD_mov (v := .slice (some ⟨b2, 0, none⟩) n c2) rfl ?_
      refine wD_mov (v := iv (i : Int)) rfl ?_
      refine wD_idx (b := b2) (o := 0) (k := i) (j := (i : Int)) rfl rfl rfl hi ?_
      refine wD_ld (b := b2) (o := 0 + i * 1) (v := iv x) rfl r2 (ints_at hx) ?_
      refine wD_c_neq (a := x) (b := x) rfl rfl ?_
      refine wD_end (by repeat' first | exact True.intro | exact (fun h => h) | refine And.intro ?_ ?_ | (intro h; have h : (_ : Nat) = _ := h; omega)) ?_
      refine And.intro (fun q3 => ?_) (fun q3 => ?_)
      · have q3 : x ≠ x := by simpa using q3
        exact absurd rfl q3
      · have q3 : ¬ (x ≠ x) := by simpa using q3
        refine And.intro (show InR ((i : Int) + 1) from ⟨by omega, by omega⟩) ?_
        exact ⟨k - 1, i + 1, by omega, ⟨by omega, kb⟩, rfl, rfl, rfl, trivial⟩
    · have q2 : ¬ ((i : Int) < (n : Int)) := of_decide_eq_false q2
      exact And.intro trivial (Exists.intro _ (And.intro rfl ⟨rfl, hk⟩))
end
end Go.Ax

/-! What 'low' makes of more functions of late (written by program). -/
namespace Go.Ax
open Go Go.RowKit Go.Proofs
theorem N28 : Try.f28.ntmps = 35 := by kernel_rfl
theorem Z28 : Try.f28.results.toList = ((List.toArray [(.cell 6 27), (.cell 7 30)]) : Array ResultVar).toList := by kernel_rfl
theorem B28 : Try.f28.body = some (at_ Try.f28 []) := by kernel_rfl
noncomputable def R28 : RC := (.seq (.reg [⟨(some 3), none, (.box 26 (.tmp 0))⟩, ⟨(some 6), none, (.alc 27 [(.slice none 0 0)])⟩, ⟨(some 7), none, (.alc 30 [(.int .i64 0)])⟩])
  (.seq (.reg [⟨(some 12), none, (.lda (.tmp 3) 13)⟩, ⟨(some 13), none, (.mov (.tmp 1))⟩, ⟨(some 14), none, (.mov (.tmp 2))⟩, ⟨(some 15), none, (.call ⟨(.value (.func 38)), (List.toArray [(.tmp 12), (.tmp 13), (.tmp 14), (.const (.slice none 0 0))]), (List.toArray [26, 3, 3, 27])⟩ true)⟩, ⟨(some 11), none, (.mov (.tmp 15))⟩, ⟨(some 16), none, (.pur ⟨(some 16), (.extract (.tmp 11) 0), 65, "", (List.toArray []), none⟩)⟩, ⟨(some 17), none, (.pur ⟨(some 17), (.extract (.tmp 11) 1), 30, "", (List.toArray []), none⟩)⟩, ⟨(some 8), none, (.alc 65 [(.slice none 0 0), (.slice none 0 0), (.int .i64 0), (.int .i64 0), (.int .i64 0), (.int .i64 0), (.int .i64 0), (.int .i64 0), (.int .i64 0), (.int .i64 0), (.int .i64 0), (.int .i64 0), (.int .i64 0), (.int .i64 0), (.int .i64 0), (.int .u64 0)])⟩, ⟨none, none, (.sta (.tmp 8) (.tmp 16) 16)⟩, ⟨(some 9), none, (.mov (.tmp 17))⟩])
  (.seq (.seq (.reg [⟨(some 18), none, (.mov (.tmp 9))⟩, ⟨(some 19), none, (.cmp .neq (.tmp 18) (.const (.int .i64 0)))⟩])
  (.cond (.tmp 19) (.seq (.reg [⟨(some 20), none, (.mov (.tmp 9))⟩, ⟨none, none, (.st (.tmp 6) (.const (.slice none 0 0)))⟩, ⟨none, none, (.st (.tmp 7) (.tmp 20))⟩])
  .ret)
  .skip))
  (.seq (.seq (.reg [⟨(some 21), none, (.mov (.tmp 2))⟩, ⟨(some 22), none, (.cmp .gtr (.tmp 21) (.const (.int .i64 12)))⟩])
  (.cond (.tmp 22) (.seq (.reg [⟨none, none, (.st (.tmp 6) (.const (.slice none 0 0)))⟩, ⟨none, none, (.st (.tmp 7) (.const (.int .i64 2)))⟩])
  .ret)
  .skip))
  (.seq (.seq (.reg [⟨(some 23), none, (.addo (.tmp 8) 13)⟩, ⟨(some 24), none, (.lda (.tmp 23) 2)⟩, ⟨(some 25), none, (.call ⟨(.value (.func 53)), (List.toArray [(.tmp 24)]), (List.toArray [61])⟩ true)⟩])
  (.block 0 (.other (at_ Try.f28 [1, 1, 1, 1, 0, 1, 0]))))
  (.seq (.reg [⟨none, none, (.st (.tmp 6) (.const (.slice none 0 0)))⟩, ⟨none, none, (.st (.tmp 7) (.const (.int .i64 4)))⟩])
  .ret))))))
theorem L28 : low Try.prog Try.f28.ntmps (at_ Try.f28 []) = some R28 := by kernel_rfl
theorem E28_1 : at_ Try.f28 [1, 1, 1, 1, 0, 1, 0] = .rangeFunc (.tmp 25) ((List.toArray [26])) (at_ Try.f28 [1, 1, 1, 1, 0, 1, 0, 0]) (at_ Try.f28 [1, 1, 1, 1, 0, 1, 0, 1]) := by kernel_rfl
noncomputable def R28x1 : RC := (.reg [⟨(some 10), none, (.mov (.tmp 26))⟩])
theorem L28x1 : low Try.prog Try.f28.ntmps (at_ Try.f28 [1, 1, 1, 1, 0, 1, 0, 0]) = some R28x1 := by kernel_rfl
noncomputable def R28x2 : RC := (.block 1 (.seq (.reg [⟨(some 27), none, (.mov (.tmp 10))⟩, ⟨(some 28), none, (.addo (.tmp 8) 15)⟩, ⟨none, none, (.st (.tmp 28) (.tmp 27))⟩])
  (.seq (.reg [⟨(some 29), none, (.lda (.tmp 8) 16)⟩, ⟨(some 30), none, (.call ⟨(.value (.func 50)), (List.toArray [(.tmp 29)]), (List.toArray [65])⟩ true)⟩, ⟨(some 31), none, (.call ⟨(.value (.func 48)), (List.toArray []), (List.toArray [])⟩ true)⟩, ⟨(some 32), none, (.pur ⟨(some 32), (.binOp .eql 72 (.tmp 30) (.tmp 31) 72), 4, "", (List.toArray []), none⟩)⟩])
  (.cond (.tmp 32) (.seq (.reg [⟨(some 33), none, (.mov (.tmp 10))⟩, ⟨(some 34), none, (.call ⟨(.value (.func 54)), (List.toArray [(.tmp 33)]), (List.toArray [63])⟩ true)⟩, ⟨none, none, (.st (.tmp 6) (.tmp 34))⟩, ⟨none, none, (.st (.tmp 7) (.const (.int .i64 0)))⟩])
  .ret)
  .skip))))
theorem L28x2 : low Try.prog Try.f28.ntmps (at_ Try.f28 [1, 1, 1, 1, 0, 1, 0, 1]) = some R28x2 := by kernel_rfl
theorem N53 : Try.f53.ntmps = 4 := by kernel_rfl
theorem Z53 : Try.f53.results.toList = ((List.toArray [(.tmp 2)]) : Array ResultVar).toList := by kernel_rfl
theorem B53 : Try.f53.body = some (at_ Try.f53 []) := by kernel_rfl
noncomputable def R53 : RC := (.seq (.reg [⟨(some 1), none, (.box 61 (.tmp 0))⟩, ⟨(some 2), none, (.mov (.const .nilFunc))⟩])
  (.seq (.reg [⟨(some 3), none, (.pur ⟨(some 3), (.makeFunc (.func 74) (List.toArray []) (List.toArray [(.tmp 1)])), 86, "", (List.toArray []), none⟩)⟩, ⟨(some 2), none, (.mov (.tmp 3))⟩])
  .ret))
theorem L53 : low Try.prog Try.f53.ntmps (at_ Try.f53 []) = some R53 := by kernel_rfl
theorem N54 : Try.f54.ntmps = 19 := by kernel_rfl
theorem Z54 : Try.f54.results.toList = ((List.toArray [(.tmp 2)]) : Array ResultVar).toList := by kernel_rfl
theorem B54 : Try.f54.body = some (at_ Try.f54 []) := by kernel_rfl
noncomputable def R54 : RC := (.seq (.reg [⟨(some 2), none, (.mov (.const (.slice none 0 0)))⟩])
  (.seq (.reg [⟨(some 3), none, (.mov (.const (.slice none 0 0)))⟩])
  (.seq (.seq (.reg [⟨(some 5), none, (.mov (.tmp 0))⟩, ⟨(some 6), none, (.call ⟨(.value (.func 77)), (List.toArray [(.tmp 5)]), (List.toArray [62])⟩ true)⟩, ⟨(some 7), none, (.mov (.const (.int .i64 0)))⟩])
  (.block 0 (.other (at_ Try.f54 [1, 1, 0, 1, 0]))))
  (.seq (.reg [⟨(some 18), none, (.mov (.tmp 3))⟩, ⟨(some 2), none, (.mov (.tmp 18))⟩])
  .ret))))
theorem L54 : low Try.prog Try.f54.ntmps (at_ Try.f54 []) = some R54 := by kernel_rfl
theorem E54_1 : at_ Try.f54 [1, 1, 0, 1, 0] = .loop (at_ Try.f54 [1, 1, 0, 1, 0, 0]) := by kernel_rfl
noncomputable def R54x1 : RC := (.seq (.reg [⟨(some 8), none, (.cmp .lss (.tmp 7) (.tmp 6))⟩])
  (.seq (.cond (.tmp 8) .skip
  (.exit 0))
  (.seq (.block 1 (.seq (.reg [⟨(some 9), none, (.mov (.tmp 7))⟩, ⟨(some 4), none, (.mov (.tmp 9))⟩])
  (.seq (.reg [⟨(some 10), none, (.mov (.tmp 0))⟩, ⟨(some 11), none, (.mov (.tmp 4))⟩, ⟨(some 12), none, (.call ⟨(.value (.func 78)), (List.toArray [(.tmp 10), (.tmp 11)]), (List.toArray [63, 3])⟩ true)⟩])
  (.cond (.tmp 12) (.reg [⟨(some 13), none, (.mov (.tmp 3))⟩, ⟨(some 14), none, (.mov (.tmp 4))⟩, ⟨(some 15), none, (.mem ⟨(some 15), (.buildSlice 27 1 (List.toArray [(0, (.tmp 14))])), 27, "", (List.toArray []), none⟩)⟩, ⟨(some 16), none, (.mem ⟨(some 16), (.call ⟨(.builtin .append), (List.toArray [(.tmp 13), (.tmp 15)]), (List.toArray [27, 27])⟩), 27, "", (List.toArray []), none⟩)⟩, ⟨(some 3), none, (.mov (.tmp 16))⟩])
  .skip))))
  (.reg [⟨(some 17), none, (.ari .add (.tmp 7) (.const (.int .i64 1)))⟩, ⟨(some 7), none, (.mov (.tmp 17))⟩]))))
theorem L54x1 : low Try.prog Try.f54.ntmps (at_ Try.f54 [1, 1, 0, 1, 0, 0]) = some R54x1 := by kernel_rfl
theorem N74 : Try.f74.ntmps = 38 := by kernel_rfl
theorem Z74 : Try.f74.results.toList = ((List.toArray []) : Array ResultVar).toList := by kernel_rfl
theorem B74 : Try.f74.body = some (at_ Try.f74 []) := by kernel_rfl
noncomputable def R74 : RC := (.seq (.reg [⟨(some 7), none, (.addo (.tmp 1) 1)⟩, ⟨(some 8), none, (.ld (.tmp 7) 1)⟩, ⟨(some 9), none, (.pur ⟨(some 9), (.binOp .shl 3 (.const (.int .i64 1)) (.tmp 8) 3), 3, "", (List.toArray []), none⟩)⟩, ⟨(some 3), none, (.mov (.tmp 9))⟩])
  (.seq (.reg [⟨(some 10), none, (.addo (.tmp 1) 1)⟩, ⟨(some 11), none, (.ld (.tmp 10) 1)⟩, ⟨(some 12), none, (.ari .add (.tmp 11) (.const (.int .i64 1)))⟩, ⟨(some 13), none, (.mov (.const (.int .i64 0)))⟩])
  (.block 0 (.other (at_ Try.f74 [1, 1, 0])))))
theorem L74 : low Try.prog Try.f74.ntmps (at_ Try.f74 []) = some R74 := by kernel_rfl
theorem E74_1 : at_ Try.f74 [1, 1, 0] = .loop (at_ Try.f74 [1, 1, 0, 0]) := by kernel_rfl
noncomputable def R74x1 : RC := (.seq (.reg [⟨(some 14), none, (.cmp .lss (.tmp 13) (.tmp 12))⟩])
  (.seq (.cond (.tmp 14) .skip
  (.exit 0))
  (.seq (.block 1 (.seq (.reg [⟨(some 15), none, (.mov (.tmp 13))⟩, ⟨(some 4), none, (.mov (.tmp 15))⟩])
  (.seq (.reg [⟨(some 16), none, (.mov (.tmp 3))⟩, ⟨(some 17), none, (.mov (.const (.int .i64 0)))⟩])
  (.block 2 (.other (at_ Try.f74 [1, 1, 0, 0, 1, 1, 0, 0, 1, 1, 0]))))))
  (.reg [⟨(some 37), none, (.ari .add (.tmp 13) (.const (.int .i64 1)))⟩, ⟨(some 13), none, (.mov (.tmp 37))⟩]))))
theorem L74x1 : low Try.prog Try.f74.ntmps (at_ Try.f74 [1, 1, 0, 0]) = some R74x1 := by kernel_rfl
theorem E74_2 : at_ Try.f74 [1, 1, 0, 0, 1, 1, 0, 0, 1, 1, 0] = .loop (at_ Try.f74 [1, 1, 0, 0, 1, 1, 0, 0, 1, 1, 0, 0]) := by kernel_rfl
noncomputable def R74x2 : RC := (.seq (.reg [⟨(some 18), none, (.cmp .lss (.tmp 17) (.tmp 16))⟩])
  (.seq (.cond (.tmp 18) .skip
  (.exit 2))
  (.seq (.block 3 (.seq (.reg [⟨(some 19), none, (.mov (.tmp 17))⟩, ⟨(some 5), none, (.mov (.tmp 19))⟩])
  (.seq (.reg [⟨(some 20), none, (.lda (.tmp 1) 2)⟩, ⟨(some 21), none, (.mov (.tmp 3))⟩, ⟨(some 22), none, (.ari .sub (.tmp 21) (.const (.int .i64 1)))⟩, ⟨(some 23), none, (.mov (.tmp 5))⟩, ⟨(some 24), none, (.ari .sub (.tmp 22) (.tmp 23))⟩, ⟨(some 25), none, (.call ⟨(.value (.func 75)), (List.toArray [(.tmp 20), (.tmp 24)]), (List.toArray [61, 3])⟩ true)⟩, ⟨(some 6), none, (.mov (.tmp 25))⟩])
  (.seq (.reg [⟨(some 26), none, (.mov (.tmp 6))⟩, ⟨(some 27), none, (.call ⟨(.value (.func 76)), (List.toArray [(.tmp 26)]), (List.toArray [63])⟩ true)⟩, ⟨(some 28), none, (.mov (.tmp 4))⟩, ⟨(some 29), none, (.cmpb .eql (.tmp 27) (.tmp 28))⟩, ⟨(some 30), none, (.mov (.tmp 29))⟩, ⟨(some 31), (some (30, true)), (.mov (.tmp 0))⟩, ⟨(some 32), (some (30, true)), (.mov (.tmp 6))⟩, ⟨(some 33), (some (30, true)), (.call ⟨(.value (.tmp 31)), (List.toArray [(.tmp 32)]), (List.toArray [63])⟩ true)⟩, ⟨(some 34), (some (30, true)), (.pur ⟨(some 34), (.unOp .not 4 (.tmp 33)), 4, "", (List.toArray []), none⟩)⟩, ⟨(some 35), none, (.pur ⟨(some 35), (.pick (.tmp 30) (.tmp 34) (.const (.bool false))), 4, "", (List.toArray []), none⟩)⟩])
  (.cond (.tmp 35) .ret
  .skip)))))
  (.reg [⟨(some 36), none, (.ari .add (.tmp 17) (.const (.int .i64 1)))⟩, ⟨(some 17), none, (.mov (.tmp 36))⟩]))))
theorem L74x2 : low Try.prog Try.f74.ntmps (at_ Try.f74 [1, 1, 0, 0, 1, 1, 0, 0, 1, 1, 0, 0]) = some R74x2 := by kernel_rfl
theorem N75 : Try.f75.ntmps = 15 := by kernel_rfl
theorem Z75 : Try.f75.results.toList = ((List.toArray [(.tmp 4)]) : Array ResultVar).toList := by kernel_rfl
theorem B75 : Try.f75.body = some (at_ Try.f75 []) := by kernel_rfl
noncomputable def R75 : RC := (.seq (.reg [⟨(some 2), none, (.box 61 (.tmp 0))⟩, ⟨(some 4), none, (.mov (.const (.int .u64 0)))⟩])
  (.seq (.dreg [⟨(some 5), none, (.mov (.tmp 1))⟩, ⟨(some 6), none, (.pur ⟨(some 6), (.convert 3 62 (.tmp 5)), 62, "", (List.toArray []), none⟩)⟩, ⟨(some 7), none, (.call ⟨(.value (.func 83)), (List.toArray [(.tmp 6)]), (List.toArray [62])⟩ false)⟩, ⟨(some 8), none, (.addo (.tmp 2) 1)⟩, ⟨(some 9), none, (.ld (.tmp 8) 1)⟩, ⟨(some 10), none, (.ari .sub (.const (.int .i64 64)) (.tmp 9))⟩, ⟨(some 11), none, (.pur ⟨(some 11), (.binOp .shr 62 (.tmp 7) (.tmp 10) 3), 62, "", (List.toArray []), none⟩)⟩, ⟨(some 12), none, (.addo (.tmp 2) 0)⟩, ⟨(some 13), none, (.ld (.tmp 12) 1)⟩, ⟨(some 14), none, (.pur ⟨(some 14), (.binOp .shl 62 (.tmp 11) (.tmp 13) 3), 62, "", (List.toArray []), none⟩)⟩, ⟨(some 4), none, (.mov (.tmp 14))⟩] [1023, 511, 128, 0, 63, 24, 8, 0, 3, 1, 0])
  .ret))
theorem L75 : low Try.prog Try.f75.ntmps (at_ Try.f75 []) = some R75 := by kernel_rfl
theorem N76 : Try.f76.ntmps = 5 := by kernel_rfl
theorem Z76 : Try.f76.results.toList = ((List.toArray [(.tmp 2)]) : Array ResultVar).toList := by kernel_rfl
theorem B76 : Try.f76.body = some (at_ Try.f76 []) := by kernel_rfl
noncomputable def R76 : RC := (.seq (.reg [⟨(some 2), none, (.mov (.const (.int .i64 0)))⟩])
  (.seq (.reg [⟨(some 3), none, (.mov (.tmp 0))⟩, ⟨(some 4), none, (.call ⟨(.value (.func 84)), (List.toArray [(.tmp 3)]), (List.toArray [62])⟩ true)⟩, ⟨(some 2), none, (.mov (.tmp 4))⟩])
  .ret))
theorem L76 : low Try.prog Try.f76.ntmps (at_ Try.f76 []) = some R76 := by kernel_rfl
theorem N77 : Try.f77.ntmps = 25 := by kernel_rfl
theorem Z77 : Try.f77.results.toList = ((List.toArray [(.tmp 2)]) : Array ResultVar).toList := by kernel_rfl
theorem B77 : Try.f77.body = some (at_ Try.f77 []) := by kernel_rfl
noncomputable def R77 : RC := (.seq (.reg [⟨(some 2), none, (.mov (.const (.int .i64 0)))⟩])
  (.seq (.seq (.reg [⟨(some 3), none, (.mov (.tmp 0))⟩, ⟨(some 4), none, (.pur ⟨(some 4), (.binOp .geq 62 (.tmp 3) (.const (.int .u64 4294967296)) 62), 4, "", (List.toArray []), none⟩)⟩])
  (.cond (.tmp 4) (.seq (.reg [⟨(some 5), none, (.mov (.tmp 0))⟩, ⟨(some 6), none, (.pur ⟨(some 6), (.binOp .shr 62 (.tmp 5) (.const (.int .u64 32)) 119), 62, "", (List.toArray []), none⟩)⟩, ⟨(some 0), none, (.mov (.tmp 6))⟩])
  (.reg [⟨(some 2), none, (.mov (.const (.int .i64 32)))⟩]))
  .skip))
  (.seq (.seq (.reg [⟨(some 7), none, (.mov (.tmp 0))⟩, ⟨(some 8), none, (.pur ⟨(some 8), (.binOp .geq 62 (.tmp 7) (.const (.int .u64 65536)) 62), 4, "", (List.toArray []), none⟩)⟩])
  (.cond (.tmp 8) (.seq (.reg [⟨(some 9), none, (.mov (.tmp 0))⟩, ⟨(some 10), none, (.pur ⟨(some 10), (.binOp .shr 62 (.tmp 9) (.const (.int .u64 16)) 119), 62, "", (List.toArray []), none⟩)⟩, ⟨(some 0), none, (.mov (.tmp 10))⟩])
  (.reg [⟨(some 11), none, (.mov (.tmp 2))⟩, ⟨(some 12), none, (.ari .add (.tmp 11) (.const (.int .i64 16)))⟩, ⟨(some 2), none, (.mov (.tmp 12))⟩]))
  .skip))
  (.seq (.seq (.reg [⟨(some 13), none, (.mov (.tmp 0))⟩, ⟨(some 14), none, (.pur ⟨(some 14), (.binOp .geq 62 (.tmp 13) (.const (.int .u64 256)) 62), 4, "", (List.toArray []), none⟩)⟩])
  (.cond (.tmp 14) (.seq (.reg [⟨(some 15), none, (.mov (.tmp 0))⟩, ⟨(some 16), none, (.pur ⟨(some 16), (.binOp .shr 62 (.tmp 15) (.const (.int .u64 8)) 119), 62, "", (List.toArray []), none⟩)⟩, ⟨(some 0), none, (.mov (.tmp 16))⟩])
  (.reg [⟨(some 17), none, (.mov (.tmp 2))⟩, ⟨(some 18), none, (.ari .add (.tmp 17) (.const (.int .i64 8)))⟩, ⟨(some 2), none, (.mov (.tmp 18))⟩]))
  .skip))
  (.seq (.reg [⟨(some 19), none, (.mov (.tmp 2))⟩, ⟨(some 20), none, (.mov (.tmp 0))⟩, ⟨(some 21), none, (.pur ⟨(some 21), (.convert 62 5 (.tmp 20)), 5, "", (List.toArray []), none⟩)⟩, ⟨(some 22), none, (.pur ⟨(some 22), (.index 9 (.const (.string (.mk (List.toArray [0, 1, 2, 2, 3, 3, 3, 3, 4, 4, 4, 4, 4, 4, 4, 4, 5, 5, 5, 5, 5, 5, 5, 5, 5, 5, 5, 5, 5, 5, 5, 5, 6, 6, 6, 6, 6, 6, 6, 6, 6, 6, 6, 6, 6, 6, 6, 6, 6, 6, 6, 6, 6, 6, 6, 6, 6, 6, 6, 6, 6, 6, 6, 6, 7, 7, 7, 7, 7, 7, 7, 7, 7, 7, 7, 7, 7, 7, 7, 7, 7, 7, 7, 7, 7, 7, 7, 7, 7, 7, 7, 7, 7, 7, 7, 7, 7, 7, 7, 7, 7, 7, 7, 7, 7, 7, 7, 7, 7, 7, 7, 7, 7, 7, 7, 7, 7, 7, 7, 7, 7, 7, 7, 7, 7, 7, 7, 7, 8, 8, 8, 8, 8, 8, 8, 8, 8, 8, 8, 8, 8, 8, 8, 8, 8, 8, 8, 8, 8, 8, 8, 8, 8, 8, 8, 8, 8, 8, 8, 8, 8, 8, 8, 8, 8, 8, 8, 8, 8, 8, 8, 8, 8, 8, 8, 8, 8, 8, 8, 8, 8, 8, 8, 8, 8, 8, 8, 8, 8, 8, 8, 8, 8, 8, 8, 8, 8, 8, 8, 8, 8, 8, 8, 8, 8, 8, 8, 8, 8, 8, 8, 8, 8, 8, 8, 8, 8, 8, 8, 8, 8, 8, 8, 8, 8, 8, 8, 8, 8, 8, 8, 8, 8, 8, 8, 8, 8, 8, 8, 8, 8, 8, 8, 8, 8, 8, 8, 8, 8, 8, 8, 8, 8, 8, 8, 8])))) (.tmp 21)), 5, "", (List.toArray []), none⟩)⟩, ⟨(some 23), none, (.pur ⟨(some 23), (.convert 5 3 (.tmp 22)), 3, "", (List.toArray []), none⟩)⟩, ⟨(some 24), none, (.ari .add (.tmp 19) (.tmp 23))⟩, ⟨(some 2), none, (.mov (.tmp 24))⟩])
  .ret)))))
theorem L77 : low Try.prog Try.f77.ntmps (at_ Try.f77 []) = some R77 := by kernel_rfl
theorem N83 : Try.f83.ntmps = 26 := by kernel_rfl
theorem Z83 : Try.f83.results.toList = ((List.toArray [(.tmp 2)]) : Array ResultVar).toList := by kernel_rfl
theorem B83 : Try.f83.body = some (at_ Try.f83 []) := by kernel_rfl
noncomputable def R83 : RC := (.seq (.reg [⟨(some 2), none, (.mov (.const (.int .u64 0)))⟩])
  (.seq (.reg [⟨(some 3), none, (.mov (.tmp 0))⟩, ⟨(some 4), none, (.pur ⟨(some 4), (.binOp .shr 62 (.tmp 3) (.const (.int .u64 1)) 119), 62, "", (List.toArray []), none⟩)⟩, ⟨(some 5), none, (.pur ⟨(some 5), (.binOp .and 62 (.tmp 4) (.const (.int .u64 6148914691236517205)) 62), 62, "", (List.toArray []), none⟩)⟩, ⟨(some 6), none, (.mov (.tmp 0))⟩, ⟨(some 7), none, (.pur ⟨(some 7), (.binOp .and 62 (.tmp 6) (.const (.int .u64 6148914691236517205)) 62), 62, "", (List.toArray []), none⟩)⟩, ⟨(some 8), none, (.pur ⟨(some 8), (.binOp .shl 62 (.tmp 7) (.const (.int .u64 1)) 119), 62, "", (List.toArray []), none⟩)⟩, ⟨(some 9), none, (.pur ⟨(some 9), (.binOp .or 62 (.tmp 5) (.tmp 8) 62), 62, "", (List.toArray []), none⟩)⟩, ⟨(some 0), none, (.mov (.tmp 9))⟩])
  (.seq (.reg [⟨(some 10), none, (.mov (.tmp 0))⟩, ⟨(some 11), none, (.pur ⟨(some 11), (.binOp .shr 62 (.tmp 10) (.const (.int .u64 2)) 119), 62, "", (List.toArray []), none⟩)⟩, ⟨(some 12), none, (.pur ⟨(some 12), (.binOp .and 62 (.tmp 11) (.const (.int .u64 3689348814741910323)) 62), 62, "", (List.toArray []), none⟩)⟩, ⟨(some 13), none, (.mov (.tmp 0))⟩, ⟨(some 14), none, (.pur ⟨(some 14), (.binOp .and 62 (.tmp 13) (.const (.int .u64 3689348814741910323)) 62), 62, "", (List.toArray []), none⟩)⟩, ⟨(some 15), none, (.pur ⟨(some 15), (.binOp .shl 62 (.tmp 14) (.const (.int .u64 2)) 119), 62, "", (List.toArray []), none⟩)⟩, ⟨(some 16), none, (.pur ⟨(some 16), (.binOp .or 62 (.tmp 12) (.tmp 15) 62), 62, "", (List.toArray []), none⟩)⟩, ⟨(some 0), none, (.mov (.tmp 16))⟩])
  (.seq (.reg [⟨(some 17), none, (.mov (.tmp 0))⟩, ⟨(some 18), none, (.pur ⟨(some 18), (.binOp .shr 62 (.tmp 17) (.const (.int .u64 4)) 119), 62, "", (List.toArray []), none⟩)⟩, ⟨(some 19), none, (.pur ⟨(some 19), (.binOp .and 62 (.tmp 18) (.const (.int .u64 1085102592571150095)) 62), 62, "", (List.toArray []), none⟩)⟩, ⟨(some 20), none, (.mov (.tmp 0))⟩, ⟨(some 21), none, (.pur ⟨(some 21), (.binOp .and 62 (.tmp 20) (.const (.int .u64 1085102592571150095)) 62), 62, "", (List.toArray []), none⟩)⟩, ⟨(some 22), none, (.pur ⟨(some 22), (.binOp .shl 62 (.tmp 21) (.const (.int .u64 4)) 119), 62, "", (List.toArray []), none⟩)⟩, ⟨(some 23), none, (.pur ⟨(some 23), (.binOp .or 62 (.tmp 19) (.tmp 22) 62), 62, "", (List.toArray []), none⟩)⟩, ⟨(some 0), none, (.mov (.tmp 23))⟩])
  (.seq (.reg [⟨(some 24), none, (.mov (.tmp 0))⟩, ⟨(some 25), none, (.call ⟨(.value (.func 86)), (List.toArray [(.tmp 24)]), (List.toArray [62])⟩ true)⟩, ⟨(some 2), none, (.mov (.tmp 25))⟩])
  .ret)))))
theorem L83 : low Try.prog Try.f83.ntmps (at_ Try.f83 []) = some R83 := by kernel_rfl
theorem N84 : Try.f84.ntmps = 35 := by kernel_rfl
theorem Z84 : Try.f84.results.toList = ((List.toArray [(.tmp 2)]) : Array ResultVar).toList := by kernel_rfl
theorem B84 : Try.f84.body = some (at_ Try.f84 []) := by kernel_rfl
noncomputable def R84 : RC := (.seq (.reg [⟨(some 2), none, (.mov (.const (.int .i64 0)))⟩])
  (.seq (.reg [⟨(some 3), none, (.mov (.tmp 0))⟩, ⟨(some 4), none, (.pur ⟨(some 4), (.binOp .shr 62 (.tmp 3) (.const (.int .u64 1)) 119), 62, "", (List.toArray []), none⟩)⟩, ⟨(some 5), none, (.pur ⟨(some 5), (.binOp .and 62 (.tmp 4) (.const (.int .u64 6148914691236517205)) 62), 62, "", (List.toArray []), none⟩)⟩, ⟨(some 6), none, (.mov (.tmp 0))⟩, ⟨(some 7), none, (.pur ⟨(some 7), (.binOp .and 62 (.tmp 6) (.const (.int .u64 6148914691236517205)) 62), 62, "", (List.toArray []), none⟩)⟩, ⟨(some 8), none, (.pur ⟨(some 8), (.binOp .add 62 (.tmp 5) (.tmp 7) 62), 62, "", (List.toArray []), none⟩)⟩, ⟨(some 0), none, (.mov (.tmp 8))⟩])
  (.seq (.reg [⟨(some 9), none, (.mov (.tmp 0))⟩, ⟨(some 10), none, (.pur ⟨(some 10), (.binOp .shr 62 (.tmp 9) (.const (.int .u64 2)) 119), 62, "", (List.toArray []), none⟩)⟩, ⟨(some 11), none, (.pur ⟨(some 11), (.binOp .and 62 (.tmp 10) (.const (.int .u64 3689348814741910323)) 62), 62, "", (List.toArray []), none⟩)⟩, ⟨(some 12), none, (.mov (.tmp 0))⟩, ⟨(some 13), none, (.pur ⟨(some 13), (.binOp .and 62 (.tmp 12) (.const (.int .u64 3689348814741910323)) 62), 62, "", (List.toArray []), none⟩)⟩, ⟨(some 14), none, (.pur ⟨(some 14), (.binOp .add 62 (.tmp 11) (.tmp 13) 62), 62, "", (List.toArray []), none⟩)⟩, ⟨(some 0), none, (.mov (.tmp 14))⟩])
  (.seq (.reg [⟨(some 15), none, (.mov (.tmp 0))⟩, ⟨(some 16), none, (.pur ⟨(some 16), (.binOp .shr 62 (.tmp 15) (.const (.int .u64 4)) 119), 62, "", (List.toArray []), none⟩)⟩, ⟨(some 17), none, (.mov (.tmp 0))⟩, ⟨(some 18), none, (.pur ⟨(some 18), (.binOp .add 62 (.tmp 16) (.tmp 17) 62), 62, "", (List.toArray []), none⟩)⟩, ⟨(some 19), none, (.pur ⟨(some 19), (.binOp .and 62 (.tmp 18) (.const (.int .u64 1085102592571150095)) 62), 62, "", (List.toArray []), none⟩)⟩, ⟨(some 0), none, (.mov (.tmp 19))⟩])
  (.seq (.reg [⟨(some 20), none, (.mov (.tmp 0))⟩, ⟨(some 21), none, (.mov (.tmp 0))⟩, ⟨(some 22), none, (.pur ⟨(some 22), (.binOp .shr 62 (.tmp 21) (.const (.int .u64 8)) 119), 62, "", (List.toArray []), none⟩)⟩, ⟨(some 23), none, (.pur ⟨(some 23), (.binOp .add 62 (.tmp 20) (.tmp 22) 62), 62, "", (List.toArray []), none⟩)⟩, ⟨(some 0), none, (.mov (.tmp 23))⟩])
  (.seq (.reg [⟨(some 24), none, (.mov (.tmp 0))⟩, ⟨(some 25), none, (.mov (.tmp 0))⟩, ⟨(some 26), none, (.pur ⟨(some 26), (.binOp .shr 62 (.tmp 25) (.const (.int .u64 16)) 119), 62, "", (List.toArray []), none⟩)⟩, ⟨(some 27), none, (.pur ⟨(some 27), (.binOp .add 62 (.tmp 24) (.tmp 26) 62), 62, "", (List.toArray []), none⟩)⟩, ⟨(some 0), none, (.mov (.tmp 27))⟩])
  (.seq (.reg [⟨(some 28), none, (.mov (.tmp 0))⟩, ⟨(some 29), none, (.mov (.tmp 0))⟩, ⟨(some 30), none, (.pur ⟨(some 30), (.binOp .shr 62 (.tmp 29) (.const (.int .u64 32)) 119), 62, "", (List.toArray []), none⟩)⟩, ⟨(some 31), none, (.pur ⟨(some 31), (.binOp .add 62 (.tmp 28) (.tmp 30) 62), 62, "", (List.toArray []), none⟩)⟩, ⟨(some 0), none, (.mov (.tmp 31))⟩])
  (.seq (.reg [⟨(some 32), none, (.mov (.tmp 0))⟩, ⟨(some 33), none, (.pur ⟨(some 33), (.convert 62 3 (.tmp 32)), 3, "", (List.toArray []), none⟩)⟩, ⟨(some 34), none, (.pur ⟨(some 34), (.binOp .and 3 (.tmp 33) (.const (.int .i64 127)) 3), 3, "", (List.toArray []), none⟩)⟩, ⟨(some 2), none, (.mov (.tmp 34))⟩])
  .ret))))))))
theorem L84 : low Try.prog Try.f84.ntmps (at_ Try.f84 []) = some R84 := by kernel_rfl
theorem N86 : Try.f86.ntmps = 22 := by kernel_rfl
theorem Z86 : Try.f86.results.toList = ((List.toArray [(.tmp 2)]) : Array ResultVar).toList := by kernel_rfl
theorem B86 : Try.f86.body = some (at_ Try.f86 []) := by kernel_rfl
noncomputable def R86 : RC := (.seq (.reg [⟨(some 2), none, (.mov (.const (.int .u64 0)))⟩])
  (.seq (.reg [⟨(some 3), none, (.mov (.tmp 0))⟩, ⟨(some 4), none, (.pur ⟨(some 4), (.binOp .shr 62 (.tmp 3) (.const (.int .u64 8)) 119), 62, "", (List.toArray []), none⟩)⟩, ⟨(some 5), none, (.pur ⟨(some 5), (.binOp .and 62 (.tmp 4) (.const (.int .u64 71777214294589695)) 62), 62, "", (List.toArray []), none⟩)⟩, ⟨(some 6), none, (.mov (.tmp 0))⟩, ⟨(some 7), none, (.pur ⟨(some 7), (.binOp .and 62 (.tmp 6) (.const (.int .u64 71777214294589695)) 62), 62, "", (List.toArray []), none⟩)⟩, ⟨(some 8), none, (.pur ⟨(some 8), (.binOp .shl 62 (.tmp 7) (.const (.int .u64 8)) 119), 62, "", (List.toArray []), none⟩)⟩, ⟨(some 9), none, (.pur ⟨(some 9), (.binOp .or 62 (.tmp 5) (.tmp 8) 62), 62, "", (List.toArray []), none⟩)⟩, ⟨(some 0), none, (.mov (.tmp 9))⟩])
  (.seq (.reg [⟨(some 10), none, (.mov (.tmp 0))⟩, ⟨(some 11), none, (.pur ⟨(some 11), (.binOp .shr 62 (.tmp 10) (.const (.int .u64 16)) 119), 62, "", (List.toArray []), none⟩)⟩, ⟨(some 12), none, (.pur ⟨(some 12), (.binOp .and 62 (.tmp 11) (.const (.int .u64 281470681808895)) 62), 62, "", (List.toArray []), none⟩)⟩, ⟨(some 13), none, (.mov (.tmp 0))⟩, ⟨(some 14), none, (.pur ⟨(some 14), (.binOp .and 62 (.tmp 13) (.const (.int .u64 281470681808895)) 62), 62, "", (List.toArray []), none⟩)⟩, ⟨(some 15), none, (.pur ⟨(some 15), (.binOp .shl 62 (.tmp 14) (.const (.int .u64 16)) 119), 62, "", (List.toArray []), none⟩)⟩, ⟨(some 16), none, (.pur ⟨(some 16), (.binOp .or 62 (.tmp 12) (.tmp 15) 62), 62, "", (List.toArray []), none⟩)⟩, ⟨(some 0), none, (.mov (.tmp 16))⟩])
  (.seq (.reg [⟨(some 17), none, (.mov (.tmp 0))⟩, ⟨(some 18), none, (.pur ⟨(some 18), (.binOp .shr 62 (.tmp 17) (.const (.int .u64 32)) 119), 62, "", (List.toArray []), none⟩)⟩, ⟨(some 19), none, (.mov (.tmp 0))⟩, ⟨(some 20), none, (.pur ⟨(some 20), (.binOp .shl 62 (.tmp 19) (.const (.int .u64 32)) 119), 62, "", (List.toArray []), none⟩)⟩, ⟨(some 21), none, (.pur ⟨(some 21), (.binOp .or 62 (.tmp 18) (.tmp 20) 62), 62, "", (List.toArray []), none⟩)⟩, ⟨(some 2), none, (.mov (.tmp 21))⟩])
  .ret))))
theorem L86 : low Try.prog Try.f86.ntmps (at_ Try.f86 []) = some R86 := by kernel_rfl
end Go.Ax

/-
  Late: bits: reversed, counted (83, 84, 86) (written by program).
-/
namespace Go.Ax
open Go Go.RowKit Go.Proofs

theorem wrapN {m : Nat} : IntKind.u64.wrap (m : Int) = ((m % 18446744073709551616 : Nat) : Int) := by
  unfold IntKind.wrap IntKind.bits IntKind.signed
  simp
theorem up_shr {P : Program} {t : TypeId} {x y : Operand} {m d : Nat} (h : d < 64) : prun P (do eqGuard .shr t x y (.int .u64 (m : Int)) (.int .u64 (d : Int)); binOp .shr t (.int .u64 (m : Int)) (.int .u64 (d : Int))) = some (.int .u64 ((m / 2 ^ d : Nat) : Int)) := by
  show prun P (Op.shift .shr .u64 (m : Int) .u64 (d : Int)) = _
  unfold Op.shift
  rw [if_neg (by omega)]
  show some (Value.int .u64 ((m : Int).fdiv (2 ^ min d 64))) = _
  rw [Nat.min_eq_left (by omega), Int.fdiv_eq_ediv_of_nonneg _ (by exact Int.le_of_lt (Int.pow_pos (by decide)))]
  congr 2
theorem up_shl {P : Program} {t : TypeId} {x y : Operand} {m d : Nat} (h : d < 64) : prun P (do eqGuard .shl t x y (.int .u64 (m : Int)) (.int .u64 (d : Int)); binOp .shl t (.int .u64 (m : Int)) (.int .u64 (d : Int))) = some (.int .u64 ((m * 2 ^ d % 18446744073709551616 : Nat) : Int)) := by
  show prun P (Op.shift .shl .u64 (m : Int) .u64 (d : Int)) = _
  unfold Op.shift
  rw [if_neg (by omega)]
  show some (Value.int .u64 (IntKind.u64.wrap ((m : Int) * 2 ^ min d 64))) = _
  rw [Nat.min_eq_left (by omega)]
  have e : (m : Int) * 2 ^ d = ((m * 2 ^ d : Nat) : Int) := by rw [Int.natCast_mul, Int.natCast_pow]; rfl
  rw [e, wrapN]
theorem up_shli {P : Program} {t : TypeId} {x y : Operand} {m d : Nat} (h : d < 64) : prun P (do eqGuard .shl t x y (.int .u64 (m : Int)) (.int .i64 (d : Int)); binOp .shl t (.int .u64 (m : Int)) (.int .i64 (d : Int))) = some (.int .u64 ((m * 2 ^ d % 18446744073709551616 : Nat) : Int)) := by
  show prun P (Op.shift .shl .u64 (m : Int) .i64 (d : Int)) = _
  unfold Op.shift
  rw [if_neg (by omega)]
  show some (Value.int .u64 (IntKind.u64.wrap ((m : Int) * 2 ^ min d 64))) = _
  rw [Nat.min_eq_left (by omega)]
  have e : (m : Int) * 2 ^ d = ((m * 2 ^ d : Nat) : Int) := by rw [Int.natCast_mul, Int.natCast_pow]; rfl
  rw [e, wrapN]
theorem up_and {P : Program} {t : TypeId} {x y : Operand} {m n : Nat} (hm : m < 18446744073709551616) (hn : n < 18446744073709551616) : prun P (do eqGuard .and t x y (.int .u64 (m : Int)) (.int .u64 (n : Int)); binOp .and t (.int .u64 (m : Int)) (.int .u64 (n : Int))) = some (.int .u64 ((m &&& n : Nat) : Int)) := by
  show some (Value.int .u64 (IntKind.u64.wrap ((BitVec.ofInt 64 (m : Int) &&& BitVec.ofInt 64 (n : Int)).toNat : Int))) = _
  have hb : m &&& n < 18446744073709551616 := Nat.lt_of_le_of_lt Nat.and_le_left hm
  have e : (BitVec.ofInt 64 (m : Int) &&& BitVec.ofInt 64 (n : Int)).toNat = m &&& n := by
    have h1 : BitVec.ofInt 64 (m : Int) = BitVec.ofNat 64 m := by simp
    have h2 : BitVec.ofInt 64 (n : Int) = BitVec.ofNat 64 n := by simp
    rw [h1, h2, BitVec.toNat_and]
    simp only [BitVec.toNat_ofNat]
    rw [Nat.mod_eq_of_lt hm, Nat.mod_eq_of_lt hn]
  rw [e, wrap_u64 ⟨by omega, by omega⟩]
theorem up_add {P : Program} {t : TypeId} {x y : Operand} {m n : Nat} : prun P (do eqGuard .add t x y (.int .u64 (m : Int)) (.int .u64 (n : Int)); binOp .add t (.int .u64 (m : Int)) (.int .u64 (n : Int))) = some (.int .u64 (((m + n) % 18446744073709551616 : Nat) : Int)) := by
  show some (Value.int .u64 (IntKind.u64.wrap ((m : Int) + (n : Int)))) = _
  rw [show (m : Int) + (n : Int) = ((m + n : Nat) : Int) by omega, wrapN]
section
variable {n : Nat} {S : Rg} {x y : Operand} {o : Option Tmp}
theorem u_shr {m d : Nat} (h : d < 64) (hx : evS S x = some (.int .u64 (m : Int))) (hy : evS S y = some (.int .u64 (d : Int))) : pureOp Try.prog (frS n S) ⟨o, .binOp .shr 62 x y 119, 62, "", #[], none⟩ = some (.int .u64 ((m / 2 ^ d : Nat) : Int)) := by
  unfold pureOp
  simp only [ev_frS, hx, hy, flat, flat1, Bool.and_self, cond_true, up_shr h]
theorem u_shl {m d : Nat} (h : d < 64) (hx : evS S x = some (.int .u64 (m : Int))) (hy : evS S y = some (.int .u64 (d : Int))) : pureOp Try.prog (frS n S) ⟨o, .binOp .shl 62 x y 119, 62, "", #[], none⟩ = some (.int .u64 ((m * 2 ^ d % 18446744073709551616 : Nat) : Int)) := by
  unfold pureOp
  simp only [ev_frS, hx, hy, flat, flat1, Bool.and_self, cond_true, up_shl h]
theorem u_shli {m d : Nat} (h : d < 64) (hx : evS S x = some (.int .u64 (m : Int))) (hy : evS S y = some (iv (d : Int))) : pureOp Try.prog (frS n S) ⟨o, .binOp .shl 62 x y 3, 62, "", #[], none⟩ = some (.int .u64 ((m * 2 ^ d % 18446744073709551616 : Nat) : Int)) := by
  unfold pureOp
  simp only [ev_frS, hx, hy, flat, flat1, Bool.and_self, cond_true, up_shli h]
theorem u_and {m k : Nat} (hm : m < 18446744073709551616) (hk : k < 18446744073709551616) (hx : evS S x = some (.int .u64 (m : Int))) (hy : evS S y = some (.int .u64 (k : Int))) : pureOp Try.prog (frS n S) ⟨o, .binOp .and 62 x y 62, 62, "", #[], none⟩ = some (.int .u64 ((m &&& k : Nat) : Int)) := by
  unfold pureOp
  simp only [ev_frS, hx, hy, flat, flat1, Bool.and_self, cond_true, up_and hm hk]
theorem u_or {m k : Nat} (hm : m < 18446744073709551616) (hk : k < 18446744073709551616) (hx : evS S x = some (.int .u64 (m : Int))) (hy : evS S y = some (.int .u64 (k : Int))) : pureOp Try.prog (frS n S) ⟨o, .binOp .or 62 x y 62, 62, "", #[], none⟩ = some (.int .u64 ((m ||| k : Nat) : Int)) := by
  unfold pureOp
  simp only [ev_frS, hx, hy, flat, flat1, Bool.and_self, cond_true, pr_or hm hk]
theorem u_add {m k : Nat} (hx : evS S x = some (.int .u64 (m : Int))) (hy : evS S y = some (.int .u64 (k : Int))) : pureOp Try.prog (frS n S) ⟨o, .binOp .add 62 x y 62, 62, "", #[], none⟩ = some (.int .u64 (((m + k) % 18446744073709551616 : Nat) : Int)) := by
  unfold pureOp
  simp only [ev_frS, hx, hy, flat, flat1, Bool.and_self, cond_true, up_add]
theorem u_int {m : Nat} (hm : m < 9223372036854775808) (hx : evS S x = some (.int .u64 (m : Int))) : pureOp Try.prog (frS n S) ⟨o, .convert 62 3 x, 3, "", #[], none⟩ = some (iv (m : Int)) := by
  have e : ∀ z : Int, prun Try.prog (Go.convert 62 3 (.int .u64 z)) = some (.int .i64 (IntKind.i64.wrap z)) := fun z => by kernel_rfl
  unfold pureOp
  simp only [ev_frS, hx, e, wrap_i64 (x := (m : Int)) ⟨by omega, by omega⟩]
  rfl
theorem i_u64 {m : Nat} (hm : m < 18446744073709551616) {j : Int} (hx : evS S x = some (iv j)) (hj : j = (m : Int)) : pureOp Try.prog (frS n S) ⟨o, .convert 3 62 x, 62, "", #[], none⟩ = some (.int .u64 (m : Int)) := by
  subst hj
  have e : ∀ z : Int, prun Try.prog (Go.convert 3 62 (.int .i64 z)) = some (.int .u64 (IntKind.u64.wrap z)) := fun z => by kernel_rfl
  unfold pureOp
  simp only [ev_frS, hx, e, wrap_u64 (x := (m : Int)) ⟨by omega, by omega⟩]
  rfl
theorem i_and127 {m : Nat} (hm : m < 9223372036854775808) (hx : evS S x = some (iv (m : Int))) : pureOp Try.prog (frS n S) ⟨o, .binOp .and 3 x (.const (.int .i64 127)) 3, 3, "", #[], none⟩ = some (iv ((m % 128 : Nat) : Int)) := by
  have hy : evS S (.const (.int .i64 127)) = some (.int .i64 127) := rfl
  have e : prun Try.prog (do eqGuard .and 3 x (.const (.int .i64 127)) (.int .i64 (m : Int)) (.int .i64 127); binOp .and 3 (.int .i64 (m : Int)) (.int .i64 127)) = some (.int .i64 ((m % 128 : Nat) : Int)) := by
    show some (Value.int .i64 (IntKind.i64.wrap ((BitVec.ofInt 64 (m : Int) &&& BitVec.ofInt 64 127).toNat : Int))) = _
    have e : (BitVec.ofInt 64 (m : Int) &&& BitVec.ofInt 64 127).toNat = m % 128 := by
      have h1 : BitVec.ofInt 64 (m : Int) = BitVec.ofNat 64 m := by simp
      rw [h1, BitVec.toNat_and]
      have h2 : (BitVec.ofInt 64 127).toNat = 2 ^ 7 - 1 := by decide
      rw [h2, Nat.and_two_pow_sub_one_eq_mod]
      simp only [BitVec.toNat_ofNat]
      omega
    rw [e, wrap_i64 ⟨by omega, by omega⟩]
  unfold pureOp
  simp only [ev_frS, hx, hy, flat, flat1, Bool.and_self, cond_true, e]
end
def rvS (m k c : Nat) : Nat := (m / 2 ^ k &&& c) ||| ((m &&& c) * 2 ^ k % 18446744073709551616)
def rvB (b : Nat) : Nat := (b / 2 ^ 32) ||| (b * 2 ^ 32 % 18446744073709551616)
def rev64 (m : Nat) : Nat := rvB (rvS (rvS (rvS (rvS (rvS m 1 6148914691236517205) 2 3689348814741910323) 4 1085102592571150095) 8 71777214294589695) 16 281470681808895)
theorem rvS_lt {m k c : Nat} (hm : m < 18446744073709551616) : rvS m k c < 18446744073709551616 :=
  Nat.or_lt_two_pow (n := 64) (Nat.lt_of_le_of_lt Nat.and_le_left (Nat.lt_of_le_of_lt (Nat.div_le_self _ _) hm)) (Nat.mod_lt _ (by decide))
def psS (m k c : Nat) : Nat := ((m / 2 ^ k &&& c) + (m &&& c)) % 18446744073709551616
def ps3 (m : Nat) : Nat := (m / 2 ^ 4 + m) % 18446744073709551616 &&& 1085102592571150095
def psA (m k : Nat) : Nat := (m + m / 2 ^ k) % 18446744073709551616
def popX (m : Nat) : Nat := psA (psA (psA (ps3 (psS (psS m 1 6148914691236517205) 2 3689348814741910323)) 8) 16) 32
/-- the first d bits of a number, turned round -/
def revB : Nat → Nat → Nat
  | 0, _ => 0
  | d + 1, m => (m % 2) * 2 ^ d + revB d (m / 2)
/-- how many of the first d bits of a number are set -/
def cnt : Nat → Nat → Nat
  | 0, _ => 0
  | d + 1, m => m % 2 + cnt d (m / 2)
def chkR (d : Nat) : Nat → Bool
  | 0 => true
  | m + 1 => Nat.beq (rev64 m / 2 ^ (64 - d)) (revB d m) && chkR d m
def chkP (s : Nat) : Nat → Bool
  | 0 => true
  | m + 1 => Nat.ble (popX (m * 2 ^ s) + 1) 9223372036854775808 && Nat.beq (popX (m * 2 ^ s) % 128) (cnt 12 m) && chkP s m
theorem chkR_at {d : Nat} : ∀ {n m : Nat}, chkR d n = true → m < n → rev64 m / 2 ^ (64 - d) = revB d m
  | 0, m, _, h => absurd h (Nat.not_lt_zero m)
  | n + 1, m, hc, h => by
    simp only [chkR, Bool.and_eq_true] at hc
    rcases Nat.lt_or_ge m n with q | q
    · exact chkR_at hc.2 q
    · have : m = n := by omega
      subst this; exact Nat.eq_of_beq_eq_true hc.1
theorem chkP_at {s : Nat} : ∀ {n m : Nat}, chkP s n = true → m < n → popX (m * 2 ^ s) < 9223372036854775808 ∧ popX (m * 2 ^ s) % 128 = cnt 12 m
  | 0, m, _, h => absurd h (Nat.not_lt_zero m)
  | n + 1, m, hc, h => by
    simp only [chkP, Bool.and_eq_true] at hc
    rcases Nat.lt_or_ge m n with q | q
    · exact chkP_at hc.2 q
    · have : m = n := by omega
      subst this; exact ⟨Nat.le_of_ble_eq_true hc.1.1, Nat.eq_of_beq_eq_true hc.1.2⟩
theorem chkR0 : chkR 0 1 = true := by kernel_rfl
theorem chkR1 : chkR 1 2 = true := by kernel_rfl
theorem chkR2 : chkR 2 4 = true := by kernel_rfl
theorem chkR3 : chkR 3 8 = true := by kernel_rfl
theorem chkR4 : chkR 4 16 = true := by kernel_rfl
theorem chkR5 : chkR 5 32 = true := by kernel_rfl
theorem chkR6 : chkR 6 64 = true := by kernel_rfl
theorem chkR7 : chkR 7 128 = true := by kernel_rfl
theorem chkR8 : chkR 8 256 = true := by kernel_rfl
theorem chkR9 : chkR 9 512 = true := by kernel_rfl
theorem chkR10 : chkR 10 1024 = true := by kernel_rfl
theorem chkR11 : chkR 11 2048 = true := by kernel_rfl
theorem chkR12 : chkR 12 4096 = true := by kernel_rfl
theorem chkP0 : chkP 0 4096 = true := by kernel_rfl
theorem chkP1 : chkP 1 4096 = true := by kernel_rfl
theorem chkP2 : chkP 2 4096 = true := by kernel_rfl
theorem chkP3 : chkP 3 4096 = true := by kernel_rfl
theorem chkP4 : chkP 4 4096 = true := by kernel_rfl
theorem chkP5 : chkP 5 4096 = true := by kernel_rfl
theorem chkP6 : chkP 6 4096 = true := by kernel_rfl
theorem chkP7 : chkP 7 4096 = true := by kernel_rfl
theorem chkP8 : chkP 8 4096 = true := by kernel_rfl
theorem chkP9 : chkP 9 4096 = true := by kernel_rfl
theorem chkP10 : chkP 10 4096 = true := by kernel_rfl
theorem chkP11 : chkP 11 4096 = true := by kernel_rfl
theorem chkP12 : chkP 12 4096 = true := by kernel_rfl
theorem chkP13 : chkP 13 4096 = true := by kernel_rfl
theorem chkP14 : chkP 14 4096 = true := by kernel_rfl
theorem chkP15 : chkP 15 4096 = true := by kernel_rfl
theorem chkP16 : chkP 16 4096 = true := by kernel_rfl
theorem chkP17 : chkP 17 4096 = true := by kernel_rfl
theorem chkP18 : chkP 18 4096 = true := by kernel_rfl
theorem chkP19 : chkP 19 4096 = true := by kernel_rfl
theorem chkP20 : chkP 20 4096 = true := by kernel_rfl
theorem chkP21 : chkP 21 4096 = true := by kernel_rfl
theorem chkP22 : chkP 22 4096 = true := by kernel_rfl
theorem chkP23 : chkP 23 4096 = true := by kernel_rfl
theorem chkP24 : chkP 24 4096 = true := by kernel_rfl
theorem chkP25 : chkP 25 4096 = true := by kernel_rfl
theorem chkP26 : chkP 26 4096 = true := by kernel_rfl
theorem chkP27 : chkP 27 4096 = true := by kernel_rfl
theorem chkP28 : chkP 28 4096 = true := by kernel_rfl
theorem chkP29 : chkP 29 2048 = true := by kernel_rfl
theorem chkP30 : chkP 30 1024 = true := by kernel_rfl
theorem chkP31 : chkP 31 512 = true := by kernel_rfl
theorem chkP32 : chkP 32 256 = true := by kernel_rfl
theorem chkP33 : chkP 33 128 = true := by kernel_rfl
theorem chkP34 : chkP 34 64 = true := by kernel_rfl
theorem chkP35 : chkP 35 32 = true := by kernel_rfl
theorem chkP36 : chkP 36 16 = true := by kernel_rfl
theorem chkP37 : chkP 37 8 = true := by kernel_rfl
theorem chkP38 : chkP 38 4 = true := by kernel_rfl
theorem chkP39 : chkP 39 2 = true := by kernel_rfl
theorem chkP40 : chkP 40 1 = true := by kernel_rfl
theorem rev_at {d m : Nat} (hd : d ≤ 12) (h : m < 2 ^ d) : rev64 m / 2 ^ (64 - d) = revB d m := by
  match d, hd with
  | 0, _ => exact chkR_at chkR0 h
  | 1, _ => exact chkR_at chkR1 h
  | 2, _ => exact chkR_at chkR2 h
  | 3, _ => exact chkR_at chkR3 h
  | 4, _ => exact chkR_at chkR4 h
  | 5, _ => exact chkR_at chkR5 h
  | 6, _ => exact chkR_at chkR6 h
  | 7, _ => exact chkR_at chkR7 h
  | 8, _ => exact chkR_at chkR8 h
  | 9, _ => exact chkR_at chkR9 h
  | 10, _ => exact chkR_at chkR10 h
  | 11, _ => exact chkR_at chkR11 h
  | 12, _ => exact chkR_at chkR12 h
theorem pop_at {s d m : Nat} (hs : s + d ≤ 40) (hd : d ≤ 12) (h : m < 2 ^ d) : popX (m * 2 ^ s) < 9223372036854775808 ∧ popX (m * 2 ^ s) % 128 = cnt 12 m := by
  have hm : m < 2 ^ min 12 (40 - s) := Nat.lt_of_lt_of_le h (Nat.pow_le_pow_right (by decide) (by omega))
  match s, (show s ≤ 40 by omega) with
  | 0, _ => exact chkP_at chkP0 hm
  | 1, _ => exact chkP_at chkP1 hm
  | 2, _ => exact chkP_at chkP2 hm
  | 3, _ => exact chkP_at chkP3 hm
  | 4, _ => exact chkP_at chkP4 hm
  | 5, _ => exact chkP_at chkP5 hm
  | 6, _ => exact chkP_at chkP6 hm
  | 7, _ => exact chkP_at chkP7 hm
  | 8, _ => exact chkP_at chkP8 hm
  | 9, _ => exact chkP_at chkP9 hm
  | 10, _ => exact chkP_at chkP10 hm
  | 11, _ => exact chkP_at chkP11 hm
  | 12, _ => exact chkP_at chkP12 hm
  | 13, _ => exact chkP_at chkP13 hm
  | 14, _ => exact chkP_at chkP14 hm
  | 15, _ => exact chkP_at chkP15 hm
  | 16, _ => exact chkP_at chkP16 hm
  | 17, _ => exact chkP_at chkP17 hm
  | 18, _ => exact chkP_at chkP18 hm
  | 19, _ => exact chkP_at chkP19 hm
  | 20, _ => exact chkP_at chkP20 hm
  | 21, _ => exact chkP_at chkP21 hm
  | 22, _ => exact chkP_at chkP22 hm
  | 23, _ => exact chkP_at chkP23 hm
  | 24, _ => exact chkP_at chkP24 hm
  | 25, _ => exact chkP_at chkP25 hm
  | 26, _ => exact chkP_at chkP26 hm
  | 27, _ => exact chkP_at chkP27 hm
  | 28, _ => exact chkP_at chkP28 hm
  | 29, _ => exact chkP_at chkP29 hm
  | 30, _ => exact chkP_at chkP30 hm
  | 31, _ => exact chkP_at chkP31 hm
  | 32, _ => exact chkP_at chkP32 hm
  | 33, _ => exact chkP_at chkP33 hm
  | 34, _ => exact chkP_at chkP34 hm
  | 35, _ => exact chkP_at chkP35 hm
  | 36, _ => exact chkP_at chkP36 hm
  | 37, _ => exact chkP_at chkP37 hm
  | 38, _ => exact chkP_at chkP38 hm
  | 39, _ => exact chkP_at chkP39 hm
  | 40, _ => exact chkP_at chkP40 hm
  | s + 41, h => omega
section
variable {kn : FuncId → Option Bool} {lo : Nat} {H : Hp}
theorem rev86_ok {m : Nat} (hm : m < 18446744073709551616) : FnX Try.prog kn lo 86 [.int .u64 (m : Int)] H (.int .u64 ((rvB (rvS (rvS m 8 71777214294589695) 16 281470681808895) : Nat) : Int)) H := by
  have key := fnX_low (kn := kn) (lo := lo) (H := H) (args := [.int .u64 (m : Int)]) (Q := fun v H' => v = .int .u64 ((rvB (rvS (rvS m 8 71777214294589695) 16 281470681808895) : Nat) : Int) ∧ H' = H) Try.func86 B86 N86 Z86 L86 (by simp) ?_
  · obtain ⟨v, H', h, rfl, rfl⟩ := key; exact h
  refine And.intro rfl (Exists.intro _ (And.intro (u_shr (m := m) (d := 8) (by decide) rfl rfl) ?_))
  refine And.intro rfl (Exists.intro _ (And.intro (u_and (k := 71777214294589695) (Nat.lt_of_le_of_lt (Nat.div_le_self _ _) hm) (by decide) rfl rfl) ?_))
  refine And.intro rfl (Exists.intro _ (And.intro (u_and (m := m) (k := 71777214294589695) hm (by decide) rfl rfl) ?_))
  refine And.intro rfl (Exists.intro _ (And.intro (u_shl (d := 8) (by decide) rfl rfl) ?_))
  refine And.intro rfl (Exists.intro _ (And.intro (u_or (Nat.lt_of_le_of_lt Nat.and_le_left (Nat.lt_of_le_of_lt (Nat.div_le_self _ _) hm)) (Nat.mod_lt _ (by decide)) rfl rfl) ?_))
  obtain ⟨m1, em1⟩ : ∃ z, rvS m 8 71777214294589695 = z := ⟨_, rfl⟩
  have hm1 : m1 < 18446744073709551616 := em1 ▸ rvS_lt hm
  rw [show (m / 2 ^ 8 &&& 71777214294589695 ||| (m &&& 71777214294589695) * 2 ^ 8 % 18446744073709551616) = m1 from em1]
  refine And.intro rfl (Exists.intro _ (And.intro (u_shr (m := m1) (d := 16) (by decide) rfl rfl) ?_))
  refine And.intro rfl (Exists.intro _ (And.intro (u_and (k := 281470681808895) (Nat.lt_of_le_of_lt (Nat.div_le_self _ _) hm1) (by decide) rfl rfl) ?_))
  refine And.intro rfl (Exists.intro _ (And.intro (u_and (m := m1) (k := 281470681808895) hm1 (by decide) rfl rfl) ?_))
  refine And.intro rfl (Exists.intro _ (And.intro (u_shl (d := 16) (by decide) rfl rfl) ?_))
  refine And.intro rfl (Exists.intro _ (And.intro (u_or (Nat.lt_of_le_of_lt Nat.and_le_left (Nat.lt_of_le_of_lt (Nat.div_le_self _ _) hm1)) (Nat.mod_lt _ (by decide)) rfl rfl) ?_))
  obtain ⟨m2, em2⟩ : ∃ z, rvS m1 16 281470681808895 = z := ⟨_, rfl⟩
  have hm2 : m2 < 18446744073709551616 := em2 ▸ rvS_lt hm1
  rw [show (m1 / 2 ^ 16 &&& 281470681808895 ||| (m1 &&& 281470681808895) * 2 ^ 16 % 18446744073709551616) = m2 from em2]
  refine And.intro rfl (Exists.intro _ (And.intro (u_shr (m := m2) (d := 32) (by decide) rfl rfl) ?_))
  refine And.intro rfl (Exists.intro _ (And.intro (u_shl (m := m2) (d := 32) (by decide) rfl rfl) ?_))
  refine And.intro rfl (Exists.intro _ (And.intro (u_or (Nat.lt_of_le_of_lt (Nat.div_le_self _ _) hm2) (Nat.mod_lt _ (by decide)) rfl rfl) ?_))
  exact And.intro trivial (Exists.intro _ (And.intro rfl ⟨by subst em1; subst em2; rfl, rfl⟩))
theorem rev83_ok {m : Nat} (hm : m < 18446744073709551616) : FnX Try.prog kn lo 83 [.int .u64 (m : Int)] H (.int .u64 ((rev64 m : Nat) : Int)) H := by
  have key := fnX_low (kn := kn) (lo := lo) (H := H) (args := [.int .u64 (m : Int)]) (Q := fun v H' => v = .int .u64 ((rev64 m : Nat) : Int) ∧ H' = H) Try.func83 B83 N83 Z83 L83 (by simp) ?_
  · obtain ⟨v, H', h, rfl, rfl⟩ := key; exact h
  refine And.intro rfl (Exists.intro _ (And.intro (u_shr (m := m) (d := 1) (by decide) rfl rfl) ?_))
  refine And.intro rfl (Exists.intro _ (And.intro (u_and (k := 6148914691236517205) (Nat.lt_of_le_of_lt (Nat.div_le_self _ _) hm) (by decide) rfl rfl) ?_))
  refine And.intro rfl (Exists.intro _ (And.intro (u_and (m := m) (k := 6148914691236517205) hm (by decide) rfl rfl) ?_))
  refine And.intro rfl (Exists.intro _ (And.intro (u_shl (d := 1) (by decide) rfl rfl) ?_))
  refine And.intro rfl (Exists.intro _ (And.intro (u_or (Nat.lt_of_le_of_lt Nat.and_le_left (Nat.lt_of_le_of_lt (Nat.div_le_self _ _) hm)) (Nat.mod_lt _ (by decide)) rfl rfl) ?_))
  obtain ⟨m1, em1⟩ : ∃ z, rvS m 1 6148914691236517205 = z := ⟨_, rfl⟩
  have hm1 : m1 < 18446744073709551616 := em1 ▸ rvS_lt hm
  rw [show (m / 2 ^ 1 &&& 6148914691236517205 ||| (m &&& 6148914691236517205) * 2 ^ 1 % 18446744073709551616) = m1 from em1]
  refine And.intro rfl (Exists.intro _ (And.intro (u_shr (m := m1) (d := 2) (by decide) rfl rfl) ?_))
  refine And.intro rfl (Exists.intro _ (And.intro (u_and (k := 3689348814741910323) (Nat.lt_of_le_of_lt (Nat.div_le_self _ _) hm1) (by decide) rfl rfl) ?_))
  refine And.intro rfl (Exists.intro _ (And.intro (u_and (m := m1) (k := 3689348814741910323) hm1 (by decide) rfl rfl) ?_))
  refine And.intro rfl (Exists.intro _ (And.intro (u_shl (d := 2) (by decide) rfl rfl) ?_))
  refine And.intro rfl (Exists.intro _ (And.intro (u_or (Nat.lt_of_le_of_lt Nat.and_le_left (Nat.lt_of_le_of_lt (Nat.div_le_self _ _) hm1)) (Nat.mod_lt _ (by decide)) rfl rfl) ?_))
  obtain ⟨m2, em2⟩ : ∃ z, rvS m1 2 3689348814741910323 = z := ⟨_, rfl⟩
  have hm2 : m2 < 18446744073709551616 := em2 ▸ rvS_lt hm1
  rw [show (m1 / 2 ^ 2 &&& 3689348814741910323 ||| (m1 &&& 3689348814741910323) * 2 ^ 2 % 18446744073709551616) = m2 from em2]
  refine And.intro rfl (Exists.intro _ (And.intro (u_shr (m := m2) (d := 4) (by decide) rfl rfl) ?_))
  refine And.intro rfl (Exists.intro _ (And.intro (u_and (k := 1085102592571150095) (Nat.lt_of_le_of_lt (Nat.div_le_self _ _) hm2) (by decide) rfl rfl) ?_))
  refine And.intro rfl (Exists.intro _ (And.intro (u_and (m := m2) (k := 1085102592571150095) hm2 (by decide) rfl rfl) ?_))
  refine And.intro rfl (Exists.intro _ (And.intro (u_shl (d := 4) (by decide) rfl rfl) ?_))
  refine And.intro rfl (Exists.intro _ (And.intro (u_or (Nat.lt_of_le_of_lt Nat.and_le_left (Nat.lt_of_le_of_lt (Nat.div_le_self _ _) hm2)) (Nat.mod_lt _ (by decide)) rfl rfl) ?_))
  obtain ⟨m3, em3⟩ : ∃ z, rvS m2 4 1085102592571150095 = z := ⟨_, rfl⟩
  have hm3 : m3 < 18446744073709551616 := em3 ▸ rvS_lt hm2
  rw [show (m2 / 2 ^ 4 &&& 1085102592571150095 ||| (m2 &&& 1085102592571150095) * 2 ^ 4 % 18446744073709551616) = m3 from em3]
  refine Exists.intro _ (Exists.intro _ (And.intro (callX_args (rev86_ok hm3)) ?_))
  exact And.intro trivial (Exists.intro _ (And.intro rfl ⟨by subst em1; subst em2; subst em3; rfl, rfl⟩))
theorem pop84_ok {m : Nat} (hm : m < 18446744073709551616) (hp : popX m < 9223372036854775808) : FnX Try.prog kn lo 84 [.int .u64 (m : Int)] H (iv ((popX m % 128 : Nat) : Int)) H := by
  have key := fnX_low (kn := kn) (lo := lo) (H := H) (args := [.int .u64 (m : Int)]) (Q := fun v H' => v = iv ((popX m % 128 : Nat) : Int) ∧ H' = H) Try.func84 B84 N84 Z84 L84 (by simp) ?_
  · obtain ⟨v, H', h, rfl, rfl⟩ := key; exact h
  refine And.intro rfl (Exists.intro _ (And.intro (u_shr (m := m) (d := 1) (by decide) rfl rfl) ?_))
  refine And.intro rfl (Exists.intro _ (And.intro (u_and (k := 6148914691236517205) (Nat.lt_of_le_of_lt (Nat.div_le_self _ _) hm) (by decide) rfl rfl) ?_))
  refine And.intro rfl (Exists.intro _ (And.intro (u_and (m := m) (k := 6148914691236517205) hm (by decide) rfl rfl) ?_))
  refine And.intro rfl (Exists.intro _ (And.intro (u_add rfl rfl) ?_))
  obtain ⟨m1, em1⟩ : ∃ z, psS m 1 6148914691236517205 = z := ⟨_, rfl⟩
  have hm1 : m1 < 18446744073709551616 := em1 ▸ Nat.mod_lt _ (by decide)
  rw [show (((m / 2 ^ 1 &&& 6148914691236517205) + (m &&& 6148914691236517205)) % 18446744073709551616) = m1 from em1]
  refine And.intro rfl (Exists.intro _ (And.intro (u_shr (m := m1) (d := 2) (by decide) rfl rfl) ?_))
  refine And.intro rfl (Exists.intro _ (And.intro (u_and (k := 3689348814741910323) (Nat.lt_of_le_of_lt (Nat.div_le_self _ _) hm1) (by decide) rfl rfl) ?_))
  refine And.intro rfl (Exists.intro _ (And.intro (u_and (m := m1) (k := 3689348814741910323) hm1 (by decide) rfl rfl) ?_))
  refine And.intro rfl (Exists.intro _ (And.intro (u_add rfl rfl) ?_))
  obtain ⟨m2, em2⟩ : ∃ z, psS m1 2 3689348814741910323 = z := ⟨_, rfl⟩
  have hm2 : m2 < 18446744073709551616 := em2 ▸ Nat.mod_lt _ (by decide)
  rw [show (((m1 / 2 ^ 2 &&& 3689348814741910323) + (m1 &&& 3689348814741910323)) % 18446744073709551616) = m2 from em2]
  refine And.intro rfl (Exists.intro _ (And.intro (u_shr (m := m2) (d := 4) (by decide) rfl rfl) ?_))
  refine And.intro rfl (Exists.intro _ (And.intro (u_add (k := m2) rfl rfl) ?_))
  refine And.intro rfl (Exists.intro _ (And.intro (u_and (k := 1085102592571150095) (Nat.mod_lt _ (by decide)) (by decide) rfl rfl) ?_))
  obtain ⟨m3, em3⟩ : ∃ z, ps3 m2 = z := ⟨_, rfl⟩
  have hm3 : m3 < 18446744073709551616 := em3 ▸ Nat.lt_of_le_of_lt Nat.and_le_left (Nat.mod_lt _ (by decide))
  rw [show (((m2 / 2 ^ 4 + m2) % 18446744073709551616) &&& 1085102592571150095) = m3 from em3]
  refine And.intro rfl (Exists.intro _ (And.intro (u_shr (m := m3) (d := 8) (by decide) rfl rfl) ?_))
  refine And.intro rfl (Exists.intro _ (And.intro (u_add (m := m3) rfl rfl) ?_))
  obtain ⟨m4, em4⟩ : ∃ z, psA m3 8 = z := ⟨_, rfl⟩
  have hm4 : m4 < 18446744073709551616 := em4 ▸ Nat.mod_lt _ (by decide)
  rw [show ((m3 + m3 / 2 ^ 8) % 18446744073709551616) = m4 from em4]
  refine And.intro rfl (Exists.intro _ (And.intro (u_shr (m := m4) (d := 16) (by decide) rfl rfl) ?_))
  refine And.intro rfl (Exists.intro _ (And.intro (u_add (m := m4) rfl rfl) ?_))
  obtain ⟨m5, em5⟩ : ∃ z, psA m4 16 = z := ⟨_, rfl⟩
  have hm5 : m5 < 18446744073709551616 := em5 ▸ Nat.mod_lt _ (by decide)
  rw [show ((m4 + m4 / 2 ^ 16) % 18446744073709551616) = m5 from em5]
  refine And.intro rfl (Exists.intro _ (And.intro (u_shr (m := m5) (d := 32) (by decide) rfl rfl) ?_))
  refine And.intro rfl (Exists.intro _ (And.intro (u_add (m := m5) rfl rfl) ?_))
  obtain ⟨m6, em6⟩ : ∃ z, psA m5 32 = z := ⟨_, rfl⟩
  have hm6 : m6 < 18446744073709551616 := em6 ▸ Nat.mod_lt _ (by decide)
  rw [show ((m5 + m5 / 2 ^ 32) % 18446744073709551616) = m6 from em6]
  have e6 : popX m = m6 := by subst em1; subst em2; subst em3; subst em4; subst em5; exact em6
  rw [e6] at hp ⊢
  refine And.intro rfl (Exists.intro _ (And.intro (u_int hp rfl) ?_))
  refine And.intro rfl (Exists.intro _ (And.intro (i_and127 hp rfl) ?_))
  exact And.intro trivial (Exists.intro _ (And.intro rfl ⟨rfl, rfl⟩))
end
end Go.Ax

/-
  Late: sets of days: numbered, counted, listed (75, 76, 77, 54) (written by program).
-/
namespace Go.Ax
open Go Go.RowKit Go.Proofs

theorem revB_lt : ∀ (d m : Nat), revB d m < 2 ^ d
  | 0, _ => by simp [revB]
  | d + 1, m => by
    have ih := revB_lt d (m / 2)
    have h2 : m % 2 ≤ 1 := by omega
    have e : 2 ^ (d + 1) = 2 ^ d + 2 ^ d := by rw [Nat.pow_succ]; omega
    unfold revB
    have : m % 2 * 2 ^ d ≤ 1 * 2 ^ d := Nat.mul_le_mul_right _ h2
    omega
theorem pow12 {d : Nat} (h : d ≤ 12) : 2 ^ d ≤ 4096 := Nat.pow_le_pow_right (n := 2) (by decide) h
theorem set_lt {s d y : Nat} (hs : s + d ≤ 40) (hy : y < 2 ^ d) : y * 2 ^ s < 2 ^ 40 := by
  have h1 : y * 2 ^ s < 2 ^ d * 2 ^ s := Nat.mul_lt_mul_of_pos_right hy (Nat.pow_pos (by decide))
  rw [← Nat.pow_add] at h1
  exact Nat.lt_of_lt_of_le h1 (Nat.pow_le_pow_right (by decide) (by omega))
theorem cnt_le : ∀ (d m : Nat), cnt d m ≤ d
  | 0, _ => by simp [cnt]
  | d + 1, m => by have := cnt_le d (m / 2); unfold cnt; omega
theorem cnt_zero : ∀ (d : Nat), cnt d 0 = 0
  | 0 => rfl
  | d + 1 => by unfold cnt; simp [cnt_zero d]
theorem cnt_more : ∀ (d e m : Nat), m < 2 ^ d → cnt (d + e) m = cnt d m
  | 0, e, m, h => by
    have : m = 0 := by simpa using h
    subst this; rw [Nat.zero_add, cnt_zero]; rfl
  | d + 1, e, m, h => by
    have e1 : d + 1 + e = (d + e) + 1 := by omega
    rw [e1]
    unfold cnt
    rw [cnt_more d e (m / 2) (by rw [Nat.pow_succ] at h; omega)]
theorem testBit_set {y s i : Nat} : (y * 2 ^ s).testBit i = (decide (s ≤ i) && y.testBit (i - s)) := by
  rw [← Nat.shiftLeft_eq, Nat.testBit_shiftLeft]
/-- the days of a set, rising: those of its first d bits that are set -/
def bl : Nat → Nat → Int → List Int
  | 0, _, _ => []
  | d + 1, y, o => bif decide (y % 2 = 1) then o :: bl d (y / 2) (o + 1) else bl d (y / 2) (o + 1)
theorem bl_len : ∀ (d y : Nat) (o : Int), (bl d y o).length = cnt d y
  | 0, _, _ => rfl
  | d + 1, y, o => by
    unfold bl cnt
    by_cases h : y % 2 = 1
    · rw [decide_eq_true h]; simp only [cond_true, List.length_cons, bl_len d]; omega
    · rw [decide_eq_false h]; simp only [cond_false, bl_len d]; omega
theorem bl_in : ∀ (d y : Nat) (o : Int), ∀ x ∈ bl d y o, o ≤ x ∧ x < o + d
  | 0, _, _, x, h => by simp [bl] at h
  | d + 1, y, o, x, h => by
    unfold bl at h
    cases hb : decide (y % 2 = 1) with
    | true =>
      rw [hb] at h
      simp only [cond_true, List.mem_cons] at h
      rcases h with rfl | h
      · omega
      · have := bl_in d (y / 2) (o + 1) x h; omega
    | false =>
      rw [hb] at h
      simp only [cond_false] at h
      have := bl_in d (y / 2) (o + 1) x h; omega
theorem bl_mem : ∀ (d y : Nat) (o x : Int), (bl d y o).contains x = true ↔ ∃ i, i < d ∧ y.testBit i = true ∧ x = o + (i : Int)
  | 0, _, _, x => by simp [bl]
  | d + 1, y, o, x => by
    have ih := bl_mem d (y / 2) (o + 1) x
    unfold bl
    constructor
    · intro h
      cases hb : decide (y % 2 = 1) with
      | true =>
        rw [hb] at h
        simp only [cond_true, List.contains_cons, Bool.or_eq_true, beq_iff_eq] at h
        rcases h with h | h
        · exact ⟨0, by omega, by rw [Nat.testBit_zero]; exact hb, by omega⟩
        · obtain ⟨i, h1, h2, h3⟩ := ih.1 h
          exact ⟨i + 1, by omega, by rw [Nat.testBit_succ]; exact h2, by omega⟩
      | false =>
        rw [hb] at h
        simp only [cond_false] at h
        obtain ⟨i, h1, h2, h3⟩ := ih.1 h
        exact ⟨i + 1, by omega, by rw [Nat.testBit_succ]; exact h2, by omega⟩
    · rintro ⟨i, h1, h2, h3⟩
      cases i with
      | zero =>
        rw [Nat.testBit_zero] at h2
        rw [h2]
        simp only [cond_true, List.contains_cons, Bool.or_eq_true, beq_iff_eq]
        left; omega
      | succ i =>
        rw [Nat.testBit_succ] at h2
        have := ih.2 ⟨i, by omega, h2, by omega⟩
        cases hb : decide (y % 2 = 1) with
        | true => simp only [cond_true, List.contains_cons, this, Bool.or_true]
        | false => simp only [cond_false, this]
theorem bl_step : ∀ (d y : Nat) (o : Int), bl (d + 1) y o = bl d y o ++ (bif y.testBit d then [o + (d : Int)] else [])
  | 0, y, o => by
    unfold bl
    rw [Nat.testBit_zero]
    simp [bl]
  | d + 1, y, o => by
    have ih := bl_step d (y / 2) (o + 1)
    have e : o + 1 + (d : Int) = o + ((d + 1 : Nat) : Int) := by omega
    rw [bl, ih]
    rw [show bl (d + 1) y o = bif decide (y % 2 = 1) then o :: bl d (y / 2) (o + 1) else bl d (y / 2) (o + 1) from rfl, Nat.testBit_succ, e]
    cases decide (y % 2 = 1) <;> simp
/-- the days that are the bits of a set -/
theorem bl_mask {s d y : Nat} (hy : y < 2 ^ d) (i : Nat) : (dayMask (bl d y (s : Int))).testBit i = (y * 2 ^ s).testBit i := by
  rw [dayMask_has (fun x hx => by have := bl_in d y s x hx; omega), testBit_set, Bool.eq_iff_iff, bl_mem]
  simp only [Bool.and_eq_true, decide_eq_true_eq]
  constructor
  · rintro ⟨j, h1, h2, h3⟩
    have : i = s + j := by omega
    subst this
    exact ⟨by omega, by rw [Nat.add_sub_cancel_left]; exact h2⟩
  · rintro ⟨h1, h2⟩
    refine ⟨i - s, ?_, h2, by omega⟩
    rcases Nat.lt_or_ge (i - s) d with q | q
    · exact q
    · rw [Nat.testBit_lt_two_pow (Nat.lt_of_lt_of_le hy (Nat.pow_le_pow_right (by decide) q))] at h2; cases h2
theorem revB_rev : ∀ (d m : Nat), m < 2 ^ d → revB d (revB d m) = m
  | 0, m, h => by
    have : m = 0 := by simpa using h
    subst this; rfl
  | d + 1, m, h => revB_rev' d m h
where
  revB_bit : ∀ (d m i : Nat), i < d → (revB d m).testBit i = m.testBit (d - 1 - i)
    | 0, _, _, h => absurd h (Nat.not_lt_zero _)
    | d + 1, m, i, h => by
      have hl := revB_lt d (m / 2)
      unfold revB
      have hm2 : m % 2 < 2 := Nat.mod_lt _ (by decide)
      rw [Nat.mul_comm, Nat.testBit_two_pow_mul_add _ hl]
      rcases Nat.lt_or_ge i d with q | q
      · rw [if_pos q, revB_bit d (m / 2) i q, show d + 1 - 1 - i = (d - 1 - i) + 1 by omega, Nat.testBit_succ]
      · have : i = d := by omega
        subst this
        rw [if_neg (by omega), Nat.sub_self, show i + 1 - 1 - i = 0 by omega, Nat.testBit_zero, Nat.testBit_zero]
        congr 1
        have : m % 2 % 2 = m % 2 := by omega
        rw [this]
  revB_rev' (d m : Nat) (h : m < 2 ^ (d + 1)) : revB (d + 1) (revB (d + 1) m) = m := by
    refine Nat.eq_of_testBit_eq fun i => ?_
    rcases Nat.lt_or_ge i (d + 1) with q | q
    · rw [revB_bit _ _ _ q, revB_bit _ _ _ (by omega)]
      congr 1; omega
    · rw [Nat.testBit_lt_two_pow (Nat.lt_of_lt_of_le (revB_lt _ _) (Nat.pow_le_pow_right (by decide) q)), Nat.testBit_lt_two_pow (Nat.lt_of_lt_of_le h (Nat.pow_le_pow_right (by decide) q))]
theorem bl_more : ∀ (d e y : Nat) (o : Int), y < 2 ^ d → bl (d + e) y o = bl d y o
  | 0, 0, _, _, _ => rfl
  | 0, e + 1, y, o, h => by
    have : y = 0 := by simpa using h
    subst this
    have ih := bl_more 0 e 0 (o + 1) (by simp)
    rw [show (0 : Nat) + (e + 1) = (0 + e) + 1 by omega]
    unfold bl
    rw [show (0 : Nat) / 2 = 0 from rfl, ih]
    simp [bl]
  | d + 1, e, y, o, h => by
    have ih := bl_more d e (y / 2) (o + 1) (by rw [Nat.pow_succ] at h; omega)
    rw [show d + 1 + e = (d + e) + 1 by omega]
    unfold bl
    rw [ih]
theorem bl_shift : ∀ (s d y : Nat) (o : Int), bl (s + d) (y * 2 ^ s) o = bl d y (o + (s : Int))
  | 0, d, y, o => by simp
  | s + 1, d, y, o => by
    have ih := bl_shift s d y (o + 1)
    have e1 : y * 2 ^ (s + 1) = y * 2 ^ s * 2 := by rw [Nat.pow_succ]; exact (Nat.mul_assoc _ _ _).symm
    rw [show s + 1 + d = (s + d) + 1 by omega, e1]
    rw [show bl (s + d + 1) (y * 2 ^ s * 2) o = bif decide (y * 2 ^ s * 2 % 2 = 1) then o :: bl (s + d) (y * 2 ^ s * 2 / 2) (o + 1) else bl (s + d) (y * 2 ^ s * 2 / 2) (o + 1) from rfl]
    rw [decide_eq_false (by omega), cond_false, Nat.mul_div_cancel _ (by decide), ih]
    congr 1; omega
theorem bl_all {s d y L : Nat} (hy : y < 2 ^ d) (hL : y * 2 ^ s < 2 ^ L) : bl L (y * 2 ^ s) 0 = bl d y (s : Int) := by
  have h2 : y * 2 ^ s < 2 ^ (s + d) := by
    rw [Nat.pow_add, Nat.mul_comm (2 ^ s)]; exact Nat.mul_lt_mul_of_pos_right hy (Nat.pow_pos (by decide))
  have e1 := bl_more L (s + d) (y * 2 ^ s) 0 hL
  have e2 := bl_more (s + d) L (y * 2 ^ s) 0 h2
  rw [← e1, show L + (s + d) = s + d + L by omega, e2, bl_shift, Int.zero_add]
def tabL : List Nat := [0, 1, 2, 2, 3, 3, 3, 3, 4, 4, 4, 4, 4, 4, 4, 4, 5, 5, 5, 5, 5, 5, 5, 5, 5, 5, 5, 5, 5, 5, 5, 5, 6, 6, 6, 6, 6, 6, 6, 6, 6, 6, 6, 6, 6, 6, 6, 6, 6, 6, 6, 6, 6, 6, 6, 6, 6, 6, 6, 6, 6, 6, 6, 6, 7, 7, 7, 7, 7, 7, 7, 7, 7, 7, 7, 7, 7, 7, 7, 7, 7, 7, 7, 7, 7, 7, 7, 7, 7, 7, 7, 7, 7, 7, 7, 7, 7, 7, 7, 7, 7, 7, 7, 7, 7, 7, 7, 7, 7, 7, 7, 7, 7, 7, 7, 7, 7, 7, 7, 7, 7, 7, 7, 7, 7, 7, 7, 7, 8, 8, 8, 8, 8, 8, 8, 8, 8, 8, 8, 8, 8, 8, 8, 8, 8, 8, 8, 8, 8, 8, 8, 8, 8, 8, 8, 8, 8, 8, 8, 8, 8, 8, 8, 8, 8, 8, 8, 8, 8, 8, 8, 8, 8, 8, 8, 8, 8, 8, 8, 8, 8, 8, 8, 8, 8, 8, 8, 8, 8, 8, 8, 8, 8, 8, 8, 8, 8, 8, 8, 8, 8, 8, 8, 8, 8, 8, 8, 8, 8, 8, 8, 8, 8, 8, 8, 8, 8, 8, 8, 8, 8, 8, 8, 8, 8, 8, 8, 8, 8, 8, 8, 8, 8, 8, 8, 8, 8, 8, 8, 8, 8, 8, 8, 8, 8, 8, 8, 8, 8, 8, 8, 8, 8, 8, 8, 8]
def chkL : Nat → Bool
  | 0 => true
  | m + 1 => Nat.ble (m + 1) (2 ^ tabL.getD m 0) && Nat.ble (tabL.getD m 0) 8 && chkL m
theorem chkL_all : chkL 256 = true := by kernel_rfl
theorem chkL_at : ∀ {n m : Nat}, chkL n = true → m < n → m < 2 ^ tabL.getD m 0 ∧ tabL.getD m 0 ≤ 8
  | 0, m, _, h => absurd h (Nat.not_lt_zero m)
  | n + 1, m, hc, h => by
    simp only [chkL, Bool.and_eq_true] at hc
    rcases Nat.lt_or_ge m n with q | q
    · exact chkL_at hc.2 q
    · have : m = n := by omega
      subst this; exact ⟨Nat.le_of_ble_eq_true hc.1.1, Nat.le_of_ble_eq_true hc.1.2⟩
noncomputable abbrev tabO : Operand := (.const (.string (.mk (List.toArray [0, 1, 2, 2, 3, 3, 3, 3, 4, 4, 4, 4, 4, 4, 4, 4, 5, 5, 5, 5, 5, 5, 5, 5, 5, 5, 5, 5, 5, 5, 5, 5, 6, 6, 6, 6, 6, 6, 6, 6, 6, 6, 6, 6, 6, 6, 6, 6, 6, 6, 6, 6, 6, 6, 6, 6, 6, 6, 6, 6, 6, 6, 6, 6, 7, 7, 7, 7, 7, 7, 7, 7, 7, 7, 7, 7, 7, 7, 7, 7, 7, 7, 7, 7, 7, 7, 7, 7, 7, 7, 7, 7, 7, 7, 7, 7, 7, 7, 7, 7, 7, 7, 7, 7, 7, 7, 7, 7, 7, 7, 7, 7, 7, 7, 7, 7, 7, 7, 7, 7, 7, 7, 7, 7, 7, 7, 7, 7, 8, 8, 8, 8, 8, 8, 8, 8, 8, 8, 8, 8, 8, 8, 8, 8, 8, 8, 8, 8, 8, 8, 8, 8, 8, 8, 8, 8, 8, 8, 8, 8, 8, 8, 8, 8, 8, 8, 8, 8, 8, 8, 8, 8, 8, 8, 8, 8, 8, 8, 8, 8, 8, 8, 8, 8, 8, 8, 8, 8, 8, 8, 8, 8, 8, 8, 8, 8, 8, 8, 8, 8, 8, 8, 8, 8, 8, 8, 8, 8, 8, 8, 8, 8, 8, 8, 8, 8, 8, 8, 8, 8, 8, 8, 8, 8, 8, 8, 8, 8, 8, 8, 8, 8, 8, 8, 8, 8, 8, 8, 8, 8, 8, 8, 8, 8, 8, 8, 8, 8, 8, 8, 8, 8, 8, 8, 8, 8]))))
noncomputable def tabV : Value := match tabO with | .const v => v | _ => .bool false
noncomputable def okI (b : Nat) : Bool := match prun Try.prog (Instr.index 9 tabV (.int .u8 (b : Int))) with
  | some (.int .u8 (.ofNat z)) => Nat.beq z (tabL.getD b 0)
  | _ => false
def allN (f : Nat → Bool) : Nat → Bool
  | 0 => true
  | m + 1 => f m && allN f m
theorem allN_at {f : Nat → Bool} : ∀ {n m : Nat}, allN f n = true → m < n → f m = true
  | 0, m, _, h => absurd h (Nat.not_lt_zero m)
  | n + 1, m, hc, h => by
    simp only [allN, Bool.and_eq_true] at hc
    rcases Nat.lt_or_ge m n with q | q
    · exact allN_at hc.2 q
    · have : m = n := by omega
      subst this; exact hc.1
theorem chkI_all : allN okI 256 = true := by kernel_rfl
theorem idx_tab {b : Nat} (hb : b < 256) : prun Try.prog (Instr.index 9 tabV (.int .u8 (b : Int))) = some (.int .u8 ((tabL.getD b 0 : Nat) : Int)) := by
  have h := allN_at chkI_all hb
  unfold okI at h
  split at h
  · rename_i z e
    rw [e, Nat.eq_of_beq_eq_true h]; rfl
  · cases h
end Go.Ax

/-
  Late: sets of days: numbered, counted, listed (75, 76, 77, 54) (written by program).
-/
namespace Go.Ax
open Go Go.RowKit Go.Proofs

section
variable {n : Nat} {S : Rg} {x y : Operand} {o : Option Tmp}
theorem u_geq {m k : Nat} (hx : evS S x = some (.int .u64 (m : Int))) (hy : evS S y = some (.int .u64 (k : Int))) : pureOp Try.prog (frS n S) ⟨o, .binOp .geq 62 x y 62, 4, "", #[], none⟩ = some (.bool (decide (m ≥ k))) := by
  have e : prun Try.prog (do eqGuard .geq 62 x y (.int .u64 (m : Int)) (.int .u64 (k : Int)); binOp .geq 62 (.int .u64 (m : Int)) (.int .u64 (k : Int))) = some (.bool (decide ((m : Int) ≥ (k : Int)))) := rfl
  unfold pureOp
  simp only [ev_frS, hx, hy, flat, flat1, Bool.and_self, cond_true, e]
  congr 2
  exact decide_eq_decide.2 (by omega)
theorem u_u8 {m : Nat} (hm : m < 256) (hx : evS S x = some (.int .u64 (m : Int))) : pureOp Try.prog (frS n S) ⟨o, .convert 62 5 x, 5, "", #[], none⟩ = some (.int .u8 (m : Int)) := by
  have e : ∀ z : Int, prun Try.prog (Go.convert 62 5 (.int .u64 z)) = some (.int .u8 (IntKind.u8.wrap z)) := fun z => by kernel_rfl
  have w : IntKind.u8.wrap (m : Int) = (m : Int) := by
    unfold IntKind.wrap IntKind.bits IntKind.signed
    simp
    omega
  unfold pureOp
  simp only [ev_frS, hx, e, w]
  rfl
theorem u8_int {m : Nat} (hm : m < 256) (hx : evS S x = some (.int .u8 (m : Int))) : pureOp Try.prog (frS n S) ⟨o, .convert 5 3 x, 3, "", #[], none⟩ = some (iv (m : Int)) := conv_8 (m : Int) ⟨by omega, by omega⟩ hx
theorem u_shri64 {m d : Nat} (h : d ≤ 64) (hx : evS S x = some (.int .u64 (m : Int))) {j : Int} (hy : evS S y = some (iv j)) (hj : j = (d : Int)) : pureOp Try.prog (frS n S) ⟨o, .binOp .shr 62 x y 3, 62, "", #[], none⟩ = some (.int .u64 ((m / 2 ^ d : Nat) : Int)) := by
  subst hj
  have e : prun Try.prog (do eqGuard .shr 62 x y (.int .u64 (m : Int)) (.int .i64 (d : Int)); binOp .shr 62 (.int .u64 (m : Int)) (.int .i64 (d : Int))) = some (.int .u64 ((m / 2 ^ d : Nat) : Int)) := by
    show prun Try.prog (Op.shift .shr .u64 (m : Int) .i64 (d : Int)) = _
    unfold Op.shift
    rw [if_neg (by omega)]
    show some (Value.int .u64 ((m : Int).fdiv (2 ^ min d 64))) = _
    rw [Nat.min_eq_left h, Int.fdiv_eq_ediv_of_nonneg _ (by exact Int.le_of_lt (Int.pow_pos (by decide)))]
    congr 2
  unfold pureOp
  simp only [ev_frS, hx, hy, flat, flat1, Bool.and_self, cond_true, e]
theorem und9 : Try.prog.underlying 9 = some .string := by kernel_rfl
theorem idx_ok {b : Nat} (hb : b < 256) (hy : evS S y = some (.int .u8 (b : Int))) : pureOp Try.prog (frS n S) ⟨o, .index 9 tabO y, 5, "", #[], none⟩ = some (.int .u8 ((tabL.getD b 0 : Nat) : Int)) := by
  have hx : evS S tabO = some tabV := rfl
  have hf : flat tabV = true := rfl
  unfold pureOp
  simp only [ev_frS, hx, hy, und9, hf, show ∀ z : Int, flat (Value.int .u8 z) = true from fun z => rfl, Bool.and_self, cond_true, idx_tab hb]
end
section
variable {kn : FuncId → Option Bool} {lo : Nat} {H : Hp}
theorem numbered_ok {s d m : Nat} {mv : Int} (hmv : mv = (m : Int)) (hd : d ≤ 12) (hs : s + d ≤ 40) (hm : m < 2 ^ d) :
    ∃ H', FnX Try.prog kn lo 75 [.agg #[iv (s : Int), iv (d : Int)], iv mv] H (.int .u64 ((revB d m * 2 ^ s : Nat) : Int)) H' ∧ Keep H H' [] := by
  have key := fnX_low (kn := kn) (lo := lo) (H := H) (args := [.agg #[iv (s : Int), iv (d : Int)], iv mv]) (Q := fun w H' => w = .int .u64 ((revB d m * 2 ^ s : Nat) : Int) ∧ Keep H H' []) Try.func75 B75 N75 Z75 L75 (by simp) ?_
  · obtain ⟨w, H', h, rfl, q⟩ := key; exact ⟨H', h, q⟩
  have hk := Keep.refl H []
  have h12 := pow12 hd
  have hm64 : m < 18446744073709551616 := by omega
  have hlt : revB d m * 2 ^ s < 18446744073709551616 := by have := set_lt hs (revB_lt d m); omega
  intro H1 hH1; obtain ⟨kH1, nH1, c1⟩ := new_facts hH1; clear hH1
  have mH1 := kH1.1
  have hk := hk.trans kH1
  have c1 : Cl H1 H.next [iv (s : Int), iv (d : Int)] := c1
  refine wD_seq ?_
  refine wD_mov (v := iv mv) rfl ?_
  refine wD_pur (v := .int .u64 (m : Int)) rfl (i_u64 hm64 rfl hmv) ?_
  refine wD_callh (vs := [.int .u64 (m : Int)]) rfl (by kernel_rfl) (callX_args (rev83_ok hm64)) ?_
  refine wD_addo (b := H.next) (o := 0) rfl ?_
  refine wD_ld (b := H.next) (o := 1) (v := iv (d : Int)) rfl c1.rd rfl ?_
  refine wD_sub (a := 64) (b := (d : Int)) rfl rfl ⟨by omega, by omega⟩ ?_
  refine wD_pur (v := .int .u64 ((rev64 m / 2 ^ (64 - d) : Nat) : Int)) rfl (u_shri64 (by omega) rfl rfl (by omega)) ?_
  refine wD_addo (b := H.next) (o := 0) rfl ?_
  refine wD_ld (b := H.next) (o := 0) (v := iv (s : Int)) rfl c1.rd rfl ?_
  refine wD_pur (v := .int .u64 ((rev64 m / 2 ^ (64 - d) * 2 ^ s % 18446744073709551616 : Nat) : Int)) rfl (u_shli (by omega) rfl rfl) ?_
  refine wD_mov (v := .int .u64 ((rev64 m / 2 ^ (64 - d) * 2 ^ s % 18446744073709551616 : Nat) : Int)) rfl ?_
  refine wD_end (by repeat' first | exact True.intro | exact (fun h => h) | refine And.intro ?_ ?_ | (intro h; have h : (_ : Nat) = _ := h; omega)) ?_
  exact And.intro trivial (Exists.intro _ (And.intro rfl ⟨by rw [rev_at hd hm, Nat.mod_eq_of_lt hlt]; rfl, hk⟩))
theorem size_ok {s d y : Nat} (hd : d ≤ 12) (hs : s + d ≤ 40) (hy : y < 2 ^ d) : FnX Try.prog kn lo 76 [.int .u64 ((y * 2 ^ s : Nat) : Int)] H (iv ((cnt d y : Nat) : Int)) H := by
  have key := fnX_low (kn := kn) (lo := lo) (H := H) (args := [.int .u64 ((y * 2 ^ s : Nat) : Int)]) (Q := fun w H' => w = iv ((cnt d y : Nat) : Int) ∧ H' = H) Try.func76 B76 N76 Z76 L76 (by simp) ?_
  · obtain ⟨v, H', h, rfl, rfl⟩ := key; exact h
  have hp := pop_at hs hd hy
  have hlt : y * 2 ^ s < 18446744073709551616 := by have := set_lt hs hy; omega
  have e : cnt 12 y = cnt d y := by have := cnt_more d (12 - d) y hy; rwa [show d + (12 - d) = 12 by omega] at this
  refine Exists.intro _ (Exists.intro _ (And.intro (callX_args (pop84_ok hlt hp.1)) ?_))
  exact And.intro trivial (Exists.intro _ (And.intro rfl ⟨by rw [hp.2, e]; rfl, rfl⟩))
theorem len_ok {x : Nat} (hx : x < 2 ^ 40) : ∃ L : Nat, FnX Try.prog kn lo 77 [.int .u64 (x : Int)] H (iv (L : Int)) H ∧ x < 2 ^ L ∧ L ≤ 64 := by
  have key := fnX_low (kn := kn) (lo := lo) (H := H) (args := [.int .u64 (x : Int)]) (Q := fun w H' => ∃ L : Nat, w = iv (L : Int) ∧ H' = H ∧ x < 2 ^ L ∧ L ≤ 64) Try.func77 B77 N77 Z77 L77 (by simp) ?_
  · obtain ⟨v, H', h, L, rfl, rfl, q⟩ := key; exact ⟨L, h, q⟩
  have hk := Keep.refl H []
  have hx40 : x < 1099511627776 := hx
  refine And.intro rfl (Exists.intro (.bool (decide (x ≥ 4294967296))) (And.intro (u_geq rfl rfl) ?_))
  refine And.intro (fun q1 => ?_) (fun q1 => ?_)
  · have q1 : x ≥ 4294967296 := of_decide_eq_true q1
    refine And.intro rfl (Exists.intro _ (And.intro (u_shr (m := x) (d := 32) (by decide) rfl rfl) ?_))
    obtain ⟨x32, ex32⟩ : ∃ z, x / 2 ^ 32 = z := ⟨_, rfl⟩
    rw [ex32]
    have fx32 : x / 4294967296 = x32 := ex32
    clear ex32
    refine And.intro rfl (Exists.intro (.bool (decide (x32 ≥ 65536))) (And.intro (u_geq rfl rfl) ?_))
    refine And.intro (fun q2 => ?_) (fun q2 => ?_)
    · have q2 : x32 ≥ 65536 := of_decide_eq_true q2
      refine And.intro rfl (Exists.intro _ (And.intro (u_shr (m := x32) (d := 16) (by decide) rfl rfl) ?_))
      obtain ⟨x16, ex16⟩ : ∃ z, x32 / 2 ^ 16 = z := ⟨_, rfl⟩
      rw [ex16]
      have fx16 : x32 / 65536 = x16 := ex16
      clear ex16
      refine And.intro (show InR (32 + 16) from ⟨by omega, by omega⟩) ?_
      refine And.intro rfl (Exists.intro (.bool (decide (x16 ≥ 256))) (And.intro (u_geq rfl rfl) ?_))
      refine And.intro (fun q3 => ?_) (fun q3 => ?_)
      · have q3 : x16 ≥ 256 := of_decide_eq_true q3
        refine And.intro rfl (Exists.intro _ (And.intro (u_shr (m := x16) (d := 8) (by decide) rfl rfl) ?_))
        obtain ⟨x8, ex8⟩ : ∃ z, x16 / 2 ^ 8 = z := ⟨_, rfl⟩
        rw [ex8]
        have fx8 : x16 / 256 = x8 := ex8
        clear ex8
        refine And.intro (show InR ((32 + 16) + 8) from ⟨by omega, by omega⟩) ?_
        have hx8 : x8 < 256 := by omega
        refine And.intro rfl (Exists.intro _ (And.intro (u_u8 hx8 rfl) ?_))
        have htab := chkL_at chkL_all hx8
        refine And.intro rfl (Exists.intro _ (And.intro (idx_ok hx8 rfl) ?_))
        generalize tabL.getD x8 0 = tb at htab ⊢
        refine And.intro rfl (Exists.intro _ (And.intro (u8_int (by omega) rfl) ?_))
        refine And.intro (show InR (((32 + 16) + 8) + (tb : Int)) from ⟨by omega, by omega⟩) ?_
        refine And.intro trivial (Exists.intro _ (And.intro rfl ⟨56 + tb, by show iv _ = _; congr 1 <;> omega, rfl, ?_, by omega⟩))
        have b1 : (x8 + 1) * 72057594037927936 ≤ 2 ^ tb * 72057594037927936 := Nat.mul_le_mul_right _ htab.1
        rw [Nat.pow_add, Nat.mul_comm]
        refine Nat.lt_of_lt_of_le (show x < (x8 + 1) * 72057594037927936 by omega) b1
      · have q3 : ¬ (x16 ≥ 256) := of_decide_eq_false q3
        have hx8 : x16 < 256 := by omega
        refine And.intro rfl (Exists.intro _ (And.intro (u_u8 hx8 rfl) ?_))
        have htab := chkL_at chkL_all hx8
        refine And.intro rfl (Exists.intro _ (And.intro (idx_ok hx8 rfl) ?_))
        generalize tabL.getD x16 0 = tb at htab ⊢
        refine And.intro rfl (Exists.intro _ (And.intro (u8_int (by omega) rfl) ?_))
        refine And.intro (show InR ((32 + 16) + (tb : Int)) from ⟨by omega, by omega⟩) ?_
        refine And.intro trivial (Exists.intro _ (And.intro rfl ⟨48 + tb, by show iv _ = _; congr 1 <;> omega, rfl, ?_, by omega⟩))
        have b1 : (x16 + 1) * 281474976710656 ≤ 2 ^ tb * 281474976710656 := Nat.mul_le_mul_right _ htab.1
        rw [Nat.pow_add, Nat.mul_comm]
        refine Nat.lt_of_lt_of_le (show x < (x16 + 1) * 281474976710656 by omega) b1
    · have q2 : ¬ (x32 ≥ 65536) := of_decide_eq_false q2
      refine And.intro rfl (Exists.intro (.bool (decide (x32 ≥ 256))) (And.intro (u_geq rfl rfl) ?_))
      refine And.intro (fun q4 => ?_) (fun q4 => ?_)
      · have q4 : x32 ≥ 256 := of_decide_eq_true q4
        refine And.intro rfl (Exists.intro _ (And.intro (u_shr (m := x32) (d := 8) (by decide) rfl rfl) ?_))
        obtain ⟨x8, ex8⟩ : ∃ z, x32 / 2 ^ 8 = z := ⟨_, rfl⟩
        rw [ex8]
        have fx8 : x32 / 256 = x8 := ex8
        clear ex8
        refine And.intro (show InR (32 + 8) from ⟨by omega, by omega⟩) ?_
        have hx8 : x8 < 256 := by omega
        refine And.intro rfl (Exists.intro _ (And.intro (u_u8 hx8 rfl) ?_))
        have htab := chkL_at chkL_all hx8
        refine And.intro rfl (Exists.intro _ (And.intro (idx_ok hx8 rfl) ?_))
        generalize tabL.getD x8 0 = tb at htab ⊢
        refine And.intro rfl (Exists.intro _ (And.intro (u8_int (by omega) rfl) ?_))
        refine And.intro (show InR ((32 + 8) + (tb : Int)) from ⟨by omega, by omega⟩) ?_
        refine And.intro trivial (Exists.intro _ (And.intro rfl ⟨40 + tb, by show iv _ = _; congr 1 <;> omega, rfl, ?_, by omega⟩))
        have b1 : (x8 + 1) * 1099511627776 ≤ 2 ^ tb * 1099511627776 := Nat.mul_le_mul_right _ htab.1
        rw [Nat.pow_add, Nat.mul_comm]
        refine Nat.lt_of_lt_of_le (show x < (x8 + 1) * 1099511627776 by omega) b1
      · have q4 : ¬ (x32 ≥ 256) := of_decide_eq_false q4
        have hx8 : x32 < 256 := by omega
        refine And.intro rfl (Exists.intro _ (And.intro (u_u8 hx8 rfl) ?_))
        have htab := chkL_at chkL_all hx8
        refine And.intro rfl (Exists.intro _ (And.intro (idx_ok hx8 rfl) ?_))
        generalize tabL.getD x32 0 = tb at htab ⊢
        refine And.intro rfl (Exists.intro _ (And.intro (u8_int (by omega) rfl) ?_))
        refine And.intro (show InR (32 + (tb : Int)) from ⟨by omega, by omega⟩) ?_
        refine And.intro trivial (Exists.intro _ (And.intro rfl ⟨32 + tb, by show iv _ = _; congr 1 <;> omega, rfl, ?_, by omega⟩))
        have b1 : (x32 + 1) * 4294967296 ≤ 2 ^ tb * 4294967296 := Nat.mul_le_mul_right _ htab.1
        rw [Nat.pow_add, Nat.mul_comm]
        refine Nat.lt_of_lt_of_le (show x < (x32 + 1) * 4294967296 by omega) b1
  · have q1 : ¬ (x ≥ 4294967296) := of_decide_eq_false q1
    refine And.intro rfl (Exists.intro (.bool (decide (x ≥ 65536))) (And.intro (u_geq rfl rfl) ?_))
    refine And.intro (fun q5 => ?_) (fun q5 => ?_)
    · have q5 : x ≥ 65536 := of_decide_eq_true q5
      refine And.intro rfl (Exists.intro _ (And.intro (u_shr (m := x) (d := 16) (by decide) rfl rfl) ?_))
      obtain ⟨x16, ex16⟩ : ∃ z, x / 2 ^ 16 = z := ⟨_, rfl⟩
      rw [ex16]
      have fx16 : x / 65536 = x16 := ex16
      clear ex16
      refine And.intro (show InR (0 + 16) from ⟨by omega, by omega⟩) ?_
      refine And.intro rfl (Exists.intro (.bool (decide (x16 ≥ 256))) (And.intro (u_geq rfl rfl) ?_))
      refine And.intro (fun q6 => ?_) (fun q6 => ?_)
      · have q6 : x16 ≥ 256 := of_decide_eq_true q6
        refine And.intro rfl (Exists.intro _ (And.intro (u_shr (m := x16) (d := 8) (by decide) rfl rfl) ?_))
        obtain ⟨x8, ex8⟩ : ∃ z, x16 / 2 ^ 8 = z := ⟨_, rfl⟩
        rw [ex8]
        have fx8 : x16 / 256 = x8 := ex8
        clear ex8
        refine And.intro (show InR ((0 + 16) + 8) from ⟨by omega, by omega⟩) ?_
        have hx8 : x8 < 256 := by omega
        refine And.intro rfl (Exists.intro _ (And.intro (u_u8 hx8 rfl) ?_))
        have htab := chkL_at chkL_all hx8
        refine And.intro rfl (Exists.intro _ (And.intro (idx_ok hx8 rfl) ?_))
        generalize tabL.getD x8 0 = tb at htab ⊢
        refine And.intro rfl (Exists.intro _ (And.intro (u8_int (by omega) rfl) ?_))
        refine And.intro (show InR (((0 + 16) + 8) + (tb : Int)) from ⟨by omega, by omega⟩) ?_
        refine And.intro trivial (Exists.intro _ (And.intro rfl ⟨24 + tb, by show iv _ = _; congr 1 <;> omega, rfl, ?_, by omega⟩))
        have b1 : (x8 + 1) * 16777216 ≤ 2 ^ tb * 16777216 := Nat.mul_le_mul_right _ htab.1
        rw [Nat.pow_add, Nat.mul_comm]
        refine Nat.lt_of_lt_of_le (show x < (x8 + 1) * 16777216 by omega) b1
      · have q6 : ¬ (x16 ≥ 256) := of_decide_eq_false q6
        have hx8 : x16 < 256 := by omega
        refine And.intro rfl (Exists.intro _ (And.intro (u_u8 hx8 rfl) ?_))
        have htab := chkL_at chkL_all hx8
        refine And.intro rfl (Exists.intro _ (And.intro (idx_ok hx8 rfl) ?_))
        generalize tabL.getD x16 0 = tb at htab ⊢
        refine And.intro rfl (Exists.intro _ (And.intro (u8_int (by omega) rfl) ?_))
        refine And.intro (show InR ((0 + 16) + (tb : Int)) from ⟨by omega, by omega⟩) ?_
        refine And.intro trivial (Exists.intro _ (And.intro rfl ⟨16 + tb, by show iv _ = _; congr 1 <;> omega, rfl, ?_, by omega⟩))
        have b1 : (x16 + 1) * 65536 ≤ 2 ^ tb * 65536 := Nat.mul_le_mul_right _ htab.1
        rw [Nat.pow_add, Nat.mul_comm]
        refine Nat.lt_of_lt_of_le (show x < (x16 + 1) * 65536 by omega) b1
    · have q5 : ¬ (x ≥ 65536) := of_decide_eq_false q5
      refine And.intro rfl (Exists.intro (.bool (decide (x ≥ 256))) (And.intro (u_geq rfl rfl) ?_))
      refine And.intro (fun q7 => ?_) (fun q7 => ?_)
      · have q7 : x ≥ 256 := of_decide_eq_true q7
        refine And.intro rfl (Exists.intro _ (And.intro (u_shr (m := x) (d := 8) (by decide) rfl rfl) ?_))
        obtain ⟨x8, ex8⟩ : ∃ z, x / 2 ^ 8 = z := ⟨_, rfl⟩
        rw [ex8]
        have fx8 : x / 256 = x8 := ex8
        clear ex8
        refine And.intro (show InR (0 + 8) from ⟨by omega, by omega⟩) ?_
        have hx8 : x8 < 256 := by omega
        refine And.intro rfl (Exists.intro _ (And.intro (u_u8 hx8 rfl) ?_))
        have htab := chkL_at chkL_all hx8
        refine And.intro rfl (Exists.intro _ (And.intro (idx_ok hx8 rfl) ?_))
        generalize tabL.getD x8 0 = tb at htab ⊢
        refine And.intro rfl (Exists.intro _ (And.intro (u8_int (by omega) rfl) ?_))
        refine And.intro (show InR ((0 + 8) + (tb : Int)) from ⟨by omega, by omega⟩) ?_
        refine And.intro trivial (Exists.intro _ (And.intro rfl ⟨8 + tb, by show iv _ = _; congr 1 <;> omega, rfl, ?_, by omega⟩))
        have b1 : (x8 + 1) * 256 ≤ 2 ^ tb * 256 := Nat.mul_le_mul_right _ htab.1
        rw [Nat.pow_add, Nat.mul_comm]
        refine Nat.lt_of_lt_of_le (show x < (x8 + 1) * 256 by omega) b1
      · have q7 : ¬ (x ≥ 256) := of_decide_eq_false q7
        have hx8 : x < 256 := by omega
        refine And.intro rfl (Exists.intro _ (And.intro (u_u8 hx8 rfl) ?_))
        have htab := chkL_at chkL_all hx8
        refine And.intro rfl (Exists.intro _ (And.intro (idx_ok hx8 rfl) ?_))
        generalize tabL.getD x 0 = tb at htab ⊢
        refine And.intro rfl (Exists.intro _ (And.intro (u8_int (by omega) rfl) ?_))
        refine And.intro (show InR (0 + (tb : Int)) from ⟨by omega, by omega⟩) ?_
        refine And.intro trivial (Exists.intro _ (And.intro rfl ⟨0 + tb, by show iv _ = _; congr 1 <;> omega, rfl, ?_, by omega⟩))
        have b1 : (x + 1) * 1 ≤ 2 ^ tb * 1 := Nat.mul_le_mul_right _ htab.1
        rw [Nat.pow_add, Nat.mul_comm]
        refine Nat.lt_of_lt_of_le (show x < (x + 1) * 1 by omega) b1
theorem list_ok {s d y : Nat} (hs : s + d ≤ 40) (hy : y < 2 ^ d) (hlo : lo ≤ H.next) :
    ∃ w H', FnX Try.prog kn lo 54 [.int .u64 ((y * 2 ^ s : Nat) : Int)] H w H' ∧ Keep H H' [] ∧ Acc lo H.next 3 H' w (cnt d y) (ints (bl d y (s : Int))) := by
  refine fnX_low (kn := kn) (lo := lo) (H := H) (args := [.int .u64 ((y * 2 ^ s : Nat) : Int)]) (Q := fun w H' => Keep H H' [] ∧ Acc lo H.next 3 H' w (cnt d y) (ints (bl d y (s : Int)))) Try.func54 B54 N54 Z54 L54 (by simp) ?_
  have hk := Keep.refl H []
  obtain ⟨L, fL, hL, hL64⟩ := len_ok (kn := kn) (lo := lo) (H := H) (set_lt hs hy)
  refine Exists.intro _ (Exists.intro _ (And.intro (callX_args fL) ?_))
  refine loop_low (fn := Try.f54) E54_1 N54 L54x1 (fun x : Value × Nat => [(0, .int .u64 ((y * 2 ^ s : Nat) : Int)), (3, x.1), (6, iv (L : Int)), (7, iv (x.2 : Int))])
    (fun q x H' => x.2 + q = L ∧ Keep H H' [] ∧ Acc lo H.next 3 H' x.1 (bl x.2 (y * 2 ^ s) 0).length (ints (bl x.2 (y * 2 ^ s) 0)) ∧ H.next ≤ H'.next) L (.slice none 0 0, 0) ⟨by show 0 + L = L; omega, hk, .inl ⟨rfl, rfl, rfl⟩, Nat.le_refl _⟩ ⟨rfl, rfl, rfl, rfl, trivial⟩ ?_
  rintro q ⟨wv, j⟩ L1 ⟨hik, hk, hacc, hfl⟩
  simp only at hik hacc
  have hm := hk.1
  have kacc := Keep.refl L1 []
  have hlen : (bl j (y * 2 ^ s) 0).length ≤ 64 := by rw [bl_len]; have := cnt_le j (y * 2 ^ s); omega
  refine And.intro (fun q1 => ?_) (fun q1 => ?_)
  · have q1 : (j : Int) < (L : Int) := of_decide_eq_true q1
    have hj : j < L := by omega
    refine Exists.intro _ (Exists.intro _ (And.intro (callX_args (has_ok (kn := kn) (lo := lo) (H := L1) (d := j) rfl (by omega))) ?_))
    cases hbit : (y * 2 ^ s).testBit j
    · refine condF ?_
      refine And.intro (show InR ((j : Int) + 1) from ⟨by omega, by omega⟩) ?_
      refine ⟨q - 1, (wv, j + 1), by omega, ⟨by show j + 1 + (q - 1) = L; omega, hk, ?_, hfl⟩, rfl, rfl, rfl, rfl, trivial⟩
      show Acc _ _ _ _ _ (bl (j + 1) (y * 2 ^ s) 0).length (ints (bl (j + 1) (y * 2 ^ s) 0))
      have e : bl (j + 1) (y * 2 ^ s) 0 = bl j (y * 2 ^ s) 0 := by rw [bl_step, hbit]; simp
      rw [e]; exact hacc
    · refine condT ?_
      obtain ⟨H1, hH1⟩ : ∃ H1, L1.new (.cells [iv (j : Int)] 3 false) = H1 := ⟨_, rfl⟩
      refine And.intro rfl (Or.inr (And.intro (by kernel_rfl) (Exists.intro _ (Exists.intro H1 (Exists.intro _ (And.intro ((heap_build1 (v := iv (j : Int)) se27 z3 rfl rfl rfl (by decide)).trans (by rw [← hH1]; rfl)) (And.intro (fun b e => by cases e) ?_)))))))
      obtain ⟨kH1, nH1, c1⟩ := new_facts hH1; clear hH1
      have c1 : Cl H1 L1.next [iv (j : Int)] := c1
      have mH1 := kH1.1
      have hk := hk.trans kH1
      have kacc := kacc.trans kH1
      obtain ⟨H2, kdH2, eH2, dH2, aH2, kbH2⟩ := heap_append_below (P := Try.prog) (lo := lo) (k := (bl j (y * 2 ^ s) 0).length) (t1 := 27) se27 u27 (c1.sl (Nat.le_refl 1)) rfl (by decide) rfl (by rw [ints_len]; simp) (by omega) (hacc.keep kacc) (by omega) (by omega)
      refine And.intro rfl (Or.inr (And.intro (by cases wv <;> kernel_rfl) (Exists.intro _ (Exists.intro H2 (Exists.intro _ (And.intro (eH2 _ _ _ _ _ _ _ rfl rfl) (And.intro (reg_ok dH2 _) ?_)))))))
      have hk := kbH2.keep hk (by omega)
      have mH2 := kbH2.1
      refine And.intro (show InR ((j : Int) + 1) from ⟨by omega, by omega⟩) ?_
      refine ⟨q - 1, (_, j + 1), by omega, ⟨by show j + 1 + (q - 1) = L; omega, hk, ?_, by show H.next ≤ H2.next; omega⟩, rfl, rfl, rfl, rfl, trivial⟩
      show Acc _ _ _ _ _ (bl (j + 1) (y * 2 ^ s) 0).length (ints (bl (j + 1) (y * 2 ^ s) 0))
      have e : bl (j + 1) (y * 2 ^ s) 0 = bl j (y * 2 ^ s) 0 ++ [(j : Int)] := by rw [bl_step, hbit]; simp
      rw [e]; simp only [List.length_append, List.length_singleton]; simp only [ints, List.map_append, List.map_cons, List.map_nil]; exact aH2
  · have q1 : ¬ ((j : Int) < (L : Int)) := of_decide_eq_false q1
    have hj : j = L := by omega
    subst hj
    exact And.intro trivial (Exists.intro _ (And.intro rfl ⟨hk, by rw [bl_all hy hL, bl_len] at hacc; exact hacc⟩))
end
end Go.Ax

/-
  Late: the sets of a flood, one by one (53, 74); Freshen (28) (written by program).
-/
namespace Go.Ax
open Go Go.RowKit Go.Proofs

theorem i_shl1 {n : Nat} {S : Rg} {y : Operand} {o : Option Tmp} {d : Nat} (h : d ≤ 12) (hy : evS S y = some (iv (d : Int))) : pureOp Try.prog (frS n S) ⟨o, .binOp .shl 3 (.const (.int .i64 1)) y 3, 3, "", #[], none⟩ = some (iv ((2 ^ d : Nat) : Int)) := by
  have hx : evS S (.const (.int .i64 1)) = some (.int .i64 1) := rfl
  have e : prun Try.prog (do eqGuard .shl 3 (.const (.int .i64 1)) y (.int .i64 1) (.int .i64 (d : Int)); binOp .shl 3 (.int .i64 1) (.int .i64 (d : Int))) = some (.int .i64 ((2 ^ d : Nat) : Int)) := by
    show prun Try.prog (Op.shift .shl .i64 1 .i64 (d : Int)) = _
    unfold Op.shift
    rw [if_neg (by omega)]
    show some (Value.int .i64 (IntKind.i64.wrap (1 * 2 ^ min d 64))) = _
    rw [Nat.min_eq_left (by omega)]
    have h1 := pow12 h
    have e : (1 : Int) * 2 ^ d = ((2 ^ d : Nat) : Int) := by rw [Int.one_mul, Int.natCast_pow]; rfl
    rw [e]
    generalize 2 ^ d = p at h1 ⊢
    rw [wrap_i64 ⟨by omega, by omega⟩]
  unfold pureOp
  simp only [ev_frS, hx, hy, flat, flat1, Bool.and_self, cond_true, e]
section
variable {kn : FuncId → Option Bool} {lo : Nat} {H : Hp}
theorem sets_ok {s d : Nat} : ∃ bc H', FnX Try.prog kn lo 53 [.agg #[iv (s : Int), iv (d : Int)]] H (.func (.func 74) #[] #[pt bc]) H' ∧ Keep H H' [] ∧ H.next ≤ bc ∧ Rd H' bc [iv (s : Int), iv (d : Int)] := by
  have key := fnX_low (kn := kn) (lo := lo) (H := H) (args := [.agg #[iv (s : Int), iv (d : Int)]]) (Q := fun w H' => ∃ bc, w = .func (.func 74) #[] #[pt bc] ∧ Keep H H' [] ∧ H.next ≤ bc ∧ Rd H' bc [iv (s : Int), iv (d : Int)]) Try.func53 B53 N53 Z53 L53 (by simp) ?_
  · obtain ⟨w, H', h, bc, rfl, q⟩ := key; exact ⟨bc, H', h, q⟩
  have hk := Keep.refl H []
  intro H1 hH1; obtain ⟨kH1, nH1, c1⟩ := new_facts hH1; clear hH1
  have mH1 := kH1.1
  have hk := hk.trans kH1
  have c1 : Cl H1 H.next [iv (s : Int), iv (d : Int)] := c1
  refine And.intro rfl (Exists.intro (.func (.func 74) #[] #[pt H.next]) (And.intro (by kernel_rfl) ?_))
  exact And.intro trivial (Exists.intro _ (And.intro rfl ⟨H.next, rfl, hk, Nat.le_refl _, c1.rd⟩))
/-- All sets of a flood's days, those of fewer days first, in the order of their lists. -/
theorem iter74_ok {s d l bc : Nat} (hd : d ≤ 12) (hs : s + d ≤ 40) (J D : Nat → Nat → Hp → Prop) (hJ0 : J 0 0 H) (hJe : ∀ k n H1, J k n H1 → Rd H1 bc [iv (s : Int), iv (d : Int)]) (hJm : ∀ k n H1 H2, J k n H1 → Keep H1 H2 [] → J k n H2) (hJn : ∀ k n H1, J k n H1 → lo ≤ H1.next)
    (skip : ∀ k n H1, n < 2 ^ d → J k n H1 → cnt d (revB d (2 ^ d - 1 - n)) ≠ k → J k (n + 1) H1) (up : ∀ k H1, J k (2 ^ d) H1 → J (k + 1) 0 H1)
    (step : ∀ k n H1, k ≤ d → n < 2 ^ d → J k n H1 → cnt d (revB d (2 ^ d - 1 - n)) = k → ∃ t H', CallsX Try.prog kn lo (.fn (.yield l) #[]) [.int .u64 ((revB d (2 ^ d - 1 - n) * 2 ^ s : Nat) : Int)] H1 (.bool t) H' ∧ (bif t then J k (n + 1) H' else D k n H')) :
    ∃ H', FnX Try.prog kn lo 74 [.func (.yield l) #[] #[], pt bc] H unit H' ∧ (J (d + 1) 0 H' ∨ ∃ k n, k ≤ d ∧ n < 2 ^ d ∧ D k n H') := by
  have key := fnX_low (kn := kn) (lo := lo) (H := H) (args := [.func (.yield l) #[] #[], pt bc]) (Q := fun w H' => w = unit ∧ (J (d + 1) 0 H' ∨ ∃ k n, k ≤ d ∧ n < 2 ^ d ∧ D k n H')) Try.func74 B74 N74 Z74 L74 (by simp) ?_
  · obtain ⟨w, H', h, rfl, q⟩ := key; exact ⟨H', h, q⟩
  have rc := hJe 0 0 H hJ0
  have h12 := pow12 hd
  have h2d : 0 < 2 ^ d := Nat.pow_pos (by decide)
  obtain ⟨P, hP⟩ : ∃ P, P = 2 ^ d := ⟨_, rfl⟩
  have h12 : P ≤ 4096 := hP ▸ h12
  refine Exists.intro _ (Exists.intro _ (And.intro rc.of (And.intro (show _ = some (iv (d : Int)) from rfl) ?_)))
  refine And.intro rfl (Exists.intro _ (And.intro (i_shl1 hd rfl) ?_))
  rw [← hP]
  refine Exists.intro _ (Exists.intro _ (And.intro rc.of (And.intro (show _ = some (iv (d : Int)) from rfl) ?_)))
  refine And.intro (show InR ((d : Int) + 1) from ⟨by omega, by omega⟩) ?_
  refine loop_low (fn := Try.f74) E74_1 N74 L74x1 (fun k : Nat => [(0, .func (.yield l) #[] #[]), (1, pt bc), (3, iv (P : Int)), (12, iv ((d : Int) + 1)), (13, iv (k : Int))])
    (fun q k H' => k + q = d + 1 ∧ J k 0 H') (d + 1) 0 ⟨by omega, hJ0⟩ ⟨rfl, rfl, rfl, rfl, rfl, trivial⟩ ?_
  rintro q k L1 ⟨hkq, hJ⟩
  have rc := hJe _ _ _ hJ
  have hln := hJn _ _ _ hJ
  refine And.intro (fun q1 => ?_) (fun q1 => ?_)
  · have q1 : (k : Int) < ((d : Int) + 1) := of_decide_eq_true q1
    have hkd : k ≤ d := by omega
    refine loop_low (fn := Try.f74) E74_2 N74 L74x2 (fun n : Nat => [(0, .func (.yield l) #[] #[]), (1, pt bc), (3, iv (P : Int)), (12, iv ((d : Int) + 1)), (13, iv (k : Int)), (4, iv (k : Int)), (16, iv (P : Int)), (17, iv (n : Int))])
      (fun p n H' => n + p = P ∧ J k n H') P 0 ⟨by omega, hJ⟩ ⟨rfl, rfl, rfl, rfl, rfl, rfl, rfl, rfl, trivial⟩ ?_
    rintro p n L2 ⟨hnp, hJ2⟩
    have rc := hJe _ _ _ hJ2
    have hln := hJn _ _ _ hJ2
    have hJm2 := fun H2 q => hJm _ _ _ H2 hJ2 q
    have kj := Keep.refl L2 []
    refine And.intro (fun q2 => ?_) (fun q2 => ?_)
    · have q2 : (n : Int) < (P : Int) := of_decide_eq_true q2
      have hnn : n < P := by omega
      refine Exists.intro _ (Exists.intro _ (And.intro rc.of (And.intro (show row 2 _ 0 = some [iv (s : Int), iv (d : Int)] from rfl) ?_)))
      refine And.intro (show InR ((P : Int) - 1) from ⟨by omega, by omega⟩) ?_
      refine And.intro (show InR (((P : Int) - 1) - (n : Int)) from ⟨by omega, by omega⟩) ?_
      obtain ⟨H1, fH1, kH1⟩ := numbered_ok (kn := kn) (lo := lo) (H := L2) (s := s) (d := d) (m := 2 ^ d - 1 - n) (mv := ((P : Int) - 1) - (n : Int)) (by rw [← hP]; omega) hd hs (by rw [← hP]; omega)
      have mH1 := kH1.1
      have rc := kH1.rd rc (by simp)
      have kj := kj.trans kH1
      refine Exists.intro _ (Exists.intro _ (And.intro (callX_args fH1) ?_))
      have hy := revB_lt d (2 ^ d - 1 - n)
      obtain ⟨y, ey⟩ : ∃ y, revB d (2 ^ d - 1 - n) = y := ⟨_, rfl⟩
      rw [ey] at hy ⊢
      refine Exists.intro _ (Exists.intro _ (And.intro (callX_args (size_ok (kn := kn) (lo := lo) (H := H1) hd hs hy)) ?_))
      intro t3 g3; cases t3
      · have g3 : ¬ (((cnt d y : Nat) : Int) = (k : Int)) := by simpa using g3
        have hne : cnt d (revB d (2 ^ d - 1 - n)) ≠ k := by rw [ey]; omega
        refine And.intro rfl (Exists.intro (.bool false) (And.intro rfl ?_))
        refine condF ?_
        refine And.intro (show InR ((n : Int) + 1) from ⟨by omega, by omega⟩) ?_
        exact ⟨p - 1, n + 1, by omega, ⟨by omega, skip k n _ (hP ▸ hnn) (hJm2 _ kj) hne⟩, rfl, rfl, rfl, rfl, rfl, rfl, rfl, rfl, trivial⟩
      · have g3 : ((cnt d y : Nat) : Int) = (k : Int) := by simpa using g3
        have hcnt : cnt d y = k := by omega
        obtain ⟨t, H2, fH2, hJ3⟩ := step k n H1 hkd (hP ▸ hnn) (hJm2 _ kj) (by rw [ey]; exact hcnt)
        rw [ey] at fH2
        refine Exists.intro _ (Exists.intro _ (And.intro fH2 ?_))
        cases t
        · have hJ3 : D k n H2 := hJ3
          refine And.intro rfl (Exists.intro (.bool true) (And.intro rfl ?_))
          refine And.intro rfl (Exists.intro (.bool true) (And.intro rfl ?_))
          refine condT ?_
          exact And.intro trivial (Exists.intro _ (And.intro rfl ⟨rfl, Or.inr ⟨k, n, hkd, hP ▸ hnn, hJ3⟩⟩))
        · have hJ3 : J k (n + 1) H2 := hJ3
          refine And.intro rfl (Exists.intro (.bool false) (And.intro rfl ?_))
          refine And.intro rfl (Exists.intro (.bool false) (And.intro rfl ?_))
          refine condF ?_
          refine And.intro (show InR ((n : Int) + 1) from ⟨by omega, by omega⟩) ?_
          exact ⟨p - 1, n + 1, by omega, ⟨by omega, hJ3⟩, rfl, rfl, rfl, rfl, rfl, rfl, rfl, rfl, trivial⟩
    · have q2 : ¬ ((n : Int) < (P : Int)) := of_decide_eq_false q2
      have hnn : n = P := by omega
      refine And.intro (show InR ((k : Int) + 1) from ⟨by omega, by omega⟩) ?_
      exact ⟨q - 1, k + 1, by omega, ⟨by omega, up k L2 (by rw [← hP, ← hnn]; exact hJ2)⟩, rfl, rfl, rfl, rfl, rfl, trivial⟩
  · have q1 : ¬ ((k : Int) < ((d : Int) + 1)) := of_decide_eq_false q1
    have e : k = d + 1 := by omega
    subst e
    exact And.intro trivial (Exists.intro _ (And.intro rfl ⟨rfl, Or.inl hJ⟩))
end
end Go.Ax

/-
  Late: Freshen (28) (written by program).
-/
namespace Go.Ax
open Go Go.RowKit Go.Proofs

noncomputable abbrev asg28 : Code := at_ Try.f28 [1, 1, 1, 1, 0, 1, 0, 0]
noncomputable abbrev body28 : Code := at_ Try.f28 [1, 1, 1, 1, 0, 1, 0, 1]
abbrev S28 (b6 b7 b8 : Nat) : Rg := [(6, pt b6), (7, pt b7), (8, pt b8)]
/-- with these fresh days the vines surely are not hurt -/
def Lt.ff (g : Lt) (s d y : Nat) : Prop := g.sl s (Nat.testBit (y * 2 ^ s)) d ≤ g.bear
/-- ahead of the n-th number of those of k days nothing was found -/
def FAll (g : Lt) (s d k n : Nat) : Prop := (∀ y, y < 2 ^ d → cnt d y < k → ¬ g.ff s d y) ∧ (∀ y, y < 2 ^ d → cnt d y = k → 2 ^ d ≤ revB d y + n → ¬ g.ff s d y)
theorem FAll.up {g : Lt} {s d k : Nat} (h : FAll g s d k (2 ^ d)) : FAll g s d (k + 1) 0 :=
  ⟨fun y hy hc => by
    rcases Nat.lt_or_ge (cnt d y) k with q | q
    · exact h.1 y hy q
    · exact h.2 y hy (by omega) (by omega), fun y hy hc h2 => by have := revB_lt d y; omega⟩
theorem FAll.skip {g : Lt} {s d k n : Nat} (hn : n < 2 ^ d) (h : FAll g s d k n) (hne : cnt d (revB d (2 ^ d - 1 - n)) ≠ k ∨ ¬ g.ff s d (revB d (2 ^ d - 1 - n))) : FAll g s d k (n + 1) :=
  ⟨h.1, fun y hy hc h2 => by
    rcases Nat.lt_or_ge (revB d y + n) (2 ^ d) with q | q
    · have e : 2 ^ d - 1 - n = revB d y := by omega
      rw [e, revB_rev d y hy] at hne
      rcases hne with hne | hne
      · exact absurd hc hne
      · exact hne
    · exact h.2 y hy hc q⟩
structure FX where
  b6 : Nat
  b7 : Nat
  b8 : Nat
  bc : Nat
  r : Nat
structure FC where
  g : Lt
  s : Nat
  d : Nat
structure FG (X : FX) (lo : Nat) (H0 : Hp) : Prop where
  o0 : H0.next ≤ X.b6
  ol : lo ≤ X.b6
  o1 : X.b6 < X.b7
  o2 : X.b7 < X.b8
  o3 : X.b8 < X.bc
  o4 : X.bc < X.r
structure FJ (X : FX) (c : FC) (H0 : Hp) (k n : Nat) (H' : Hp) : Prop where
  c6 : Cl H' X.b6 [.slice none 0 0]
  c7 : Cl H' X.b7 [iv 0]
  c8 : ∃ m : Nat, Cl H' X.b8 (crs c.g c.s c.d m)
  cb : Rd H' X.bc [iv (c.s : Int), iv (c.d : Int)]
  hw : Sl H' c.g.wa c.g.wn c.g.wcap (spc c.g.ws)
  ha : Sl H' c.g.aa c.g.an c.g.acap (spc c.g.as)
  all : FAll c.g c.s c.d k n
  lp : Lp Try.prog H' (X.r + 1) .ready none 35 (S28 X.b6 X.b7 X.b8) [26] asg28 body28 X.r
  ll : X.r + 1 < H'.next
  dfr : H'.t.get X.r = some (.dfr (some []))
  kp : Keep H0 H' []
structure FD (X : FX) (c : FC) (lo : Nat) (H0 : Hp) (k n : Nat) (H' : Hp) : Prop where
  res : ∃ (y : Nat) (ov : Value), y < 2 ^ c.d ∧ cnt c.d y = k ∧ revB c.d y + n + 1 = 2 ^ c.d ∧ c.g.ff c.s c.d y ∧ Cl H' X.b6 [ov] ∧ Acc lo (X.r + 2) 3 H' ov (cnt c.d y) (ints (bl c.d y (c.s : Int)))
  c7 : Cl H' X.b7 [iv 0]
  all : FAll c.g c.s c.d k n
  lp : Lp Try.prog H' (X.r + 1) .done (some .ret) 35 (S28 X.b6 X.b7 X.b8) [26] asg28 body28 X.r
  ll : X.r + 1 < H'.next
  dfr : H'.t.get X.r = some (.dfr (some []))
  kp : Keep H0 H' []
theorem Acc.lower {lo f f2 : Nat} {e : TypeId} {H : Hp} {v : Value} {n : Nat} {cs : List Value} (h : Acc lo f e H v n cs) (hf : f2 ≤ f) : Acc lo f2 e H v n cs :=
  h.imp id fun ⟨b, e1, h0, hb, q⟩ => ⟨b, e1, h0, Nat.le_trans hf hb, q⟩
section
variable {kn : FuncId → Option Bool} {lo : Nat} {H : Hp}
theorem FJ.keep {X : FX} {c : FC} {H0 : Hp} {k n : Nat} {H1 H2 : Hp} (j : FJ X c H0 k n H1) (kk : Keep H1 H2 []) : FJ X c H0 k n H2 := by
  obtain ⟨m, c8⟩ := j.c8
  exact ⟨kk.cl j.c6 (by simp), kk.cl j.c7 (by simp), ⟨m, kk.cl c8 (by simp)⟩, kk.rd j.cb (by simp), kk.sl0 j.hw, kk.sl0 j.ha, j.all, j.lp.keep kk j.ll (by simp), Nat.lt_of_lt_of_le j.ll kk.1, by rw [kk.2 X.r (by have := j.ll; omega) (by simp)]; exact j.dfr, j.kp.trans kk⟩
theorem fr_round (h48 : kn 48 = none) {X : FX} {c : FC} {H0 : Hp} (G : FG X lo H0) (v : c.g.Vd) (hsd : c.s + c.d ≤ c.g.wn) (hd : c.d ≤ 12) (fw : ∀ b, c.g.wa = some ⟨b, 0, none⟩ → b < H0.next) (fa : ∀ b, c.g.aa = some ⟨b, 0, none⟩ → b < H0.next) {k n y : Nat} (hy : y < 2 ^ c.d) (hc : cnt c.d y = k) (hr : revB c.d y + n + 1 = 2 ^ c.d) (j : FJ X c H0 k n H) :
    ∃ t H', CallsX Try.prog kn lo (.fn (.yield (X.r + 1)) #[]) [.int .u64 ((y * 2 ^ c.s : Nat) : Int)] H (.bool t) H' ∧ (bif t then FJ X c H0 k (n + 1) H' else FD X c lo H0 k n H') := by
  have L1 : low Try.prog 35 asg28 = some R28x1 := N28 ▸ L28x1
  have L2 : low Try.prog 35 body28 = some R28x2 := N28 ▸ L28x2
  obtain ⟨o0, ol, o1, o2, o3, o4⟩ := G
  have hn40 := v.n40
  refine yield_ok (kn := kn) (P := Try.prog) (lo := lo) (S1 := (26, .int .u64 ((y * 2 ^ c.s : Nat) : Int)) :: S28 X.b6 X.b7 X.b8) (args := [.int .u64 ((y * 2 ^ c.s : Nat) : Int)]) (Q := fun t H' => bif t then FJ X c H0 k (n + 1) H' else FD X c lo H0 k n H') j.lp (by omega) (by rfl) rfl (wC_sound true _ L1 ?_)
  have ll := j.ll
  refine And.intro trivial (And.intro j.lp ?_)
  intro H4 s4
  have k4 := s4.keep
  have lp4 := s4.lp j.lp
  have hn4 : H4.next = H.next := s4.1
  have nl : ∀ x, x < X.r + 1 → x ∉ [X.r + 1] := fun x hx => by simp; omega
  obtain ⟨m, d8⟩ := j.c8
  have d6 := k4.cl j.c6 (nl _ (by omega))
  have d7 := k4.cl j.c7 (nl _ (by omega))
  have d8 := k4.cl d8 (nl _ (by omega))
  have db := k4.rd j.cb (nl _ (by omega))
  have dw := k4.sl j.hw (fun b e => nl _ (by have := fw b e; omega))
  have da := k4.sl j.ha (fun b e => nl _ (by have := fa b e; omega))
  have ddf : H4.t.get X.r = some (.dfr (some [])) := by rw [k4.2 X.r (by omega) (nl _ (by omega))]; exact j.dfr
  have kp4 : Keep H0 H4 [] := j.kp.new k4 (fun b hb => .inr (by simp at hb; omega))
  refine wC_sound true _ L2 ?_
  obtain ⟨_, e5, l5, g5⟩ := id d8
  refine Exists.intro _ (Exists.intro _ (Exists.intro _ (And.intro g5 (And.intro (by omega) (And.intro rfl (And.intro rfl (And.intro (by simp) ?_)))))))
  intro H5 hH5; obtain ⟨k5, n5, c5⟩ := up_facts d8 hH5; clear hH5
  have c5 : Cl H5 X.b8 (crs c.g c.s c.d (y * 2 ^ c.s)) := c5
  have nb : ∀ x, x ≠ X.b8 → x ∉ [X.b8] := fun x hx => by simpa using hx
  have m5 := k5.1
  have d6 := k5.cl d6 (nb _ (by omega))
  have d7 := k5.cl d7 (nb _ (by omega))
  have db := k5.rd db (nb _ (by omega))
  have dw := k5.sl dw (fun b e => nb _ (by have := fw b e; omega))
  have da := k5.sl da (fun b e => nb _ (by have := fa b e; omega))
  have ddf5 : H5.t.get X.r = some (.dfr (some [])) := by rw [k5.2 X.r (by omega) (nb _ (by omega))]; exact ddf
  have kp5 : Keep H0 H5 [] := kp4.new k5 (fun b hb => .inr (by simp at hb; omega))
  have lp5 := lp4.keep k5 (by omega) (nb _ (by omega))
  refine Exists.intro _ (Exists.intro _ (And.intro c5.of (And.intro (show row 16 _ 0 = some (crs c.g c.s c.d (y * 2 ^ c.s)) from rfl) ?_)))
  obtain ⟨w6, H6, f6, k6, hres⟩ := hurt_ok (kn := kn) (lo := lo) (H := H5) (m := y * 2 ^ c.s) h48 v hsd dw da (by omega)
  refine Exists.intro _ (Exists.intro _ (And.intro (callX_args f6) ?_))
  have m6 := k6.1
  obtain ⟨H7, f7, k7⟩ := none48_ok (kn := kn) (lo := lo) (H := H6) (by omega)
  refine Exists.intro _ (Exists.intro _ (And.intro (callX_func (by simp [kcall, h48]) (by simpa using f7)) ?_))
  have k57 := k6.trans k7
  have m7 := k57.1
  have e6 := k57.cl d6 (by simp)
  have e7 := k57.cl d7 (by simp)
  have e8 := k57.cl c5 (by simp)
  have eb := k57.rd db (by simp)
  have ew := k57.sl0 dw
  have ea := k57.sl0 da
  have df7 : H7.t.get X.r = some (.dfr (some [])) := by rw [k57.2 X.r (by omega) (by simp)]; exact ddf5
  have kp7 := kp5.trans k57
  have lp7 := lp5.keep k57 (by omega) (by simp)
  rcases hres with ⟨q, q1, q2, q3, rfl⟩ | ⟨hall, rfl⟩
  · refine And.intro rfl (Exists.intro (.bool false) (And.intro (pure_eq72 rfl rfl rfl (by omega)) ?_))
    refine condF ?_
    refine And.intro lp7 ?_
    intro H8 s8
    have k8 := s8.keep
    have hn8 : H8.next = H7.next := s8.1
    have hnf : ¬ c.g.ff c.s c.d y := fun h => by
      have h1 := Lt.sl_le (g := c.g) (s := c.s) (F := Nat.testBit (y * 2 ^ c.s)) q1
      unfold Lt.ff at h
      simp at q2
      omega
    have e : 2 ^ c.d - 1 - n = revB c.d y := by omega
    exact ⟨k8.cl e6 (nl _ (by omega)), k8.cl e7 (nl _ (by omega)), ⟨_, k8.cl e8 (nl _ (by omega))⟩, k8.rd eb (nl _ (by omega)), k8.sl ew (fun b e => nl _ (by have := fw b e; omega)), k8.sl ea (fun b e => nl _ (by have := fa b e; omega)), FAll.skip (by omega) j.all (.inr (by rw [e, revB_rev _ _ hy]; exact hnf)), s8.lp lp7, by omega, by rw [k8.2 X.r (by omega) (nl _ (by omega))]; exact df7, kp7.new k8 (fun b hb => .inr (by simp at hb; omega))⟩
  · refine And.intro rfl (Exists.intro (.bool true) (And.intro (pure_eq72n rfl rfl) ?_))
    refine condT ?_
    have hff : c.g.ff c.s c.d y := by have h1 := hall c.d (Nat.le_refl _); unfold Lt.ff; simp at h1; omega
    obtain ⟨ov, H8, f8, k8, acc⟩ := list_ok (kn := kn) (lo := lo) (H := H7) (s := c.s) (d := c.d) (y := y) (by omega) hy (by omega)
    refine Exists.intro _ (Exists.intro _ (And.intro (callX_args f8) ?_))
    have m8 := k8.1
    obtain ⟨ta, tc, rfl, _, _⟩ := id acc.sl
    have e6 := k8.cl e6 (by simp)
    have e7 := k8.cl e7 (by simp)
    have df8 : H8.t.get X.r = some (.dfr (some [])) := by rw [k8.2 X.r (by omega) (by simp)]; exact df7
    have lp8 := lp7.keep k8 (by omega) (by simp)
    have kp8 := kp7.trans k8
    obtain ⟨_, e9, l9, g9⟩ := id e6
    refine Exists.intro _ (Exists.intro _ (Exists.intro _ (And.intro g9 (And.intro (by omega) (And.intro rfl (And.intro rfl (And.intro (by simp) ?_)))))))
    intro H9 hH9; obtain ⟨k9, n9, c9⟩ := up_facts e6 hH9; clear hH9
    have c9 : Cl H9 X.b6 [.slice ta (cnt c.d y) tc] := c9
    have n6 : ∀ x, x ≠ X.b6 → x ∉ [X.b6] := fun x hx => by simpa using hx
    have e7 := k9.cl e7 (n6 _ (by omega))
    have m07 := kp7.1
    have acc9 := acc.other k9 (by intro b hb; simp at hb; omega)
    obtain ⟨_, e10, l10, g10⟩ := id e7
    refine Exists.intro _ (Exists.intro _ (Exists.intro _ (And.intro g10 (And.intro (by omega) (And.intro rfl (And.intro rfl (And.intro (by simp) ?_)))))))
    intro H10 hH10; obtain ⟨k10, n10, c10⟩ := up_facts e7 hH10; clear hH10
    have c10 : Cl H10 X.b7 [iv 0] := c10
    have n7 : ∀ x, x ≠ X.b7 → x ∉ [X.b7] := fun x hx => by simpa using hx
    have c9' := k10.cl c9 (n7 _ (by omega))
    have acc10 := acc9.other k10 (by intro b hb; simp at hb; omega)
    have lp10 := (lp8.keep k9 (by omega) (n6 _ (by omega))).keep k10 (by omega) (n7 _ (by omega))
    refine And.intro lp10 ?_
    intro H11 s11
    have k11 := s11.keep
    have hn11 : H11.next = H10.next := s11.1
    have acc11 := (acc10.other k11 (by intro b hb; simp at hb; omega)).lower (f2 := X.r + 2) (by omega)
    exact ⟨⟨y, _, hy, hc, hr, hff, k11.cl c9' (nl _ (by omega)), acc11⟩, k11.cl c10 (nl _ (by omega)), j.all, s11.lp lp10, by omega, by rw [k11.2 X.r (by omega) (nl _ (by omega)), k10.2 X.r (by omega) (n7 _ (by omega)), k9.2 X.r (by omega) (n6 _ (by omega))]; exact df8, ((kp8.new k9 (fun b hb => .inr (by simp at hb; omega))).new k10 (fun b hb => .inr (by simp at hb; omega))).new k11 (fun b hb => .inr (by simp at hb; omega))⟩
end
end Go.Ax


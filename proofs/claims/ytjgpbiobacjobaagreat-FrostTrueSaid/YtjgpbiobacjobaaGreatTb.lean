import Derived.Test.YtjgpbiobacjobaaGreatTa
import Derived.Test.YtjgpbiobacjobaaGreatRa
import Derived.Test.YtjgpbiobacjobaaGreatAxW9
set_option linter.all false
/-
  Frost, for Temps: validNight (39) (written by program).
-/
namespace Go.Ax
open Go Go.RowKit Go.Proofs

def spanB (a b l m : Int) : Bool := decide (l ≤ a) && decide (a ≤ b) && decide (b ≤ m)
def rdgB (sn : Nat) (slots : Int) (r : Rdg) : Bool := inB r.sensor 0 ((sn : Int) - 1) && inB r.slot 0 (slots - 1) && inB r.value (-5000) 5000
def Ng.ok (g : Ng) : Bool := inB g.slots 1 96 && inB g.fall 0 1000 && inB g.rise 0 1000 && !(decide ((g.sn : Int) > 8)) && !(decide ((g.rn : Int) > 128)) && (g.ss.all fun s => spanB s.1 s.2 (-1000) 1000) && g.rs.all (rdgB g.sn g.slots)
section
variable {kn : FuncId → Option Bool} {lo : Nat} {H : Hp}
theorem degree_ok {n : Int} : ∃ H', FnX Tryz.prog kn lo 58 [iv n] H (.bool (inB n (-5000) 5000)) H' ∧ Keep H H' [] := by
  have key := fnX_low (kn := kn) (lo := lo) (H := H) (args := [iv n]) (Q := fun v H' => v = .bool (inB n (-5000) 5000) ∧ Keep H H' []) Tryz.func58 B58 N58 Z58 L58 (by simp) ?_
  · obtain ⟨v, H', h, rfl, q⟩ := key; exact ⟨H', h, q⟩
  refine callB within_ok ?_
  intro t H1 ht k1
  exact And.intro trivial (Exists.intro _ (And.intro rfl ⟨by rw [ht]; rfl, k1⟩))
theorem span_ok {a b l m : Int} : ∃ H', FnX Tryz.prog kn lo 59 [spv a b, iv l, iv m] H (.bool (spanB a b l m)) H' ∧ Keep H H' [] := by
  have key := fnX_low (kn := kn) (lo := lo) (H := H) (args := [spv a b, iv l, iv m]) (Q := fun v H' => v = .bool (spanB a b l m) ∧ Keep H H' []) Tryz.func59 B59 N59 Z59 L59 (by simp) ?_
  · obtain ⟨v, H', h, rfl, q⟩ := key; exact ⟨H', h, q⟩
  intro H1 hH1
  obtain ⟨k1, n1, c1⟩ := new_facts hH1
  repeat' first
    | refine Exists.intro _ (Exists.intro _ (And.intro c1.of (And.intro rfl ?_)))
    | (intro t ht; cases t)
    | exact And.intro trivial (Exists.intro _ (And.intro rfl ⟨by simp_all [retV, spanB] <;> (intros; omega), k1⟩))
    | refine And.intro rfl (Exists.intro _ (And.intro rfl ?_))
theorem spc_row {ss : List (Int × Int)} {i : Nat} {s : Int × Int} (h : ss[i]? = some s) : row 2 (spc ss) (0 + i * 2) = some [iv s.1, iv s.2] := row_flat (f := fun s : Int × Int => [iv s.1, iv s.2]) (size := 2) (fun _ _ => rfl) h
theorem all_fail {α : Type} {f : α → Bool} {l : List α} {i : Nat} {x : α} (h : l[i]? = some x) (hx : f x = false) : l.all f = false := by
  rw [List.all_eq_false]; exact ⟨x, List.mem_of_getElem? h, by simp [hx]⟩
theorem night_ok {g : Ng} (hs : Sl H g.sa g.sn g.scap (spc g.ss)) (hr : Sl H g.ra g.rn g.rcap (rdc g.rs)) (hsn : g.ss.length = g.sn) (hrn : g.rs.length = g.rn) (hlo : lo ≤ H.next) :
    ∃ H', FnX Tryz.prog kn lo 39 [.agg g.v.toArray] H (.bool g.ok) H' ∧ Keep H H' [] := by
  have key := fnX_low (kn := kn) (lo := lo) (H := H) (args := [.agg g.v.toArray]) (Q := fun w H' => w = .bool g.ok ∧ Keep H H' []) Tryz.func39 B39 N39 Z39 L39 (by simp) ?_
  · obtain ⟨w, H', h, rfl, q⟩ := key; exact ⟨H', h, q⟩
  intro H1 hH1; obtain ⟨k1, n1, c1⟩ := new_facts hH1; clear hH1
  have c1 : Cl H1 H.next g.v := c1
  have no : ∀ {b : Bool}, g.ok = b → b = false → g.ok = false := fun h e => h.trans e
  refine Exists.intro _ (Exists.intro _ (And.intro c1.of (And.intro (show _ = some (iv g.slots) from rfl) ?_)))
  refine callB within_ok ?_
  intro t2 H2 h2 k2
  have k02 := k1.trans k2
  cases t2
  · repeat (refine And.intro rfl (Exists.intro (.bool true) (And.intro rfl ?_)))
    refine condT ?_
    exact And.intro trivial (Exists.intro _ (And.intro rfl ⟨by simp [Ng.ok, h2, retV], k02⟩))
  refine And.intro rfl (Exists.intro (.bool false) (And.intro rfl ?_))
  have c2 := k2.cl c1 (by simp)
  refine Exists.intro _ (Exists.intro _ (And.intro c2.of (And.intro (show _ = some (iv g.fall) from rfl) ?_)))
  refine callB within_ok ?_
  intro t3 H3 h3 k3
  have k03 := k02.trans k3
  cases t3
  · repeat (refine And.intro rfl (Exists.intro (.bool true) (And.intro rfl ?_)))
    refine condT ?_
    exact And.intro trivial (Exists.intro _ (And.intro rfl ⟨by simp [Ng.ok, h3, retV], k03⟩))
  repeat (refine And.intro rfl (Exists.intro (.bool false) (And.intro rfl ?_)))
  have c3 := k3.cl c2 (by simp)
  refine Exists.intro _ (Exists.intro _ (And.intro c3.of (And.intro (show _ = some (iv g.rise) from rfl) ?_)))
  refine callB within_ok ?_
  intro t4 H4 h4 k4
  have k04 := k03.trans k4
  cases t4
  · repeat (refine And.intro rfl (Exists.intro (.bool true) (And.intro rfl ?_)))
    refine condT ?_
    exact And.intro trivial (Exists.intro _ (And.intro rfl ⟨by simp [Ng.ok, h4, retV], k04⟩))
  repeat (refine And.intro rfl (Exists.intro (.bool false) (And.intro rfl ?_)))
  refine condF ?_
  have c4 := k4.cl c3 (by simp)
  refine Exists.intro _ (Exists.intro _ (And.intro c4.of (And.intro (show _ = some (.slice g.sa g.sn g.scap) from rfl) ?_)))
  intro t5 h5
  cases t5
  rotate_left
  · repeat (refine And.intro rfl (Exists.intro (.bool true) (And.intro rfl ?_)))
    refine condT ?_
    exact And.intro trivial (Exists.intro _ (And.intro rfl ⟨by simp [Ng.ok, h5, retV], k04⟩))
  refine Exists.intro _ (Exists.intro _ (And.intro c4.of (And.intro (show _ = some (.slice g.ra g.rn g.rcap) from rfl) ?_)))
  intro t6 h6
  cases t6
  rotate_left
  · repeat (refine And.intro rfl (Exists.intro (.bool true) (And.intro rfl ?_)))
    refine condT ?_
    exact And.intro trivial (Exists.intro _ (And.intro rfl ⟨by simp [Ng.ok, h6, retV], k04⟩))
  repeat (refine And.intro rfl (Exists.intro (.bool false) (And.intro rfl ?_)))
  refine condF ?_
  have hsn8 : g.sn ≤ 8 := by
    have : ¬ (g.sn : Int) > 8 := by simpa using h5
    omega
  have hrn8 : g.rn ≤ 128 := by
    have : ¬ (g.rn : Int) > 128 := by simpa using h6
    omega
  have hsl : 1 ≤ g.slots ∧ g.slots ≤ 96 := by simpa [inB] using h2
  have hE : g.ok = ((g.ss.all fun s => spanB s.1 s.2 (-1000) 1000) && g.rs.all (rdgB g.sn g.slots)) := by
    simp only [Ng.ok, h2, h3, h4, h5, h6, Bool.not_false, Bool.true_and, Bool.and_true]
  have m4 := k04.1
  refine Exists.intro _ (Exists.intro _ (And.intro c4.of (And.intro (show _ = some (.slice g.sa g.sn g.scap) from rfl) ?_)))
  refine loop_low (fn := Tryz.f39) E39_1 N39 L39x1 (fun i : Nat => [(1, pt H.next), (34, .slice g.sa g.sn g.scap), (35, iv (g.sn : Int)), (36, iv (i : Int))])
    (fun k i H' => i + k = g.sn ∧ Keep H4 H' [] ∧ (g.ss.take i).all (fun s => spanB s.1 s.2 (-1000) 1000) = true) g.sn 0 ⟨by omega, Keep.refl _ _, rfl⟩ ⟨rfl, rfl, rfl, rfl, trivial⟩ ?_
  rintro k i H5 ⟨hik, hk, hall⟩
  have hkn := hk.1
  refine And.intro (fun hlt => ?_) (fun hge => ?_)
  · have hi : i < g.sn := by simpa using hlt
    have hs5 := (k04.trans hk).sl0 hs
    rcases hs5 with ⟨_, h0, _⟩ | ⟨sb, esa, hsc, _⟩
    · omega
    obtain ⟨x, hx⟩ := get_some (l := g.ss) (i := i) (by omega)
    rw [esa]
    refine Exists.intro i (And.intro rfl (And.intro hi ?_))
    refine Exists.intro _ (Exists.intro _ (And.intro hsc.of (And.intro (spc_row hx) ?_)))
    intro H6 hH6; obtain ⟨k6, n6, c6⟩ := new_facts hH6; clear hH6
    obtain ⟨_, e6, l6, g6⟩ := id c6
    refine Exists.intro _ (Exists.intro _ (Exists.intro _ (And.intro g6 (And.intro (by omega) (And.intro rfl (And.intro rfl (And.intro (by simp) ?_)))))))
    intro H7 hH7; obtain ⟨k7, n7, c7⟩ := up_facts c6 hH7; clear hH7
    have c7 : Cl H7 H5.next [iv x.1, iv x.2] := c7
    have k57 : Keep H5 H7 [] := k6.new k7 (fun b hb => .inr (by simp at hb; omega))
    refine Exists.intro _ (Exists.intro _ (And.intro c7.of (And.intro (show row 2 _ _ = some [iv x.1, iv x.2] from rfl) ?_)))
    refine callB (span_ok (a := x.1) (b := x.2)) ?_
    intro t8 H8 h8 k8
    have k58 := k57.trans k8
    cases t8
    · refine And.intro rfl (Exists.intro (.bool true) (And.intro rfl ?_))
      refine condT ?_
      have := all_fail (f := fun s : Int × Int => spanB s.1 s.2 (-1000) 1000) hx h8
      exact And.intro trivial (Exists.intro _ (And.intro rfl ⟨by rw [hE, this]; rfl, k04.trans (hk.trans k58)⟩))
    · refine And.intro rfl (Exists.intro (.bool false) (And.intro rfl ?_))
      refine condF ?_
      refine And.intro (show InR ((i : Int) + 1) from ⟨by omega, by omega⟩) ?_
      refine ⟨k - 1, i + 1, by omega, ⟨by omega, hk.trans k58, ?_⟩, rfl, rfl, rfl, rfl, trivial⟩
      rw [all_step hx, hall, h8]; rfl
  · have hi : ¬ i < g.sn := by simpa using hge
    rw [List.take_of_length_le (by omega)] at hall
    have c5 := hk.cl c4 (by simp)
    have k05 := k04.trans hk
    refine Exists.intro _ (Exists.intro _ (And.intro c5.of (And.intro (show _ = some (.slice g.ra g.rn g.rcap) from rfl) ?_)))
    refine loop_low (fn := Tryz.f39) E39_2 N39 L39x2 (fun i : Nat => [(1, pt H.next), (45, .slice g.ra g.rn g.rcap), (46, iv (g.rn : Int)), (47, iv (i : Int))])
      (fun k i H' => i + k = g.rn ∧ Keep H5 H' [] ∧ (g.rs.take i).all (rdgB g.sn g.slots) = true) g.rn 0 ⟨by omega, Keep.refl _ _, rfl⟩ ⟨rfl, rfl, rfl, rfl, trivial⟩ ?_
    rintro k i H6 ⟨hik, hk6, hall6⟩
    have hkn6 := hk6.1
    refine And.intro (fun hlt => ?_) (fun hge => ?_)
    · have hi : i < g.rn := by simpa using hlt
      have hr6 := (k05.trans hk6).sl0 hr
      rcases hr6 with ⟨_, h0, _⟩ | ⟨rb, era, hrc, _⟩
      · omega
      obtain ⟨x, hx⟩ := get_some (l := g.rs) (i := i) (by omega)
      rw [era]
      refine Exists.intro i (And.intro rfl (And.intro hi ?_))
      refine Exists.intro _ (Exists.intro _ (And.intro hrc.of (And.intro (row_flat (f := Rdg.v) (fun _ _ => rfl) hx) ?_)))
      intro H7 hH7; obtain ⟨k7, n7, c7⟩ := new_facts hH7; clear hH7
      obtain ⟨_, e7, l7, g7⟩ := id c7
      refine Exists.intro _ (Exists.intro _ (Exists.intro _ (And.intro g7 (And.intro (by omega) (And.intro rfl (And.intro rfl (And.intro (by simp) ?_)))))))
      intro H8 hH8; obtain ⟨k8, n8, c8⟩ := up_facts c7 hH8; clear hH8
      have c8 : Cl H8 H6.next x.v := c8
      have k68 : Keep H6 H8 [] := k7.new k8 (fun b hb => .inr (by simp at hb; omega))
      have d8 := (hk6.trans k68).cl c5 (by simp)
      have fail : ∀ H9, Keep H8 H9 [] → rdgB g.sn g.slots x = false → retV [.bool false] = .bool g.ok ∧ Keep H H9 [] := fun H9 k9 hf => ⟨by rw [hE, all_fail hx hf, Bool.and_false]; rfl, k05.trans (hk6.trans (k68.trans k9))⟩
      refine Exists.intro _ (Exists.intro _ (And.intro c8.of (And.intro (show _ = some (iv x.sensor) from rfl) ?_)))
      refine Exists.intro _ (Exists.intro _ (And.intro d8.of (And.intro (show _ = some (.slice g.sa g.sn g.scap) from rfl) ?_)))
      refine callB (isindex_ok (i := x.sensor) (n := (g.sn : Int)) ⟨by omega, by omega⟩) ?_
      intro t9 H9 h9 k9
      cases t9
      · repeat (refine And.intro rfl (Exists.intro (.bool true) (And.intro rfl ?_)))
        refine condT ?_
        exact And.intro trivial (Exists.intro _ (And.intro rfl (fail H9 k9 (by simp [rdgB, h9]))))
      refine And.intro rfl (Exists.intro (.bool false) (And.intro rfl ?_))
      have c9 := k9.cl c8 (by simp)
      have d9 := k9.cl d8 (by simp)
      refine Exists.intro _ (Exists.intro _ (And.intro c9.of (And.intro (show _ = some (iv x.slot) from rfl) ?_)))
      refine Exists.intro _ (Exists.intro _ (And.intro d9.of (And.intro (show _ = some (iv g.slots) from rfl) ?_)))
      refine callB (isindex_ok (i := x.slot) (n := g.slots) ⟨by omega, by omega⟩) ?_
      intro t10 H10 h10 k10
      have k810 := k9.trans k10
      cases t10
      · repeat (refine And.intro rfl (Exists.intro (.bool true) (And.intro rfl ?_)))
        refine condT ?_
        exact And.intro trivial (Exists.intro _ (And.intro rfl (fail H10 k810 (by simp [rdgB, h10]))))
      repeat (refine And.intro rfl (Exists.intro (.bool false) (And.intro rfl ?_)))
      have c10 := k10.cl c9 (by simp)
      refine Exists.intro _ (Exists.intro _ (And.intro c10.of (And.intro (show _ = some (iv x.value) from rfl) ?_)))
      refine callB (degree_ok (n := x.value)) ?_
      intro t11 H11 h11 k11
      have k811 := k810.trans k11
      cases t11
      · repeat (refine And.intro rfl (Exists.intro (.bool true) (And.intro rfl ?_)))
        refine condT ?_
        exact And.intro trivial (Exists.intro _ (And.intro rfl (fail H11 k811 (by simp [rdgB, h11]))))
      repeat (refine And.intro rfl (Exists.intro (.bool false) (And.intro rfl ?_)))
      refine condF ?_
      refine And.intro (show InR ((i : Int) + 1) from ⟨by omega, by omega⟩) ?_
      refine ⟨k - 1, i + 1, by omega, ⟨by omega, hk6.trans (k68.trans k811), ?_⟩, rfl, rfl, rfl, rfl, trivial⟩
      rw [all_step hx, hall6]; simp [rdgB, h9, h10, h11]
    · have hi : ¬ i < g.rn := by simpa using hge
      rw [List.take_of_length_le (by omega)] at hall6
      exact And.intro trivial (Exists.intro _ (And.intro rfl ⟨by rw [hE, hall, hall6]; rfl, k05.trans hk6⟩))
/-- A night that the program takes is valid. -/
theorem Ng.vd {g : Ng} (h : g.ok = true) (hn : g.slots = (g.n : Int)) (hsn : g.ss.length = g.sn) (hrn : g.rs.length = g.rn) : g.Vd := by
  simp only [Ng.ok, Bool.and_eq_true, List.all_eq_true, inB, decide_eq_true_eq, spanB, rdgB, Bool.not_eq_true', decide_eq_false_iff_not] at h
  obtain ⟨⟨⟨⟨⟨⟨a1, a2⟩, a3⟩, a4⟩, a5⟩, a6⟩, a7⟩ := h
  refine ⟨hn, by omega, by omega, by omega, hsn, hrn, by omega, fun x hx => ?_, fun r hr => ?_⟩
  · have := a6 x hx; omega
  · have := a7 r hr; omega
end
end Go.Ax
/-
  Frost, for Temps: the deferred closure of temperatures (63), which recovers.
-/
namespace Go.Ax
open Go Go.RowKit Go.Proofs

theorem S63 : at_ Tryz.f63 [] = .seq (at_ Tryz.f63 [0]) (at_ Tryz.f63 [1]) := by kernel_rfl
theorem C63 : at_ Tryz.f63 [1] = .cond (.tmp 3) (at_ Tryz.f63 [1, 0]) (at_ Tryz.f63 [1, 1]) := by kernel_rfl
theorem K63 : at_ Tryz.f63 [1, 1] = .skip := by kernel_rfl
theorem D63a : at_ Tryz.f63 [0] = .region 0 (opsOf (at_ Tryz.f63 [0])) false := by kernel_rfl
theorem Q63a : lowRQs Tryz.prog 4 (opsOf (at_ Tryz.f63 [0])).toList (opsOf (at_ Tryz.f63 [0])).toList = some [(.rcv (some 2)), (.ro ⟨(some 3), none, (.pur ⟨(some 3), (.binOp .neq 20 (.tmp 2) (.const .nilIface) 20), 4, "", (List.toArray []), none⟩)⟩)] := by kernel_rfl
theorem D63b : at_ Tryz.f63 [1, 0] = .region 1 (opsOf (at_ Tryz.f63 [1, 0])) false := by kernel_rfl
theorem Q63b : lowRQs Tryz.prog 4 (opsOf (at_ Tryz.f63 [1, 0])).toList (opsOf (at_ Tryz.f63 [1, 0])).toList = some [(.ro ⟨none, none, (.st (.tmp 0) (.const (.slice none 0 0)))⟩), (.ro ⟨none, none, (.st (.tmp 1) (.const (.int .i64 6)))⟩)] := by kernel_rfl
section
variable {kn : FuncId → Option Bool} {lo : Nat} {H : Hp}
theorem def63_none {b c : Nat} : DefX Tryz.prog kn lo 63 [pt b, pt c] H none none H := by
  have key : ∃ H', DefX Tryz.prog kn lo 63 [pt b, pt c] H none none H' ∧ H' = H := ?_
  · obtain ⟨H', h, rfl⟩ := key; exact h
  refine defX_of (P := Tryz.prog) (kn := kn) (lo := lo) (args := [pt b, pt c]) (H := H) (p := none) (p' := none) (Q := fun H' => H' = H) Tryz.func63 B63 (by rw [N63]; simp) (by rw [Z63]) ?_
  rw [N63]
  refine TriQ.seq S63 (TriQ.reg D63a Q63a ?_)
  refine And.intro rfl (Exists.intro (.bool false) (And.intro (by kernel_rfl) ?_))
  refine TriQ.cond C63 (t := false) rfl (fun e => by cases e) (fun _ => TriQ.skip K63 ?_)
  exact ⟨.inl rfl, rfl, rfl⟩
theorem def63_some {b c : Nat} {v w : Value} (hb : Cl H b [v]) (hc : Cl H c [w]) (hne : b ≠ c) (lb : lo ≤ b) (lc : lo ≤ c) : ∃ H', DefX Tryz.prog kn lo 63 [pt b, pt c] H (some (noneV, false)) (some (noneV, true)) H' ∧ Cl H' b [.slice none 0 0] ∧ Cl H' c [iv 6] ∧ Keep H H' [b, c] := by
  refine defX_of (P := Tryz.prog) (kn := kn) (lo := lo) (args := [pt b, pt c]) (H := H) (Q := fun H' => Cl H' b [.slice none 0 0] ∧ Cl H' c [iv 6] ∧ Keep H H' [b, c]) Tryz.func63 B63 (by rw [N63]; simp) (by rw [Z63]) ?_
  rw [N63]
  refine TriQ.seq S63 (TriQ.reg D63a Q63a ?_)
  refine And.intro rfl (Exists.intro (.bool true) (And.intro (by kernel_rfl) ?_))
  refine TriQ.cond C63 (t := true) rfl (fun _ => TriQ.reg D63b Q63b ?_) (fun e => by cases e)
  obtain ⟨_, ea, la, ga⟩ := id hb
  refine Exists.intro _ (Exists.intro _ (Exists.intro _ (And.intro ga (And.intro lb (And.intro rfl (And.intro rfl (And.intro (by simp) ?_)))))))
  intro H7 hH7
  obtain ⟨k7, n7, c7⟩ := up_facts hb hH7
  have hc7 := k7.cl hc (by simp; omega)
  obtain ⟨_, eb, l2, gb⟩ := id hc7
  refine Exists.intro _ (Exists.intro _ (Exists.intro _ (And.intro gb (And.intro lc (And.intro rfl (And.intro rfl (And.intro (by simp) ?_)))))))
  intro H8 hH8
  obtain ⟨k8, n8, c8⟩ := up_facts hc7 hH8
  have c7 : Cl H7 b [.slice none 0 0] := c7
  have c8 : Cl H8 c [iv 6] := c8
  exact ⟨.inl rfl, rfl, k8.cl c7 (by simp; omega), c8, (k7.mono (by simp)).trans (k8.mono (by simp))⟩
end
end Go.Ax
/-
  Frost: Alarm (27), with the newer evaluator (written by program, out of F4).
-/
namespace Go.Ax
open Go Go.RowKit Go.Proofs

def alarmOk (bud b1 b2 fall gap : Int) : Bool := inB bud (-5000) 5000 && spanB b1 b2 (-1000) 1000 && inB fall 0 1000 && inB gap 0 96
def alarmV (bud b1 b2 fall gap : Int) : Int × Int := if alarmOk bud b1 b2 fall gap = true then (bud + 1 + b2 + gap * fall, 0) else (0, 2)
section
variable {kn : FuncId → Option Bool} {lo : Nat} {H : Hp}
theorem prod_bound {a b : Int} (ha : 0 ≤ a ∧ a ≤ 96) (hb : 0 ≤ b ∧ b ≤ 1000) : 0 ≤ a * b ∧ a * b ≤ 96000 := by
  have h1 := Int.mul_nonneg ha.1 hb.1
  have h2 := Int.mul_le_mul_of_nonneg_right ha.2 hb.1
  omega
theorem alarm_ok {bud b1 b2 fall gap : Int} :
    ∃ H', FnX Tryz.prog kn lo 27 [iv bud, spv b1 b2, iv fall, iv gap] H (.tuple #[iv (alarmV bud b1 b2 fall gap).1, iv (alarmV bud b1 b2 fall gap).2]) H' ∧ Keep H H' [] := by
  have key := fnX_low (kn := kn) (lo := lo) (H := H) (args := [iv bud, spv b1 b2, iv fall, iv gap]) (Q := fun v H' => v = .tuple #[iv (alarmV bud b1 b2 fall gap).1, iv (alarmV bud b1 b2 fall gap).2] ∧ Keep H H' []) Tryz.func27 B27 N27 Z27 L27 (by simp) ?_
  · obtain ⟨v, H', h, rfl, q⟩ := key; exact ⟨H', h, q⟩
  intro H1 hH1
  obtain ⟨k1, n1, c1⟩ := new_facts hH1
  have c1 : Cl H1 H.next [iv b1, iv b2] := c1
  have bad : ∀ H2, Keep H H2 [] → alarmOk bud b1 b2 fall gap = false → retV [iv 0, iv 2] = .tuple #[iv (alarmV bud b1 b2 fall gap).1, iv (alarmV bud b1 b2 fall gap).2] ∧ Keep H H2 [] := fun H2 k h => ⟨by unfold alarmV; rw [if_neg (by rw [h]; decide)]; rfl, k⟩
  refine callB degree_ok ?_
  intro t1 H2 ht1 k2
  cases t1
  · refine And.intro rfl (Exists.intro (.bool false) (And.intro rfl ?_))
    refine And.intro rfl (Exists.intro (.bool true) (And.intro rfl ?_))
    refine And.intro rfl (Exists.intro (.bool true) (And.intro rfl ?_))
    refine And.intro rfl (Exists.intro (.bool true) (And.intro rfl ?_))
    refine condT ?_
    exact And.intro trivial (Exists.intro _ (And.intro rfl (bad H2 (k1.trans k2) (by unfold alarmOk; rw [ht1]; rfl))))
  have c2 := k2.cl c1 (by simp)
  refine Exists.intro _ (Exists.intro _ (And.intro c2.of (And.intro (show row 2 _ _ = some [iv b1, iv b2] from rfl) ?_)))
  refine callB span_ok ?_
  intro t2 H3 ht2 k3
  have k13 := k1.trans (k2.trans k3)
  have c3 := k3.cl c2 (by simp)
  cases t2
  · refine And.intro rfl (Exists.intro (.bool false) (And.intro rfl ?_))
    refine And.intro rfl (Exists.intro (.bool true) (And.intro rfl ?_))
    refine And.intro rfl (Exists.intro (.bool true) (And.intro rfl ?_))
    refine And.intro rfl (Exists.intro (.bool true) (And.intro rfl ?_))
    refine condT ?_
    exact And.intro trivial (Exists.intro _ (And.intro rfl (bad H3 k13 (by unfold alarmOk; rw [ht1, ht2]; rfl))))
  refine And.intro rfl (Exists.intro (.bool true) (And.intro rfl ?_))
  refine And.intro rfl (Exists.intro (.bool false) (And.intro rfl ?_))
  refine callB within_ok ?_
  intro t3 H4 ht3 k4
  have c4 := k4.cl c3 (by simp)
  refine And.intro rfl (Exists.intro (.bool (!t3)) (And.intro rfl ?_))
  refine And.intro rfl (Exists.intro (.bool (!t3)) (And.intro rfl ?_))
  cases t3
  · refine And.intro rfl (Exists.intro (.bool true) (And.intro rfl ?_))
    refine condT ?_
    exact And.intro trivial (Exists.intro _ (And.intro rfl (bad H4 (k13.trans k4) (by unfold alarmOk; rw [ht1, ht2, ht3]; rfl))))
  refine callB within_ok ?_
  intro t4 H5 ht4 k5
  have c5 := k5.cl c4 (by simp)
  have k15 := k13.trans (k4.trans k5)
  refine And.intro rfl (Exists.intro (.bool (!t4)) (And.intro rfl ?_))
  refine And.intro rfl (Exists.intro (.bool (!t4)) (And.intro rfl ?_))
  cases t4
  · refine condT ?_
    exact And.intro trivial (Exists.intro _ (And.intro rfl (bad H5 k15 (by unfold alarmOk; rw [ht1, ht2, ht3, ht4]; rfl))))
  refine condF ?_
  have hok : alarmOk bud b1 b2 fall gap = true := by unfold alarmOk; rw [ht1, ht2, ht3, ht4]; rfl
  have d1 : -5000 ≤ bud ∧ bud ≤ 5000 := by simpa [inB] using ht1
  have d2 : (-1000 ≤ b1 ∧ b1 ≤ b2) ∧ b2 ≤ 1000 := by simpa [spanB] using ht2
  have d3 : 0 ≤ fall ∧ fall ≤ 1000 := by simpa [inB] using ht3
  have d4 : 0 ≤ gap ∧ gap ≤ 96 := by simpa [inB] using ht4
  have hpr := prod_bound d4 d3
  refine And.intro ⟨by omega, by omega⟩ ?_
  refine Exists.intro _ (Exists.intro _ (And.intro c5.of (And.intro rfl ?_)))
  refine And.intro ⟨by omega, by omega⟩ ?_
  refine And.intro ⟨by omega, by omega⟩ ?_
  refine And.intro ⟨by omega, by omega⟩ ?_
  exact And.intro trivial (Exists.intro _ (And.intro rfl ⟨by unfold alarmV; rw [if_pos hok]; rfl, k15⟩))
end
end Go.Ax
/-
  Frost: temperatures (40): the night's spans, or the panic of a night without a course, recovered.
-/
namespace Go.Ax
open Go Go.RowKit Go.Proofs

theorem S40 : at_ Tryz.f40 [] = .seq (at_ Tryz.f40 [0]) (at_ Tryz.f40 [1]) := by kernel_rfl
theorem S40b : at_ Tryz.f40 [1] = .seq (at_ Tryz.f40 [1, 0]) (at_ Tryz.f40 [1, 1]) := by kernel_rfl
theorem S40c : at_ Tryz.f40 [1, 1] = .seq (at_ Tryz.f40 [1, 1, 0]) .ret := by kernel_rfl
theorem D40a : at_ Tryz.f40 [0] = .region 0 (opsOf (at_ Tryz.f40 [0])) false := by kernel_rfl
theorem P40a : lowRPs Tryz.prog 10 (opsOf (at_ Tryz.f40 [0])).toList (opsOf (at_ Tryz.f40 [0])).toList = some [(.ro ⟨(some 1), none, (.box 25 (.tmp 0))⟩), (.ro ⟨(some 2), none, (.alc 22 [(.slice none 0 0)])⟩), (.ro ⟨(some 3), none, (.alc 28 [(.int .i64 0)])⟩)] := by kernel_rfl
theorem D40b : at_ Tryz.f40 [1, 0] = .region 1 (opsOf (at_ Tryz.f40 [1, 0])) false := by kernel_rfl
theorem P40b : lowRPs Tryz.prog 10 (opsOf (at_ Tryz.f40 [1, 0])).toList (opsOf (at_ Tryz.f40 [1, 0])).toList = some [(.ro ⟨(some 4), none, (.pur ⟨(some 4), (.makeFunc (.func 63) (List.toArray []) (List.toArray [(.tmp 2), (.tmp 3)])), 1, "", (List.toArray []), none⟩)⟩), (.dfr none ⟨(.value (.tmp 4)), (List.toArray []), (List.toArray [])⟩)] := by kernel_rfl
theorem D40c : at_ Tryz.f40 [1, 1, 0] = .region 2 (opsOf (at_ Tryz.f40 [1, 1, 0])) true := by kernel_rfl
noncomputable def R40x1 : List RO := [⟨(some 5), none, (.lda (.tmp 1) 5)⟩, ⟨(some 6), none, (.call ⟨(.value (.func 65)), (List.toArray [(.tmp 5)]), (List.toArray [25])⟩ false)⟩, ⟨(some 7), none, (.lda (.tmp 1) 5)⟩, ⟨(some 8), none, (.call ⟨(.value (.func 66)), (List.toArray [(.tmp 7)]), (List.toArray [25])⟩ true)⟩, ⟨(some 9), none, (.call ⟨(.value (.func 64)), (List.toArray [(.tmp 6), (.tmp 8)]), (List.toArray [36, 36])⟩ true)⟩, ⟨none, none, (.st (.tmp 2) (.tmp 9))⟩, ⟨none, none, (.st (.tmp 3) (.const (.int .i64 0)))⟩]
theorem L40x1 : low Tryz.prog 10 (at_ Tryz.f40 [1, 1, 0]) = some (.dreg R40x1 [63, 31, 15, 7, 0, 1, 0]) := by kernel_rfl

def Ng.spans (g : Ng) : List (Int × Int) := ((List.range g.n).map g.least).zip ((List.range g.n).map g.great)
/-- the night has a course -/
def Ng.has (g : Ng) : Bool := g.spans.all fun p => !(decide (p.1 > p.2))
theorem Cl.sl {H : Hp} {b n cap : Nat} {cs : List Value} (h : Cl H b cs) (hn : n ≤ cap) : Sl H (some ⟨b, 0, none⟩) n cap cs := .inr ⟨b, rfl, h.rd, hn⟩
theorem a22 : isAggB Tryz.prog 22 = some false := by kernel_rfl
theorem a28 : isAggB Tryz.prog 28 = some false := by kernel_rfl
theorem res2 {P : Program} {S : Rg} {H : Hp} {a b : Nat} {t1 t2 : TypeId} {v1 v2 : Value} {x y : Nat} (ha : lk S a = some (.pointer (some ⟨x, 0, none⟩))) (hb : lk S b = some (.pointer (some ⟨y, 0, none⟩))) (h1 : isAggB P t1 = some false) (h2 : isAggB P t2 = some false) (r1 : Rd H x [v1]) (r2 : Rd H y [v2]) :
    resS P S H [.cell a t1, .cell b t2] = some [v1, v2] := by
  simp only [resS, ha, hb, load_one h1 r1, load_one h2 r2]
section
variable {kn : FuncId → Option Bool} {lo : Nat} {H : Hp}
theorem temps_ok {g : Ng} (v : g.Vd) (hs : Sl H g.sa g.sn g.scap (spc g.ss)) (hr : Sl H g.ra g.rn g.rcap (rdc g.rs)) (hlo : lo ≤ H.next) :
    ∃ w H', FnX Tryz.prog kn lo 40 [.agg g.v.toArray] H w H' ∧ Keep H H' [] ∧
      ((g.has = true ∧ ∃ b, w = .tuple #[slv b g.n g.n, iv 0] ∧ H.next ≤ b ∧ Cl H' b (spc g.spans)) ∨ (g.has = false ∧ w = .tuple #[.slice none 0 0, iv 6])) := by
  refine fnX_of_triE (P := Tryz.prog) (kn := kn) (lo := lo) (args := [.agg g.v.toArray]) (H := H) (Q := fun w H' => Keep H H' [] ∧
      ((g.has = true ∧ ∃ b, w = .tuple #[slv b g.n g.n, iv 0] ∧ H.next ≤ b ∧ Cl H' b (spc g.spans)) ∨ (g.has = false ∧ w = .tuple #[.slice none 0 0, iv 6]))) Tryz.func40 B40 (by rw [N40]; simp) ?_
  rw [N40, Z40]
  refine TriR.seqRR S40 (triR_reg D40a P40a ?_)
  refine Or.inl ?_
  intro H1 hH1; obtain ⟨k1, n1, c1⟩ := new_facts hH1; clear hH1
  have c1 : Cl H1 H.next g.v := c1
  refine Or.inl ?_
  intro H2 hH2; obtain ⟨k2, n2, c2⟩ := new_facts hH2; clear hH2
  refine Or.inl ?_
  intro H3 hH3; obtain ⟨k3, n3, c3⟩ := new_facts hH3; clear hH3
  refine TriR.seqRR S40b (triR_reg D40b P40b ?_)
  refine Or.inl ?_
  refine And.intro rfl (Exists.intro (.func (.func 63) #[] #[pt H1.next, pt H2.next]) (And.intro (by kernel_rfl) ?_))
  refine And.intro rfl ?_
  have k13 := k1.trans (k2.trans k3)
  have c1 := k3.cl (k2.cl c1 (by simp)) (by simp)
  have c2 := k3.cl c2 (by simp)
  have hs3 := k13.sl0 hs
  have hr3 := k13.sl0 hr
  obtain ⟨bs1, H4, f4, k4, l4, c4⟩ := least_ok (kn := kn) (lo := H3.next) v hs3 hr3 (Nat.le_refl _)
  have hs4 := k4.sl0 hs3
  have hr4 := k4.sl0 hr3
  have c14 := k4.cl c1 (by simp)
  obtain ⟨bs2, H5, f5, k5, l5, c5⟩ := great_ok (kn := kn) (lo := lo) v hs4 hr4 (by have := k13.1; have := k4.1; omega)
  have c45 := k5.cl c4 (by simp)
  have k15 := k13.trans (k4.trans k5)
  have k35 := k4.trans k5
  have hsp := spans_ok (kn := kn) (lo := lo) (c45.sl (Nat.le_refl g.n)) (c5.sl (Nat.le_refl g.n)) (by simp) (by simp) (by have := v.n96; omega) (by have := k15.1; omega)
  rw [S40c]
  refine TriR.of (Tri.seq ?_)
  rcases hsp with ⟨w, H6, f6, hall, b, rfl, k6, l6, c6⟩ | ⟨w, H6, f6, rfl, hall, k6⟩
  · have k16 := k15.trans k6
    have c26 := (k35.trans k6).cl c2 (by simp)
    have c36 := (k35.trans k6).cl c3 (by simp)
    refine wC_sound false _ L40x1 ?_
    refine wD_dreg ?_
    refine wD_lda rfl c1.rd (show row 5 g.v 0 = some g.v from rfl) ?_
    refine wD_callh rfl rfl (callX_args f4) ?_
    refine wD_lda rfl c14.rd (show row 5 g.v 0 = some g.v from rfl) ?_
    refine wD_callf rfl (callX_args f5) ?_
    refine wD_callf rfl (callX_args f6) ?_
    refine wD_st rfl rfl c26 (by have := k1.1; omega) rfl rfl (by decide) ?_
    intro H7 k7 n7 c7
    have c37 := k7.cl c36 (by simp; omega)
    refine wD_st rfl rfl c37 (by have := k1.1; have := k2.1; omega) rfl rfl (by decide) ?_
    intro H8 k8 n8 c8
    have c78 := k8.cl c7 (by simp; omega)
    refine wD_end ?_ ?_
    · repeat' first | exact True.intro | exact (fun h => h) | refine And.intro ?_ ?_
    · have d7 : Cl H8 H1.next [slv b g.n g.n] := c78
      have d8 : Cl H8 H2.next [iv 0] := c8
      refine wC_sound false .ret (rc := .ret) rfl ?_
      refine ⟨63, #[pt H1.next, pt H2.next], rfl, Or.inl ⟨Or.inr rfl, H8, def63_none, [slv b g.n g.n, iv 0], res2 rfl rfl a22 a28 d7.rd d8.rd, ?_, Or.inl ⟨hall, b, rfl, by have := k15.1; omega, ?_⟩⟩⟩
      · exact (k16.new k7 (fun x hx => .inr (by simp at hx; have := k1.1; omega))).new k8 (fun x hx => .inr (by simp at hx; have := k1.1; have := k2.1; omega))
      · exact k8.cl (k7.cl c6 (by simp; have := k35.1; omega)) (by simp; have := k35.1; omega)
  · have k16 := k15.trans k6
    have c26 := (k35.trans k6).cl c2 (by simp)
    have c36 := (k35.trans k6).cl c3 (by simp)
    refine tri_dregP D40c L40x1 ?_
    refine Or.inl (Exists.intro _ (Exists.intro _ (And.intro c1.of (And.intro (show row 5 g.v 0 = some g.v from rfl) (And.intro c1.lt ?_)))))
    refine Or.inl (Exists.intro _ (Exists.intro _ (And.intro (callX_args f4) ?_)))
    refine Or.inl (Exists.intro _ (Exists.intro _ (And.intro c14.of (And.intro (show row 5 g.v 0 = some g.v from rfl) (And.intro c14.lt ?_)))))
    refine Or.inl (Exists.intro _ (Exists.intro _ (And.intro (callX_args f5) ?_)))
    refine Or.inr (Exists.intro _ (Exists.intro _ (And.intro (callP_args f6) (And.intro ?_ (And.intro (show behindOk [63, 31, 15, 7, 0, 1, 0].reverse 5 = true by kernel_rfl) ?_)))))
    · repeat' first | exact True.intro | exact (fun h => h) | refine And.intro ?_ ?_
    · obtain ⟨H7, f7, d7, d8, k7⟩ := def63_some (kn := kn) (lo := lo) c26 c36 (by omega) (by have := k1.1; omega) (by have := k1.1; have := k2.1; omega)
      refine ⟨63, #[pt H1.next, pt H2.next], rfl, Or.inr ⟨noneV, rfl, H7, f7, [.slice none 0 0, iv 6], res2 rfl rfl a22 a28 d7.rd d8.rd, ?_, Or.inr ⟨hall, rfl⟩⟩⟩
      exact k16.new k7 (fun x hx => .inr (by simp at hx; have := k1.1; have := k2.1; omega))
end
end Go.Ax
/-
  Frost: Temps (17): ErrArg, ErrState, or the spans.
-/
namespace Go.Ax
open Go Go.RowKit Go.Proofs

section
variable {kn : FuncId → Option Bool} {lo : Nat} {H : Hp}
/-- what Temps answers -/
def Ng.Tm (g : Ng) (H : Hp) (w : Value) (H' : Hp) : Prop :=
  (g.ok = true ∧ g.has = true ∧ ∃ b, w = .tuple #[slv b g.n g.n, iv 0] ∧ H.next ≤ b ∧ Cl H' b (spc g.spans)) ∨ (g.ok = true ∧ g.has = false ∧ w = .tuple #[.slice none 0 0, iv 6]) ∨ (g.ok = false ∧ w = .tuple #[.slice none 0 0, iv 1])
theorem tm_ok {g : Ng} (hn : g.ok = true → g.slots = (g.n : Int)) (hs : Sl H g.sa g.sn g.scap (spc g.ss)) (hr : Sl H g.ra g.rn g.rcap (rdc g.rs)) (hsn : g.ss.length = g.sn) (hrn : g.rs.length = g.rn) (hlo : lo ≤ H.next) :
    ∃ w H', FnX Tryz.prog kn lo 17 [.agg g.v.toArray] H w H' ∧ Keep H H' [] ∧ g.Tm H w H' := by
  refine fnX_low (kn := kn) (lo := lo) (H := H) (args := [.agg g.v.toArray]) (Q := fun w H' => Keep H H' [] ∧ g.Tm H w H') Tryz.func17 B17 N17 Z17 L17 (by simp) ?_
  intro H1 hH1; obtain ⟨k1, n1, c1⟩ := new_facts hH1; clear hH1
  have c1 : Cl H1 H.next g.v := c1
  refine Exists.intro _ (Exists.intro _ (And.intro c1.of (And.intro (show row 5 g.v 0 = some g.v from rfl) ?_)))
  have hlo1 : lo ≤ H1.next := by have := k1.1; omega
  refine callB (night_ok (k1.sl0 hs) (k1.sl0 hr) hsn hrn hlo1) ?_
  intro t2 H2 h2 k2
  have k12 := k1.trans k2
  have c2 := k2.cl c1 (by simp)
  refine And.intro rfl (Exists.intro (.bool (!t2)) (And.intro rfl ?_))
  cases t2
  · refine condT ?_
    exact And.intro trivial (Exists.intro _ (And.intro rfl ⟨k12, Or.inr (Or.inr ⟨h2, rfl⟩)⟩))
  refine condF ?_
  have v := Ng.vd h2 (hn h2) hsn hrn
  obtain ⟨w, H3, f3, k3, hcase⟩ := temps_ok (kn := kn) (lo := lo) v (k12.sl0 hs) (k12.sl0 hr) (by have := k12.1; omega)
  refine Exists.intro _ (Exists.intro _ (And.intro c2.of (And.intro (show row 5 g.v 0 = some g.v from rfl) ?_)))
  refine Exists.intro _ (Exists.intro _ (And.intro (callX_args f3) ?_))
  have k13 := k12.trans k3
  rcases hcase with ⟨ha, b, rfl, hb, c3⟩ | ⟨ha, rfl⟩
  · refine And.intro rfl (Exists.intro (slv b g.n g.n) (And.intro (by kernel_rfl) ?_))
    refine And.intro rfl (Exists.intro (iv 0) (And.intro (by kernel_rfl) ?_))
    exact And.intro trivial (Exists.intro _ (And.intro rfl ⟨k13, Or.inl ⟨h2, ha, b, rfl, by have := k12.1; omega, c3⟩⟩))
  · refine And.intro rfl (Exists.intro (.slice none 0 0) (And.intro (by kernel_rfl) ?_))
    refine And.intro rfl (Exists.intro (iv 6) (And.intro (by kernel_rfl) ?_))
    exact And.intro trivial (Exists.intro _ (And.intro rfl ⟨k13, Or.inr (Or.inl ⟨h2, ha, rfl⟩)⟩))
end
end Go.Ax
/-
  Frost, for FrostBetween: a night of one reading, and steps.
-/
namespace Go.Ax
open Go Go.RowKit Go.Proofs

theorem putRow_all : ∀ (z vs pre : List Value), z.length = vs.length → putRow (pre ++ z) pre.length vs = pre ++ vs
  | [], [], pre, _ => by simp [putRow]
  | [], _ :: _, _, h => by simp at h
  | _ :: _, [], _, h => by simp at h
  | y :: z, v :: vs, pre, h => by
    rw [putRow, List.set_append_right _ _ (Nat.le_refl _), Nat.sub_self, List.set_cons_zero]
    have := putRow_all z vs (pre ++ [v]) (by simpa using h)
    simp only [List.append_assoc, List.singleton_append, List.length_append, List.length_singleton] at this
    exact this
section
variable {P : Program} {lo : Nat}
theorem heap_build1 {n : Nat} {S : Rg} {H : Hp} {d : Option Tmp} {t e ty : TypeId} {p : String} {size : Nat} {z v : Value} {x : Operand} (he : sliceElem P t = some (e, size)) (hz : zeroOf P e = some z) (hzs : z.cells.toList.length = size) (hx : evS S x = some v) (hv : v.cells.toList.length = size) (hs : size ≤ 16777216) :
    heapOp P lo (frS n S) H ⟨d, .buildSlice t 1 #[(0, x)], ty, p, #[], none⟩ = some (.val (.slice (some ⟨H.next, 0, none⟩) 1 1) (H.new (.cells v.cells.toList e false)), .heavy) := by
  have hp := putRow_all z.cells.toList v.cells.toList [] (by rw [hzs, hv])
  simp only [List.nil_append, List.length_nil] at hp
  have h2 : Nat.ble (0 + size) z.cells.toList.length = true := Nat.ble_eq_true_of_le (by rw [hzs]; omega)
  unfold heapOp
  simp only [partsOf, ev_frS, hx, he, hz, Nat.one_mul, Nat.ble_eq_true_of_le hs, cond_true, zeros, List.append_nil, fillL, Nat.zero_mul, hv, Nat.beq_refl, h2, Bool.and_self, hp]
end
theorem conv_8 (x : Nat) (h2 : x ≤ 255) {S : Rg} {n : Nat} {o : Operand} {d : Option Nat} (hx : evS S o = some (.int .u8 (x : Int))) : pureOp Tryz.prog (frS n S) ⟨d, .convert 5 3 o, 3, "", #[], none⟩ = some (iv x) := by
  have e : ∀ y : Int, prun Tryz.prog (Go.convert 5 3 (.int .u8 y)) = some (.int .i64 (IntKind.i64.wrap y)) := fun y => by kernel_rfl
  unfold pureOp
  simp only [ev_frS, hx, flat, flat1, cond_true, e, wrap_i64 (x := (x : Int)) ⟨(by omega), (by omega)⟩]
theorem pure_rdg {n : Nat} {S : Rg} {d : Option Tmp} {x : Operand} {p : String} {a : Int} (hx : evS S x = some (iv a)) :
    pureOp Tryz.prog (frS n S) ⟨d, .build 57 #[(2, x)], 57, p, #[], none⟩ = some (.agg #[iv 0, iv 0, iv a]) := by
  have hz : zeroOf Tryz.prog 57 = some (.agg #[iv 0, iv 0, iv 0]) := by kernel_rfl
  have hu : ∃ fs, Tryz.prog.underlying 57 = some (.struct fs) ∧ placesOf Tryz.prog fs.toList = some [(0, 1), (1, 1), (2, 1)] := by
    have h : (match Tryz.prog.underlying 57 with | some (.struct fs) => placesOf Tryz.prog fs.toList | _ => none) = some [(0, 1), (1, 1), (2, 1)] := by kernel_rfl
    split at h
    · rename_i fs e; exact ⟨fs, e, h⟩
    · cases h
  obtain ⟨fs, h1, h2⟩ := hu
  unfold pureOp
  simp only [partsOf, ev_frS, hx, hz, h1, h2]
  rfl
theorem pure_night {n : Nat} {S : Rg} {d : Option Tmp} {x y z : Operand} {p : String} {a b : Int} {s1 s2 n1 n2 c1 c2 : Nat} {w : Operand} (hx : evS S x = some (iv a)) (hy : evS S y = some (iv b)) (hz : evS S z = some (.slice (some ⟨s1, 0, none⟩) n1 c1)) (hw : evS S w = some (.slice (some ⟨s2, 0, none⟩) n2 c2)) :
    pureOp Tryz.prog (frS n S) ⟨d, .build 25 #[(0, x), (1, y), (2, .const (.int .i64 10)), (3, z), (4, w)], 25, p, #[], none⟩ = some (.agg #[iv a, iv b, iv 10, .slice (some ⟨s1, 0, none⟩) n1 c1, .slice (some ⟨s2, 0, none⟩) n2 c2]) := by
  have hz0 : zeroOf Tryz.prog 25 = some (.agg #[iv 0, iv 0, iv 0, .slice none 0 0, .slice none 0 0]) := by kernel_rfl
  have hu : ∃ fs, Tryz.prog.underlying 25 = some (.struct fs) ∧ placesOf Tryz.prog fs.toList = some [(0, 1), (1, 1), (2, 1), (3, 1), (4, 1)] := by
    have h : (match Tryz.prog.underlying 25 with | some (.struct fs) => placesOf Tryz.prog fs.toList | _ => none) = some [(0, 1), (1, 1), (2, 1), (3, 1), (4, 1)] := by kernel_rfl
    split at h
    · rename_i fs e; exact ⟨fs, e, h⟩
    · cases h
  obtain ⟨fs, h1, h2⟩ := hu
  have h10 : evS S (.const (.int .i64 10)) = some (iv 10) := rfl
  unfold pureOp
  simp only [partsOf, ev_frS, hx, hy, hz, hw, h10, hz0, h1, h2]
  rfl
theorem z57 : zeroOf Tryz.prog 57 = some (.agg #[iv 0, iv 0, iv 0]) := by kernel_rfl
theorem se23 : sliceElem Tryz.prog 23 = some (57, 3) := by kernel_rfl

/-- a night with one sensor and one reading, in slot 0 -/
def nightOf (gap fall v b1 b2 : Int) (x y : Nat) : Ng := ⟨gap + 1, fall, 10, (gap + 1).toNat, some ⟨x, 0, none⟩, 1, 1, [(b1, b2)], some ⟨y, 0, none⟩, 1, 1, [⟨0, 0, v⟩]⟩
section
variable {gap fall v b1 b2 : Int} {x y : Nat} (hg : 0 ≤ gap ∧ gap ≤ 95) (hf : 0 ≤ fall ∧ fall ≤ 1000) (hb : (-1000 ≤ b1 ∧ b1 ≤ b2) ∧ b2 ≤ 1000)
include hg hf hb
theorem one_night_ok : (nightOf gap fall v b1 b2 x y).ok = inB v (-5000) 5000 := by
  have h1 : inB (gap + 1) 1 96 = true := by simp [inB]; omega
  have h2 : inB fall 0 1000 = true := by simp [inB]; omega
  have h3 : spanB b1 b2 (-1000) 1000 = true := by simp [spanB]; omega
  have h4 : inB 0 0 (gap + 1 - 1) = true := by simp [inB]; omega
  have e : (nightOf gap fall v b1 b2 x y).ok = (inB (gap + 1) 1 96 && inB fall 0 1000 && inB 10 0 1000 && !(decide (((1 : Nat) : Int) > 8)) && !(decide (((1 : Nat) : Int) > 128)) && (spanB b1 b2 (-1000) 1000 && true) && ((inB 0 0 (((1 : Nat) : Int) - 1) && inB 0 0 (gap + 1 - 1) && inB v (-5000) 5000) && true)) := rfl
  rw [e, h1, h2, h3, h4]
  simp [inB]
omit hg hb
theorem one_least (i : Nat) : (nightOf gap fall v b1 b2 x y).least i = max (-5000) (v - b2 - (i : Int) * fall) := by
  have e : (nightOf gap fall v b1 b2 x y).least i = max (-5000) (v - b2 - max 0 (0 - (i : Int)) * 10 - max 0 ((i : Int) - 0) * fall) := rfl
  have h1 : max 0 (0 - (i : Int)) = 0 := by omega
  have h2 : max 0 ((i : Int) - 0) = (i : Int) := by omega
  rw [e, h1, h2, Int.zero_mul, Int.sub_zero]
omit hf
theorem one_great (i : Nat) : (nightOf gap fall v b1 b2 x y).great i = min 5000 (v - b1 + (i : Int) * 10) := by
  have e : (nightOf gap fall v b1 b2 x y).great i = min 5000 (v - b1 + max 0 (0 - (i : Int)) * fall + max 0 ((i : Int) - 0) * 10) := rfl
  have h1 : max 0 (0 - (i : Int)) = 0 := by omega
  have h2 : max 0 ((i : Int) - 0) = (i : Int) := by omega
  rw [e, h1, h2, Int.zero_mul, Int.add_zero]
end
theorem Ng.spans_get (g : Ng) (i : Nat) (h : i < g.n) : g.spans[i]? = some (g.least i, g.great i) := by
  unfold Ng.spans
  rw [List.getElem?_zip_eq_some]
  simp [h]
theorem Ng.spans_len (g : Ng) : g.spans.length = g.n := by unfold Ng.spans; simp
theorem Ng.mem_spans (g : Ng) {p : Int × Int} (h : p ∈ g.spans) : ∃ i, i < g.n ∧ p = (g.least i, g.great i) := by
  obtain ⟨i, hi⟩ := List.getElem?_of_mem h
  have hlt : i < g.n := by rw [← g.spans_len]; exact (List.getElem?_eq_some_iff.1 hi).1
  rw [g.spans_get i hlt] at hi
  cases hi
  exact ⟨i, hlt, rfl⟩
section
variable {gap fall v b1 b2 : Int} {x y : Nat} (hg : 0 ≤ gap ∧ gap ≤ 95) (hf : 0 ≤ fall ∧ fall ≤ 1000) (hb : (-1000 ≤ b1 ∧ b1 ≤ b2) ∧ b2 ≤ 1000)
include hg hf hb
theorem one_has (h1 : v - b2 ≤ 5000) (h2 : -5000 ≤ v - b1) : (nightOf gap fall v b1 b2 x y).has = true := by
  unfold Ng.has
  rw [List.all_eq_true]
  intro p hp
  obtain ⟨i, hi, rfl⟩ := Ng.mem_spans _ hp
  rw [one_least hf, one_great]
  have h3 : 0 ≤ (i : Int) * fall := Int.mul_nonneg (by omega) hf.1
  simp only [Bool.not_eq_true', decide_eq_false_iff_not]
  omega
/-- a reading that shows what Alarm tells, or more -/
theorem one_above {bud m : Int} (hm : 0 ≤ m) (hv : v = bud + 1 + b2 + gap * fall + m) : ∀ p ∈ (nightOf gap fall v b1 b2 x y).spans, ¬ p.1 ≤ bud := by
  intro p hp
  obtain ⟨i, hi, rfl⟩ := Ng.mem_spans _ hp
  have hi' : i < (gap + 1).toNat := hi
  have h3 : (i : Int) * fall ≤ gap * fall := Int.mul_le_mul_of_nonneg_right (by omega) hf.1
  simp only [one_least hf]
  omega
/-- a reading that shows less by one -/
theorem one_below {bud : Int} (hbud : -5000 ≤ bud) (hv : v = bud + 1 + b2 + gap * fall - 1) : ∃ p, (nightOf gap fall v b1 b2 x y).spans[gap.toNat]? = some p ∧ p.1 ≤ bud := by
  have hi : gap.toNat < (nightOf gap fall v b1 b2 x y).n := by show gap.toNat < (gap + 1).toNat; omega
  refine ⟨_, Ng.spans_get _ _ hi, ?_⟩
  have e : ((gap.toNat : Nat) : Int) = gap := by omega
  simp only [one_least hf, e]
  omega
end
end Go.Ax
/-
  Frost: the law FrostBetween.
-/
namespace Go.Ax
open Go Go.RowKit Go.Proofs

section
variable {kn : FuncId → Option Bool} {lo : Nat} {H : Hp}
theorem between_tail (hkn : kn 16 = some true) {S : Rg} {K : Exit → Rg → Hp → Prop} {bud b1 b2 fall gap v : Int} {b6 b13 x y : Nat} (hbud : -5000 ≤ bud ∧ bud ≤ 5000) (hg : 0 ≤ gap ∧ gap ≤ 95) (hf : 0 ≤ fall ∧ fall ≤ 1000) (hb : (-1000 ≤ b1 ∧ b1 ≤ b2) ∧ b2 ≤ 1000)
    (c6 : Cl H b6 [iv b1, iv b2]) (c13 : Cl H b13 (nightOf gap fall v b1 b2 x y).v) (cx : Cl H x (spc [(b1, b2)])) (cy : Cl H y (rdc [⟨0, 0, v⟩])) (n6 : b6 ≠ y) (n13 : b13 ≠ y) (nx : x ≠ y) (hly : lo ≤ y) (hlo : lo ≤ H.next)
    (hS : Subs [(0, iv bud), (3, iv gap), (6, pt b6), (11, iv (bud + 1 + b2 + gap * fall)), (13, pt b13)] S) (hK : ∀ S' H', lk S' 10 = some (.bool true) → K .ret S' H') :
    Tri Tryz.prog kn lo 156 false (at_ Tryz.f12 [1, 1, 1, 1, 1, 1]) S H K := by
  have al : ∀ (H9 : Hp) (K : Value → Hp → Prop), K (.bool true) H9 → ∃ v H', CallsX Tryz.prog kn lo (.fn (.func 16) #[]) [] H9 v H' ∧ K v H' := fun H9 K h => ⟨_, _, callX_known hkn, h⟩
  have hpr := prod_bound (a := gap) (by omega) hf
  refine tri_piece L12r hS ?_
  refine Exists.intro _ (Exists.intro _ (And.intro c13.of (And.intro (show _ = some (.slice (some ⟨y, 0, none⟩) 1 1) from rfl) ?_)))
  refine And.intro ⟨by omega, by omega⟩ ?_
  refine Exists.intro 0 (And.intro rfl (And.intro (by omega) ?_))
  obtain ⟨_, ey, ly, gy⟩ := id cy
  refine Exists.intro _ (Exists.intro _ (Exists.intro _ (And.intro gy (And.intro hly (And.intro rfl (And.intro rfl (And.intro (by simp [rdc, Rdg.v]) ?_)))))))
  intro H1 hH1; obtain ⟨k1, n1, c1⟩ := up_facts cy hH1; clear hH1
  have c1 : Cl H1 y (rdc [⟨0, 0, bud + 1 + b2 + gap * fall - 1⟩]) := c1
  have c6 := k1.cl c6 (by simpa using n6)
  have c13 := k1.cl c13 (by simpa using n13)
  have c13 : Cl H1 b13 (nightOf gap fall (bud + 1 + b2 + gap * fall - 1) b1 b2 x y).v := c13
  have cx := k1.cl cx (by simpa using nx)
  refine Exists.intro _ (Exists.intro _ (And.intro c13.of (And.intro (show row 5 (nightOf gap fall (bud + 1 + b2 + gap * fall - 1) b1 b2 x y).v 0 = some (nightOf gap fall (bud + 1 + b2 + gap * fall - 1) b1 b2 x y).v from rfl) ?_)))
  obtain ⟨w, H2, f2, k2, hcase⟩ := tm_ok (kn := kn) (lo := lo) (g := nightOf gap fall (bud + 1 + b2 + gap * fall - 1) b1 b2 x y) (H := H1) (fun _ => by show gap + 1 = (((gap + 1).toNat : Nat) : Int); omega) (cx.sl (Nat.le_refl 1)) (c1.sl (Nat.le_refl 1)) rfl rfl (by have := k1.1; omega)
  refine Exists.intro _ (Exists.intro _ (And.intro (callX_args f2) ?_))
  have c6 := k2.cl c6 (by simp)
  have hok := one_night_ok (v := bud + 1 + b2 + gap * fall - 1) (x := x) (y := y) hg hf hb
  rcases hcase with ⟨ha, hh, b, rfl, lb, cb⟩ | hbad
  · refine And.intro rfl (Exists.intro (slv b (gap + 1).toNat (gap + 1).toNat) (And.intro (by kernel_rfl) ?_))
    refine And.intro rfl (Exists.intro (iv 0) (And.intro (by kernel_rfl) ?_))
    refine condF ?_
    refine And.intro ⟨by omega, by omega⟩ ?_
    intro t ht; cases t
    · simp only [beq_eq_false_iff_ne] at ht; have : (((gap + 1).toNat : Nat) : Int) = gap + 1 := by omega
      exact absurd this ht
    refine Exists.intro gap.toNat (And.intro (by omega) (And.intro (by omega) ?_))
    obtain ⟨p, hp, hle⟩ := one_below (v := bud + 1 + b2 + gap * fall - 1) (x := x) (y := y) (bud := bud) hg hf hb hbud.1 rfl
    refine Exists.intro _ (Exists.intro _ (And.intro cb.of (And.intro (span_get (k := gap.toNat) (l := p.1) (h := p.2) hp).1 ?_)))
    intro t ht; cases t
    · have := of_decide_eq_false ht; omega
    refine And.intro rfl (Exists.intro (.bool true) (And.intro rfl ?_))
    refine al _ _ ?_
    refine And.intro rfl (Exists.intro (.bool true) (And.intro rfl ?_))
    exact hK _ _ rfl
  · have hne : ¬ ((-5000 ≤ bud + 1 + b2 + gap * fall - 1 ∧ bud + 1 + b2 + gap * fall - 1 ≤ 5000) ∧ bud + 1 + b2 + gap * fall - 1 - b2 ≤ 5000) := fun ⟨q1, q2⟩ => by
      have hok1 : (nightOf gap fall (bud + 1 + b2 + gap * fall - 1) b1 b2 x y).ok = true := by rw [hok]; simp only [inB, Bool.and_eq_true, decide_eq_true_eq]; omega
      have hhas : (nightOf gap fall (bud + 1 + b2 + gap * fall - 1) b1 b2 x y).has = true := one_has hg hf hb (by omega) (by omega)
      rcases hbad with ⟨_, h, _⟩ | ⟨h, _⟩
      · rw [hhas] at h; cases h
      · rw [hok1] at h; cases h
    obtain ⟨e, he0, rfl⟩ : ∃ e : Int, e ≠ 0 ∧ w = .tuple #[.slice none 0 0, iv e] := by
      rcases hbad with ⟨_, _, h⟩ | ⟨_, h⟩
      · exact ⟨6, by decide, h⟩
      · exact ⟨1, by decide, h⟩
    refine And.intro rfl (Exists.intro (.slice none 0 0) (And.intro (by kernel_rfl) ?_))
    refine And.intro rfl (Exists.intro (iv e) (And.intro (by kernel_rfl) ?_))
    have hcond : (e != 0) = true := by simpa using he0
    refine And.intro (fun _ => ?_) (fun h => by rw [hcond] at h; cases h)
    refine And.intro ⟨by omega, by omega⟩ ?_
    intro t1 h1; cases t1
    rotate_left
    · refine And.intro rfl (Exists.intro (.bool true) (And.intro rfl ?_))
      refine And.intro rfl (Exists.intro (.bool true) (And.intro rfl ?_))
      refine al _ _ ?_
      refine And.intro rfl (Exists.intro (.bool true) (And.intro rfl ?_))
      exact hK _ _ rfl
    refine And.intro ⟨by omega, by omega⟩ ?_
    intro t2 h2; cases t2
    rotate_left
    · refine And.intro rfl (Exists.intro (.bool true) (And.intro rfl ?_))
      refine And.intro rfl (Exists.intro (.bool true) (And.intro rfl ?_))
      refine al _ _ ?_
      refine And.intro rfl (Exists.intro (.bool true) (And.intro rfl ?_))
      exact hK _ _ rfl
    refine And.intro rfl (Exists.intro (.bool false) (And.intro rfl ?_))
    refine And.intro ⟨by omega, by omega⟩ ?_
    refine Exists.intro _ (Exists.intro _ (And.intro c6.of (And.intro (show _ = some (iv b2) from rfl) ?_)))
    refine And.intro ⟨by omega, by omega⟩ ?_
    intro t3 h3; cases t3
    · have := of_decide_eq_false h1; have := of_decide_eq_false h2; have := of_decide_eq_false h3; omega
    refine And.intro rfl (Exists.intro (.bool true) (And.intro rfl ?_))
    refine al _ _ ?_
    refine And.intro rfl (Exists.intro (.bool true) (And.intro rfl ?_))
    exact hK _ _ rfl

theorem law_between (hkn : kn 16 = some true) {bud b1 b2 fall gap : Int} {m : Nat} (hm : m ≤ 255) (hlo : lo ≤ H.next) :
    ∃ H', FnX Tryz.prog kn lo 12 [iv bud, spv b1 b2, iv fall, iv gap, .int .u8 (m : Int)] H (.bool true) H' := by
  have key := fnX_lv (kn := kn) (lo := lo) (H := H) (args := [iv bud, spv b1 b2, iv fall, iv gap, .int .u8 (m : Int)]) (Q := fun v H' => v = .bool true) Tryz.func12 B12 N12 Z12 V12 (by simp) ?_
  · obtain ⟨v, H', hf, rfl⟩ := key; exact ⟨H', hf⟩
  have al : ∀ (H9 : Hp) (K : Value → Hp → Prop), K (.bool true) H9 → ∃ v H', CallsX Tryz.prog kn lo (.fn (.func 16) #[]) [] H9 v H' ∧ K v H' := fun H9 K h => ⟨_, _, callX_known hkn, h⟩
  intro H1 hH1; obtain ⟨k1, n1, c1⟩ := new_facts hH1; clear hH1
  have c1 : Cl H1 H.next [iv b1, iv b2] := c1
  refine Exists.intro _ (Exists.intro _ (And.intro c1.of (And.intro (show row 2 _ _ = some [iv b1, iv b2] from rfl) ?_)))
  obtain ⟨H2, f2, k2⟩ := alarm_ok (kn := kn) (lo := lo) (H := H1) (bud := bud) (b1 := b1) (b2 := b2) (fall := fall) (gap := gap)
  refine Exists.intro _ (Exists.intro _ (And.intro (callX_args f2) ?_))
  refine And.intro rfl (Exists.intro (iv (alarmV bud b1 b2 fall gap).1) (And.intro (by kernel_rfl) ?_))
  refine And.intro rfl (Exists.intro (iv (alarmV bud b1 b2 fall gap).2) (And.intro (by kernel_rfl) ?_))
  have k12 := k1.trans k2
  have c2 := k2.cl c1 (by simp)
  cases hal : alarmOk bud b1 b2 fall gap with
  | false =>
    have e : alarmV bud b1 b2 fall gap = (0, 2) := by unfold alarmV; rw [if_neg (by rw [hal]; decide)]
    rw [e]
    refine condT ?_
    intro t ht; cases t
    · cases ht
    intro t ht; cases t
    · cases ht
    refine And.intro rfl (Exists.intro (.bool true) (And.intro rfl ?_))
    refine al _ _ ?_
    refine And.intro rfl (Exists.intro (.bool true) (And.intro rfl ?_))
    exact And.intro trivial (Exists.intro _ (And.intro rfl rfl))
  | true =>
    have e : alarmV bud b1 b2 fall gap = (bud + 1 + b2 + gap * fall, 0) := by unfold alarmV; rw [if_pos hal]
    rw [e]
    have hal2 := hal
    simp only [alarmOk, Bool.and_eq_true, inB, spanB, decide_eq_true_eq] at hal2
    obtain ⟨⟨⟨d1, d2⟩, d3⟩, d4⟩ := hal2
    have hpr := prod_bound d4 d3
    refine condF ?_
    intro t ht; cases t
    rotate_left
    · have := of_decide_eq_true ht; omega
    intro t ht; cases t
    rotate_left
    · have hge := of_decide_eq_true ht
      have e96 : gap = 96 := by omega
      subst e96
      refine And.intro rfl (Exists.intro (.bool true) (And.intro rfl ?_))
      refine condT ?_
      intro t ht; cases t
      · cases ht
      refine al _ _ ?_
      refine And.intro rfl (Exists.intro (.bool true) (And.intro rfl ?_))
      exact And.intro trivial (Exists.intro _ (And.intro rfl rfl))
    have hlt := of_decide_eq_false ht
    refine And.intro rfl (Exists.intro (.bool false) (And.intro rfl ?_))
    refine condF ?_
    refine And.intro ⟨by omega, by omega⟩ ?_
    refine Exists.intro _ (Exists.intro _ (And.intro c2.of (And.intro (show row 2 _ _ = some [iv b1, iv b2] from rfl) ?_)))
    obtain ⟨H3, hH3⟩ : ∃ H3, H2.new (.cells [iv b1, iv b2] 48 false) = H3 := ⟨_, rfl⟩
    refine And.intro rfl (Or.inr (And.intro (by kernel_rfl) (Exists.intro (.slice (some ⟨H2.next, 0, none⟩) 1 1) (Exists.intro H3 (Exists.intro .heavy (And.intro ((heap_build1 (v := .agg #[iv b1, iv b2]) se22 z48 rfl rfl rfl (by decide)).trans (by rw [← hH3]; rfl)) (And.intro (fun b e => by cases e) ?_)))))))
    obtain ⟨k3, n3, c3⟩ := new_facts hH3; clear hH3
    have c3 : Cl H3 H2.next (spc [(b1, b2)]) := c3
    refine And.intro rfl (Exists.intro (iv m) (And.intro (conv_8 m hm rfl) ?_))
    refine And.intro ⟨by omega, by omega⟩ ?_
    refine And.intro rfl (Exists.intro _ (And.intro (pure_rdg rfl) ?_))
    obtain ⟨H4, hH4⟩ : ∃ H4, H3.new (.cells [iv 0, iv 0, iv (bud + 1 + b2 + gap * fall + (m : Int))] 57 false) = H4 := ⟨_, rfl⟩
    refine And.intro rfl (Or.inr (And.intro (by kernel_rfl) (Exists.intro (.slice (some ⟨H3.next, 0, none⟩) 1 1) (Exists.intro H4 (Exists.intro .heavy (And.intro ((heap_build1 (v := .agg #[iv 0, iv 0, iv (bud + 1 + b2 + gap * fall + (m : Int))]) se23 z57 rfl rfl rfl (by decide)).trans (by rw [← hH4]; rfl)) (And.intro (fun b e => by cases e) ?_)))))))
    obtain ⟨k4, n4, c4⟩ := new_facts hH4; clear hH4
    have c4 : Cl H4 H3.next (rdc [⟨0, 0, bud + 1 + b2 + gap * fall + (m : Int)⟩]) := c4
    refine And.intro rfl (Exists.intro _ (And.intro (pure_night rfl rfl rfl rfl) ?_))
    intro H5 hH5; obtain ⟨k5, n5, c5⟩ := new_facts hH5; clear hH5
    obtain ⟨_, e5, l5, g5⟩ := id c5
    refine Exists.intro _ (Exists.intro _ (Exists.intro _ (And.intro g5 (And.intro ?_ (And.intro rfl (And.intro rfl (And.intro (by simp) ?_)))))))
    · have := k12.1; have := k3.1; have := k4.1; omega
    intro H6 hH6; obtain ⟨k6, n6, c6⟩ := up_facts c5 hH6; clear hH6
    have c6 : Cl H6 H4.next (nightOf gap fall (bud + 1 + b2 + gap * fall + (m : Int)) b1 b2 H2.next H3.next).v := c6
    have k26 : Keep H2 H6 [] := (k3.trans (k4.trans k5)).new k6 (fun b hb => .inr (by simp at hb; have := k3.1; have := k4.1; omega))
    have c26 := k26.cl c2 (by simp)
    have m3 := k3.1
    have m4 := k4.1
    have c36 : Cl H6 H2.next (spc [(b1, b2)]) := k6.cl (k5.cl (k4.cl c3 (by simp)) (by simp)) (by simp; omega)
    have c46 : Cl H6 H3.next (rdc [⟨0, 0, bud + 1 + b2 + gap * fall + (m : Int)⟩]) := k6.cl (k5.cl c4 (by simp)) (by simp; omega)
    have m12 := k12.1
    have m26 := k26.1
    have hlo6 : lo ≤ H6.next := by omega
    have hg95 : 0 ≤ gap ∧ gap ≤ 95 := by omega
    refine Exists.intro _ (Exists.intro _ (And.intro c6.of (And.intro (show row 5 (nightOf gap fall (bud + 1 + b2 + gap * fall + (m : Int)) b1 b2 H2.next H3.next).v 0 = some (nightOf gap fall (bud + 1 + b2 + gap * fall + (m : Int)) b1 b2 H2.next H3.next).v from rfl) ?_)))
    obtain ⟨w, H7, f7, k7, hcase⟩ := tm_ok (kn := kn) (lo := lo) (g := nightOf gap fall (bud + 1 + b2 + gap * fall + (m : Int)) b1 b2 H2.next H3.next) (H := H6) (fun _ => by show gap + 1 = (((gap + 1).toNat : Nat) : Int); omega) (c36.sl (Nat.le_refl 1)) (c46.sl (Nat.le_refl 1)) rfl rfl hlo6
    refine Exists.intro _ (Exists.intro _ (And.intro (callX_args f7) ?_))
    have rest : ∀ (H9 : Hp) (S9 : Rg), Keep H7 H9 [] → Subs [(0, iv bud), (3, iv gap), (6, pt H.next), (11, iv (bud + 1 + b2 + gap * fall)), (13, pt H4.next)] S9 → ∀ K : Exit → Rg → Hp → Prop, (∀ S' H', lk S' 10 = some (.bool true) → K .ret S' H') → Tri Tryz.prog kn lo 156 false (at_ Tryz.f12 [1, 1, 1, 1, 1, 1]) S9 H9 K := fun H9 S9 k9 hS9 K hK =>
      have k69 := k7.trans k9
      between_tail hkn d1 hg95 d3 d2 (k69.cl c26 (by simp)) (k69.cl c6 (by simp)) (k69.cl c36 (by simp)) (k69.cl c46 (by simp)) (by omega) (by omega) (by omega) (by omega) (by have := k69.1; omega) hS9 hK
    have hfin : ∀ S' H', lk S' 10 = some (.bool true) → (match Exit.ret with | .normal => True | .ret => True | _ => False) ∧ ∃ vs, resS Tryz.prog S' H' [.tmp 10] = some vs ∧ retV vs = .bool true := fun S' H' h => ⟨trivial, [.bool true], by simp only [resS, h], rfl⟩
    have hok := one_night_ok (v := bud + 1 + b2 + gap * fall + (m : Int)) (x := H2.next) (y := H3.next) hg95 d3 d2
    rcases hcase with ⟨ha, hh, b, rfl, lb, cb⟩ | hbad
    · refine And.intro rfl (Exists.intro (slv b (gap + 1).toNat (gap + 1).toNat) (And.intro (by kernel_rfl) ?_))
      refine And.intro rfl (Exists.intro (iv 0) (And.intro (by kernel_rfl) ?_))
      refine condT ?_
      refine And.intro ⟨by omega, by omega⟩ ?_
      have hlen : ((((gap + 1).toNat : Nat) : Int) != gap + 1) = false := by simp; omega
      refine And.intro (fun h => by rw [hlen] at h; cases h) (fun _ => ?_)
      have hab := one_above (v := bud + 1 + b2 + gap * fall + (m : Int)) (x := H2.next) (y := H3.next) (bud := bud) (m := (m : Int)) hg95 d3 d2 (by omega) rfl
      have hslen := Ng.spans_len (nightOf gap fall (bud + 1 + b2 + gap * fall + (m : Int)) b1 b2 H2.next H3.next)
      generalize hspd : (nightOf gap fall (bud + 1 + b2 + gap * fall + (m : Int)) b1 b2 H2.next H3.next).spans = sp at cb hab hslen
      have hslen : sp.length = (gap + 1).toNat := hslen
      have m7 := k7.1
      refine loop_low (fn := Tryz.f12) E12_1 N12 L12x1 (fun i : Nat => [(0, iv bud), (3, iv gap), (6, pt H.next), (11, iv (bud + 1 + b2 + gap * fall)), (13, pt H4.next), (74, slv b (gap + 1).toNat (gap + 1).toNat), (75, iv ((gap + 1).toNat : Int)), (76, iv (i : Int))])
        (fun k i H' => i + k = (gap + 1).toNat ∧ Keep H7 H' []) (gap + 1).toNat 0 ⟨by omega, Keep.refl _ _⟩ ⟨rfl, rfl, rfl, rfl, rfl, rfl, rfl, rfl, trivial⟩ ?_
      rintro k i H8 ⟨hik, hk⟩
      have m8 := hk.1
      refine And.intro (fun hlt => ?_) (fun hge => ?_)
      · have hi : i < (gap + 1).toNat := by have := of_decide_eq_true hlt; omega
        have cb8 := hk.cl cb (by simp)
        obtain ⟨p, hp⟩ := get_some (l := sp) (i := i) (by omega)
        refine Exists.intro i (And.intro rfl (And.intro hi ?_))
        refine Exists.intro _ (Exists.intro _ (And.intro cb8.of (And.intro (spc_row hp) ?_)))
        intro H9 hH9; obtain ⟨k9, n9, c9⟩ := new_facts hH9; clear hH9
        obtain ⟨_, e9, l9, g9⟩ := id c9
        refine Exists.intro _ (Exists.intro _ (Exists.intro _ (And.intro g9 (And.intro (by omega) (And.intro rfl (And.intro rfl (And.intro (by simp) ?_)))))))
        intro H10 hH10; obtain ⟨k10, n10, c10⟩ := up_facts c9 hH10; clear hH10
        have c10 : Cl H10 H8.next [iv p.1, iv p.2] := c10
        have k810 : Keep H8 H10 [] := k9.new k10 (fun b hb => .inr (by simp at hb; omega))
        refine Exists.intro _ (Exists.intro _ (And.intro c10.of (And.intro (show _ = some (iv p.1) from rfl) ?_)))
        have hnot := hab p (List.mem_of_getElem? hp)
        refine And.intro (fun h => absurd (of_decide_eq_true h) hnot) (fun _ => ?_)
        refine And.intro ⟨by omega, by omega⟩ ?_
        exact ⟨k - 1, i + 1, by omega, ⟨by omega, hk.trans k810⟩, rfl, rfl, rfl, rfl, rfl, rfl, rfl, rfl, trivial⟩
      · exact rest H8 _ hk ⟨rfl, rfl, rfl, rfl, rfl, trivial⟩ _ hfin
    · have hne : ¬ ((-5000 ≤ bud + 1 + b2 + gap * fall + (m : Int) ∧ bud + 1 + b2 + gap * fall + (m : Int) ≤ 5000) ∧ bud + 1 + b2 + gap * fall + (m : Int) - b2 ≤ 5000) := fun ⟨q1, q2⟩ => by
        have hok1 : (nightOf gap fall (bud + 1 + b2 + gap * fall + (m : Int)) b1 b2 H2.next H3.next).ok = true := by rw [hok]; simp only [inB, Bool.and_eq_true, decide_eq_true_eq]; omega
        have hhas : (nightOf gap fall (bud + 1 + b2 + gap * fall + (m : Int)) b1 b2 H2.next H3.next).has = true := one_has hg95 d3 d2 (by omega) (by omega)
        rcases hbad with ⟨_, h, _⟩ | ⟨h, _⟩
        · rw [hhas] at h; cases h
        · rw [hok1] at h; cases h
      obtain ⟨e, he0, rfl⟩ : ∃ e : Int, e ≠ 0 ∧ w = .tuple #[.slice none 0 0, iv e] := by
        rcases hbad with ⟨_, _, h⟩ | ⟨_, h⟩
        · exact ⟨6, by decide, h⟩
        · exact ⟨1, by decide, h⟩
      have c27 := k7.cl c26 (by simp)
      refine And.intro rfl (Exists.intro (.slice none 0 0) (And.intro (by kernel_rfl) ?_))
      refine And.intro rfl (Exists.intro (iv e) (And.intro (by kernel_rfl) ?_))
      have hcond : (e == 0) = false := by simpa using he0
      refine And.intro (fun h => by rw [hcond] at h; cases h) (fun _ => ?_)
      refine And.intro rfl (Exists.intro (iv m) (And.intro (conv_8 m hm rfl) ?_))
      refine And.intro ⟨by omega, by omega⟩ ?_
      intro t1 h1; cases t1
      · refine And.intro rfl (Exists.intro (.bool false) (And.intro rfl ?_))
        refine And.intro rfl (Exists.intro (.bool false) (And.intro rfl ?_))
        refine condF ?_
        exact rest H7 _ (Keep.refl _ _) ⟨rfl, rfl, rfl, rfl, rfl, trivial⟩ _ hfin
      refine And.intro rfl (Exists.intro (iv m) (And.intro (conv_8 m hm rfl) ?_))
      refine And.intro ⟨by omega, by omega⟩ ?_
      intro t2 h2; cases t2
      · refine And.intro rfl (Exists.intro (.bool false) (And.intro rfl ?_))
        refine And.intro rfl (Exists.intro (.bool false) (And.intro rfl ?_))
        refine condF ?_
        exact rest H7 _ (Keep.refl _ _) ⟨rfl, rfl, rfl, rfl, rfl, trivial⟩ _ hfin
      refine And.intro rfl (Exists.intro (.bool true) (And.intro rfl ?_))
      refine And.intro rfl (Exists.intro (iv m) (And.intro (conv_8 m hm rfl) ?_))
      refine And.intro ⟨by omega, by omega⟩ ?_
      refine Exists.intro _ (Exists.intro _ (And.intro c27.of (And.intro (show _ = some (iv b2) from rfl) ?_)))
      refine And.intro ⟨by omega, by omega⟩ ?_
      intro t3 h3; cases t3
      rotate_left
      · have := of_decide_eq_true h1; have := of_decide_eq_true h2; have := of_decide_eq_true h3; omega
      refine And.intro rfl (Exists.intro (.bool false) (And.intro rfl ?_))
      refine condF ?_
      exact rest H7 _ (Keep.refl _ _) ⟨rfl, rfl, rfl, rfl, rfl, trivial⟩ _ hfin
end
end Go.Ax
/-
  Frost, for FrostEnds: the document's own validity of a night (32), and what a law looks at (15).
-/
namespace Go.Ax
open Go Go.RowKit Go.Proofs

section
variable {kn : FuncId → Option Bool} {lo : Nat} {H : Hp}
theorem in45_ok {n a b : Int} : ∃ H', FnX Tryz.prog kn lo 45 [iv n, iv a, iv b] H (.bool (inB n a b)) H' ∧ Keep H H' [] := by
  have key := fnX_low (kn := kn) (lo := lo) (H := H) (args := [iv n, iv a, iv b]) (Q := fun v H' => v = .bool (inB n a b) ∧ Keep H H' []) Tryz.func45 B45 N45 Z45 L45 (by simp) ?_
  · obtain ⟨v, H', h, rfl, q⟩ := key; exact ⟨H', h, q⟩
  repeat' first
    | (intro t ht; cases t)
    | exact And.intro trivial (Exists.intro _ (And.intro rfl ⟨by simp_all [retV, inB] <;> (intros; omega), Keep.refl _ _⟩))
    | refine And.intro rfl (Exists.intro _ (And.intro rfl ?_))
theorem within60_ok {a b l m : Int} : ∃ H', FnX Tryz.prog kn lo 60 [spv a b, iv l, iv m] H (.bool (spanB a b l m)) H' ∧ Keep H H' [] := by
  have key := fnX_low (kn := kn) (lo := lo) (H := H) (args := [spv a b, iv l, iv m]) (Q := fun v H' => v = .bool (spanB a b l m) ∧ Keep H H' []) Tryz.func60 B60 N60 Z60 L60 (by simp) ?_
  · obtain ⟨v, H', h, rfl, q⟩ := key; exact ⟨H', h, q⟩
  intro H1 hH1
  obtain ⟨k1, n1, c1⟩ := new_facts hH1
  repeat' first
    | refine Exists.intro _ (Exists.intro _ (And.intro c1.of (And.intro rfl ?_)))
    | (intro t ht; cases t)
    | exact And.intro trivial (Exists.intro _ (And.intro rfl ⟨by simp_all [retV, spanB] <;> (intros; omega), k1⟩))
    | refine And.intro rfl (Exists.intro _ (And.intro rfl ?_))
theorem great15_ok {g : Ng} : ∃ H', FnX Tryz.prog kn lo 15 [.agg g.v.toArray, .slice none 0 0, iv 0] H (.bool (decide ((g.sn : Int) > 20) || decide ((g.rn : Int) > 140))) H' ∧ Keep H H' [] := by
  have key := fnX_low (kn := kn) (lo := lo) (H := H) (args := [.agg g.v.toArray, .slice none 0 0, iv 0]) (Q := fun v H' => v = .bool (decide ((g.sn : Int) > 20) || decide ((g.rn : Int) > 140)) ∧ Keep H H' []) Tryz.func15 B15 N15 Z15 L15 (by simp) ?_
  · obtain ⟨v, H', h, rfl, q⟩ := key; exact ⟨H', h, q⟩
  intro H1 hH1
  obtain ⟨k1, n1, c1⟩ := new_facts hH1
  have c1 : Cl H1 H.next g.v := c1
  refine Exists.intro _ (Exists.intro _ (And.intro c1.of (And.intro (show _ = some (.slice g.sa g.sn g.scap) from rfl) ?_)))
  intro t ht; cases t
  · refine Exists.intro _ (Exists.intro _ (And.intro c1.of (And.intro (show _ = some (.slice g.ra g.rn g.rcap) from rfl) ?_)))
    intro t2 ht2; cases t2
    · repeat' first
        | (intro t ht; cases t)
        | exact And.intro trivial (Exists.intro _ (And.intro rfl ⟨by simp_all [retV] <;> (intros; omega), k1⟩))
        | refine And.intro rfl (Exists.intro _ (And.intro rfl ?_))
    · repeat' first
        | exact And.intro trivial (Exists.intro _ (And.intro rfl ⟨by simp_all [retV] <;> (intros; omega), k1⟩))
        | refine And.intro rfl (Exists.intro _ (And.intro rfl ?_))
  · repeat' first
      | exact And.intro trivial (Exists.intro _ (And.intro rfl ⟨by simp_all [retV] <;> (intros; omega), k1⟩))
      | refine And.intro rfl (Exists.intro _ (And.intro rfl ?_))
theorem refnight_ok {g : Ng} (hs : Sl H g.sa g.sn g.scap (spc g.ss)) (hr : Sl H g.ra g.rn g.rcap (rdc g.rs)) (hsn : g.ss.length = g.sn) (hrn : g.rs.length = g.rn) (hlo : lo ≤ H.next) :
    ∃ H', FnX Tryz.prog kn lo 32 [.agg g.v.toArray] H (.bool g.ok) H' ∧ Keep H H' [] := by
  have key := fnX_low (kn := kn) (lo := lo) (H := H) (args := [.agg g.v.toArray]) (Q := fun w H' => w = .bool g.ok ∧ Keep H H' []) Tryz.func32 B32 N32 Z32 L32 (by simp) ?_
  · obtain ⟨w, H', h, rfl, q⟩ := key; exact ⟨H', h, q⟩
  intro H1 hH1; obtain ⟨k1, n1, c1⟩ := new_facts hH1; clear hH1
  have c1 : Cl H1 H.next g.v := c1
  have done : ∀ (b : Bool) (H9 : Hp), g.ok = b → Keep H H9 [] → retV [.bool b] = .bool g.ok ∧ Keep H H9 [] := fun b H9 h k => ⟨by rw [h]; rfl, k⟩
  refine Exists.intro _ (Exists.intro _ (And.intro c1.of (And.intro (show _ = some (iv g.slots) from rfl) ?_)))
  refine callB in45_ok ?_
  intro t2 H2 h2 k2
  have k02 := k1.trans k2
  cases t2
  · repeat (refine And.intro rfl (Exists.intro (.bool true) (And.intro rfl ?_)))
    refine condT ?_
    exact And.intro trivial (Exists.intro _ (And.intro rfl (done false _ (by simp [Ng.ok, h2]) k02)))
  refine And.intro rfl (Exists.intro (.bool false) (And.intro rfl ?_))
  have c2 := k2.cl c1 (by simp)
  refine Exists.intro _ (Exists.intro _ (And.intro c2.of (And.intro (show _ = some (iv g.fall) from rfl) ?_)))
  refine callB in45_ok ?_
  intro t3 H3 h3 k3
  have k03 := k02.trans k3
  cases t3
  · repeat (refine And.intro rfl (Exists.intro (.bool true) (And.intro rfl ?_)))
    refine condT ?_
    exact And.intro trivial (Exists.intro _ (And.intro rfl (done false _ (by simp [Ng.ok, h3]) k03)))
  repeat (refine And.intro rfl (Exists.intro (.bool false) (And.intro rfl ?_)))
  have c3 := k3.cl c2 (by simp)
  refine Exists.intro _ (Exists.intro _ (And.intro c3.of (And.intro (show _ = some (iv g.rise) from rfl) ?_)))
  refine callB in45_ok ?_
  intro t4 H4 h4 k4
  have k04 := k03.trans k4
  cases t4
  · repeat (refine And.intro rfl (Exists.intro (.bool true) (And.intro rfl ?_)))
    refine condT ?_
    exact And.intro trivial (Exists.intro _ (And.intro rfl (done false _ (by simp [Ng.ok, h4]) k04)))
  repeat (refine And.intro rfl (Exists.intro (.bool false) (And.intro rfl ?_)))
  have c4 := k4.cl c3 (by simp)
  refine Exists.intro _ (Exists.intro _ (And.intro c4.of (And.intro (show _ = some (.slice g.sa g.sn g.scap) from rfl) ?_)))
  intro t5 h5
  cases t5
  rotate_left
  · repeat (refine And.intro rfl (Exists.intro (.bool true) (And.intro rfl ?_)))
    refine condT ?_
    exact And.intro trivial (Exists.intro _ (And.intro rfl (done false _ (by simp [Ng.ok, h5]) k04)))
  refine And.intro rfl (Exists.intro (.bool false) (And.intro rfl ?_))
  refine Exists.intro _ (Exists.intro _ (And.intro c4.of (And.intro (show _ = some (.slice g.ra g.rn g.rcap) from rfl) ?_)))
  intro t6 h6
  cases t6
  rotate_left
  · repeat (refine And.intro rfl (Exists.intro (.bool true) (And.intro rfl ?_)))
    refine condT ?_
    exact And.intro trivial (Exists.intro _ (And.intro rfl (done false _ (by simp [Ng.ok, h6]) k04)))
  refine And.intro rfl (Exists.intro (.bool false) (And.intro rfl ?_))
  refine condF ?_
  have hsn8 : g.sn ≤ 8 := by
    have : ¬ (g.sn : Int) > 8 := by simpa using h5
    omega
  have hrn8 : g.rn ≤ 128 := by
    have : ¬ (g.rn : Int) > 128 := by simpa using h6
    omega
  have hsl : 1 ≤ g.slots ∧ g.slots ≤ 96 := by simpa [inB] using h2
  have hE : g.ok = ((g.ss.all fun s => spanB s.1 s.2 (-1000) 1000) && g.rs.all (rdgB g.sn g.slots)) := by
    simp only [Ng.ok, h2, h3, h4, h5, h6, Bool.not_false, Bool.true_and, Bool.and_true]
  have m4 := k04.1
  refine loop_low (fn := Tryz.f32) E32_1 N32 L32x1 (fun i : Nat => [(1, pt H.next), (3, iv (i : Int))])
    (fun k i H' => i + k = g.sn ∧ Keep H4 H' [] ∧ (g.ss.take i).all (fun s => spanB s.1 s.2 (-1000) 1000) = true) g.sn 0 ⟨by omega, Keep.refl _ _, rfl⟩ ⟨rfl, rfl, trivial⟩ ?_
  rintro k i H5 ⟨hik, hk, hall⟩
  have hkn := hk.1
  have c5 := hk.cl c4 (by simp)
  refine Exists.intro _ (Exists.intro _ (And.intro c5.of (And.intro (show _ = some (.slice g.sa g.sn g.scap) from rfl) ?_)))
  refine And.intro (fun hlt => ?_) (fun hge => ?_)
  · have hi : i < g.sn := by simpa using hlt
    have hs5 := (k04.trans hk).sl0 hs
    rcases hs5 with ⟨_, h0, _⟩ | ⟨sb, esa, hsc, _⟩
    · omega
    obtain ⟨x, hx⟩ := get_some (l := g.ss) (i := i) (by omega)
    refine Exists.intro _ (Exists.intro _ (And.intro c5.of (And.intro (show _ = some (.slice g.sa g.sn g.scap) from rfl) ?_)))
    rw [esa]
    refine Exists.intro i (And.intro rfl (And.intro hi ?_))
    refine Exists.intro _ (Exists.intro _ (And.intro hsc.of (And.intro (spc_row hx) ?_)))
    refine callB (within60_ok (a := x.1) (b := x.2)) ?_
    intro t8 H8 h8 k8
    cases t8
    · refine And.intro rfl (Exists.intro (.bool true) (And.intro rfl ?_))
      refine condT ?_
      have := all_fail (f := fun s : Int × Int => spanB s.1 s.2 (-1000) 1000) hx h8
      exact And.intro trivial (Exists.intro _ (And.intro rfl (done false _ (by rw [hE, this]; rfl) (k04.trans (hk.trans k8)))))
    · refine And.intro rfl (Exists.intro (.bool false) (And.intro rfl ?_))
      refine condF ?_
      refine And.intro (show InR ((i : Int) + 1) from ⟨by omega, by omega⟩) ?_
      refine ⟨k - 1, i + 1, by omega, ⟨by omega, hk.trans k8, ?_⟩, rfl, rfl, trivial⟩
      rw [all_step hx, hall, h8]; rfl
  · have hi : ¬ i < g.sn := by simpa using hge
    rw [List.take_of_length_le (by omega)] at hall
    have k05 := k04.trans hk
    refine loop_low (fn := Tryz.f32) E32_2 N32 L32x2 (fun i : Nat => [(1, pt H.next), (4, iv (i : Int))])
      (fun k i H' => i + k = g.rn ∧ Keep H5 H' [] ∧ (g.rs.take i).all (rdgB g.sn g.slots) = true) g.rn 0 ⟨by omega, Keep.refl _ _, rfl⟩ ⟨rfl, rfl, trivial⟩ ?_
    rintro k i H6 ⟨hik, hk6, hall6⟩
    have hkn6 := hk6.1
    have c6 := hk6.cl c5 (by simp)
    refine Exists.intro _ (Exists.intro _ (And.intro c6.of (And.intro (show _ = some (.slice g.ra g.rn g.rcap) from rfl) ?_)))
    refine And.intro (fun hlt => ?_) (fun hge => ?_)
    · have hi : i < g.rn := by simpa using hlt
      have hr6 := (k05.trans hk6).sl0 hr
      rcases hr6 with ⟨_, h0, _⟩ | ⟨rb, era, hrc, _⟩
      · omega
      obtain ⟨x, hx⟩ := get_some (l := g.rs) (i := i) (by omega)
      refine Exists.intro _ (Exists.intro _ (And.intro c6.of (And.intro (show _ = some (.slice g.ra g.rn g.rcap) from rfl) ?_)))
      rw [era]
      refine Exists.intro i (And.intro rfl (And.intro hi ?_))
      refine Exists.intro _ (Exists.intro _ (And.intro hrc.of (And.intro (row_flat (f := Rdg.v) (fun _ _ => rfl) hx) ?_)))
      intro H7 hH7; obtain ⟨k7, n7, c7⟩ := new_facts hH7; clear hH7
      obtain ⟨_, e7, l7, g7⟩ := id c7
      refine Exists.intro _ (Exists.intro _ (Exists.intro _ (And.intro g7 (And.intro (by omega) (And.intro rfl (And.intro rfl (And.intro (by simp) ?_)))))))
      intro H8 hH8; obtain ⟨k8, n8, c8⟩ := up_facts c7 hH8; clear hH8
      have c8 : Cl H8 H6.next x.v := c8
      have k68 : Keep H6 H8 [] := k7.new k8 (fun b hb => .inr (by simp at hb; omega))
      have d8 := k68.cl c6 (by simp)
      have fail : ∀ H9, Keep H8 H9 [] → rdgB g.sn g.slots x = false → retV [.bool false] = .bool g.ok ∧ Keep H H9 [] := fun H9 k9 hf => done false _ (by rw [hE, all_fail hx hf, Bool.and_false]) (k05.trans (hk6.trans (k68.trans k9)))
      refine Exists.intro _ (Exists.intro _ (And.intro c8.of (And.intro (show _ = some (iv x.sensor) from rfl) ?_)))
      refine Exists.intro _ (Exists.intro _ (And.intro d8.of (And.intro (show _ = some (.slice g.sa g.sn g.scap) from rfl) ?_)))
      refine And.intro ⟨by omega, by omega⟩ ?_
      refine callB in45_ok ?_
      intro t9 H9 h9 k9
      cases t9
      · repeat (refine And.intro rfl (Exists.intro (.bool true) (And.intro rfl ?_)))
        refine condT ?_
        exact And.intro trivial (Exists.intro _ (And.intro rfl (fail H9 k9 (by simp [rdgB, h9]))))
      refine And.intro rfl (Exists.intro (.bool false) (And.intro rfl ?_))
      have c9 := k9.cl c8 (by simp)
      have d9 := k9.cl d8 (by simp)
      refine Exists.intro _ (Exists.intro _ (And.intro c9.of (And.intro (show _ = some (iv x.slot) from rfl) ?_)))
      refine Exists.intro _ (Exists.intro _ (And.intro d9.of (And.intro (show _ = some (iv g.slots) from rfl) ?_)))
      refine And.intro ⟨by omega, by omega⟩ ?_
      refine callB in45_ok ?_
      intro t10 H10 h10 k10
      have k810 := k9.trans k10
      cases t10
      · repeat (refine And.intro rfl (Exists.intro (.bool true) (And.intro rfl ?_)))
        refine condT ?_
        exact And.intro trivial (Exists.intro _ (And.intro rfl (fail H10 k810 (by simp [rdgB, h10]))))
      repeat (refine And.intro rfl (Exists.intro (.bool false) (And.intro rfl ?_)))
      have c10 := k10.cl c9 (by simp)
      refine Exists.intro _ (Exists.intro _ (And.intro c10.of (And.intro (show _ = some (iv x.value) from rfl) ?_)))
      refine callB in45_ok ?_
      intro t11 H11 h11 k11
      have k811 := k810.trans k11
      cases t11
      · repeat (refine And.intro rfl (Exists.intro (.bool true) (And.intro rfl ?_)))
        refine condT ?_
        exact And.intro trivial (Exists.intro _ (And.intro rfl (fail H11 k811 (by simp [rdgB, h11]))))
      repeat (refine And.intro rfl (Exists.intro (.bool false) (And.intro rfl ?_)))
      refine condF ?_
      refine And.intro (show InR ((i : Int) + 1) from ⟨by omega, by omega⟩) ?_
      refine ⟨k - 1, i + 1, by omega, ⟨by omega, hk6.trans (k68.trans k811), ?_⟩, rfl, rfl, trivial⟩
      rw [all_step hx, hall6]; simp [rdgB, h9, h10, h11]
    · have hi : ¬ i < g.rn := by simpa using hge
      rw [List.take_of_length_le (by omega)] at hall6
      exact And.intro trivial (Exists.intro _ (And.intro rfl (done true _ (by rw [hE, hall, hall6]; rfl) (k05.trans hk6))))
end
end Go.Ax
/-
  Frost, for FrostEnds: the bounds as numbers: each end is a course; without a course two readings contradict each other.
-/
namespace Go.Ax
open Go Go.RowKit Go.Proofs

theorem fold_max {α : Type} (f : α → Int) : ∀ (l : List α) (b : Int), b ≤ l.foldl (fun b r => max b (f r)) b ∧ (∀ r ∈ l, f r ≤ l.foldl (fun b r => max b (f r)) b) ∧ (l.foldl (fun b r => max b (f r)) b = b ∨ ∃ r ∈ l, l.foldl (fun b r => max b (f r)) b = f r)
  | [], b => ⟨Int.le_refl _, fun r h => by simp at h, .inl rfl⟩
  | x :: l, b => by
    obtain ⟨h1, h2, h3⟩ := fold_max f l (max b (f x))
    simp only [List.foldl_cons]
    refine ⟨by omega, fun r hr => ?_, ?_⟩
    · rcases List.mem_cons.1 hr with rfl | hr
      · omega
      · exact h2 r hr
    · rcases h3 with h3 | ⟨r, hr, h3⟩
      · rcases Int.le_total b (f x) with q | q
        · exact .inr ⟨x, by simp, by omega⟩
        · exact .inl (by omega)
      · exact .inr ⟨r, by simp [hr], h3⟩
theorem fold_min {α : Type} (f : α → Int) : ∀ (l : List α) (b : Int), l.foldl (fun b r => min b (f r)) b ≤ b ∧ (∀ r ∈ l, l.foldl (fun b r => min b (f r)) b ≤ f r) ∧ (l.foldl (fun b r => min b (f r)) b = b ∨ ∃ r ∈ l, l.foldl (fun b r => min b (f r)) b = f r)
  | [], b => ⟨Int.le_refl _, fun r h => by simp at h, .inl rfl⟩
  | x :: l, b => by
    obtain ⟨h1, h2, h3⟩ := fold_min f l (min b (f x))
    simp only [List.foldl_cons]
    refine ⟨by omega, fun r hr => ?_, ?_⟩
    · rcases List.mem_cons.1 hr with rfl | hr
      · omega
      · exact h2 r hr
    · rcases h3 with h3 | ⟨r, hr, h3⟩
      · rcases Int.le_total b (f x) with q | q
        · exact .inl (by omega)
        · exact .inr ⟨x, by simp, by omega⟩
      · exact .inr ⟨r, by simp [hr], h3⟩
/-- what a reading says of its own slot -/
def Ng.lowR (g : Ng) (r : Rdg) : Int := r.value - (g.ss.getD r.sensor.toNat (0, 0)).2
def Ng.highR (g : Ng) (r : Rdg) : Int := r.value - (g.ss.getD r.sensor.toNat (0, 0)).1
def Ng.badA (g : Ng) (a : Rdg) : Prop := g.lowR a > 5000 ∨ g.highR a < -5000
def Ng.badB (g : Ng) (a b : Rdg) : Prop := b.slot - a.slot ≥ 0 ∧ (g.lowR b > g.highR a + g.rise * (b.slot - a.slot) ∨ g.lowR a > g.highR b + g.fall * (b.slot - a.slot))
section
variable {g : Ng}
theorem step_lo (r : Rdg) (t : Int) : (g.alLo r t = g.alLo r (t - 1) + g.rise ∧ t ≤ r.slot) ∨ (g.alLo r t = g.alLo r (t - 1) - g.fall ∧ r.slot < t) := by
  unfold Ng.alLo
  rcases Int.lt_or_le r.slot t with h | h
  · right
    have e1 : max 0 (r.slot - t) = 0 := by omega
    have e2 : max 0 (t - r.slot) = (t - r.slot - 1) + 1 := by omega
    have e3 : max 0 (r.slot - (t - 1)) = 0 := by omega
    have e4 : max 0 (t - 1 - r.slot) = t - r.slot - 1 := by omega
    rw [e1, e2, e3, e4, Int.add_mul]
    exact ⟨by omega, h⟩
  · left
    have e1 : max 0 (r.slot - t) = r.slot - t := by omega
    have e2 : max 0 (t - r.slot) = 0 := by omega
    have e3 : max 0 (r.slot - (t - 1)) = (r.slot - t) + 1 := by omega
    have e4 : max 0 (t - 1 - r.slot) = 0 := by omega
    rw [e1, e2, e3, e4, Int.add_mul]
    exact ⟨by omega, h⟩
theorem step_hi (r : Rdg) (t : Int) : (g.alHi r t = g.alHi r (t - 1) - g.fall ∧ t ≤ r.slot) ∨ (g.alHi r t = g.alHi r (t - 1) + g.rise ∧ r.slot < t) := by
  unfold Ng.alHi
  rcases Int.lt_or_le r.slot t with h | h
  · right
    have e1 : max 0 (r.slot - t) = 0 := by omega
    have e2 : max 0 (t - r.slot) = (t - r.slot - 1) + 1 := by omega
    have e3 : max 0 (r.slot - (t - 1)) = 0 := by omega
    have e4 : max 0 (t - 1 - r.slot) = t - r.slot - 1 := by omega
    rw [e1, e2, e3, e4, Int.add_mul]
    exact ⟨by omega, h⟩
  · left
    have e1 : max 0 (r.slot - t) = r.slot - t := by omega
    have e2 : max 0 (t - r.slot) = 0 := by omega
    have e3 : max 0 (r.slot - (t - 1)) = (r.slot - t) + 1 := by omega
    have e4 : max 0 (t - 1 - r.slot) = 0 := by omega
    rw [e1, e2, e3, e4, Int.add_mul]
    exact ⟨by omega, h⟩
variable (v : g.Vd)
include v
theorem least_step (t : Nat) : g.least t - g.fall ≤ g.least (t + 1) ∧ g.least (t + 1) ≤ g.least t + g.rise := by
  obtain ⟨a1, a2, a3⟩ := fold_max (fun r => g.alLo r (t : Int)) g.rs (-5000)
  obtain ⟨b1, b2, b3⟩ := fold_max (fun r => g.alLo r ((t + 1 : Nat) : Int)) g.rs (-5000)
  have f := v.f; have ri := v.ri
  have ha : g.least t = g.rs.foldl (fun b r => max b (g.alLo r (t : Int))) (-5000) := rfl
  have hb : g.least (t + 1) = g.rs.foldl (fun b r => max b (g.alLo r ((t + 1 : Nat) : Int))) (-5000) := rfl
  rw [← ha] at a1 a2 a3
  rw [← hb] at b1 b2 b3
  have st : ∀ r : Rdg, g.alLo r (t : Int) - g.fall ≤ g.alLo r ((t + 1 : Nat) : Int) ∧ g.alLo r ((t + 1 : Nat) : Int) ≤ g.alLo r (t : Int) + g.rise := fun r => by
    have := step_lo (g := g) r ((t + 1 : Nat) : Int)
    have e : ((t + 1 : Nat) : Int) - 1 = (t : Int) := by omega
    rw [e] at this
    omega
  constructor
  · rcases a3 with q | ⟨r, hr, q⟩
    · omega
    · have := b2 r hr; have := (st r).1; omega
  · rcases b3 with q | ⟨r, hr, q⟩
    · omega
    · have := a2 r hr; have := (st r).2; omega
theorem great_step (t : Nat) : g.great t - g.fall ≤ g.great (t + 1) ∧ g.great (t + 1) ≤ g.great t + g.rise := by
  obtain ⟨a1, a2, a3⟩ := fold_min (fun r => g.alHi r (t : Int)) g.rs 5000
  obtain ⟨b1, b2, b3⟩ := fold_min (fun r => g.alHi r ((t + 1 : Nat) : Int)) g.rs 5000
  have f := v.f; have ri := v.ri
  have ha : g.great t = g.rs.foldl (fun b r => min b (g.alHi r (t : Int))) 5000 := rfl
  have hb : g.great (t + 1) = g.rs.foldl (fun b r => min b (g.alHi r ((t + 1 : Nat) : Int))) 5000 := rfl
  rw [← ha] at a1 a2 a3
  rw [← hb] at b1 b2 b3
  have st : ∀ r : Rdg, g.alHi r (t : Int) - g.fall ≤ g.alHi r ((t + 1 : Nat) : Int) ∧ g.alHi r ((t + 1 : Nat) : Int) ≤ g.alHi r (t : Int) + g.rise := fun r => by
    have := step_hi (g := g) r ((t + 1 : Nat) : Int)
    have e : ((t + 1 : Nat) : Int) - 1 = (t : Int) := by omega
    rw [e] at this
    omega
  constructor
  · rcases b3 with q | ⟨r, hr, q⟩
    · omega
    · have := a2 r hr; have := (st r).1; omega
  · rcases a3 with q | ⟨r, hr, q⟩
    · omega
    · have := b2 r hr; have := (st r).2; omega
omit v
theorem own_lo (r : Rdg) : g.alLo r r.slot = g.lowR r := by
  unfold Ng.alLo Ng.lowR
  have e : max 0 (r.slot - r.slot) = 0 := by omega
  rw [e]; simp
theorem own_hi (r : Rdg) : g.alHi r r.slot = g.highR r := by
  unfold Ng.alHi Ng.highR
  have e : max 0 (r.slot - r.slot) = 0 := by omega
  rw [e]; simp
include v
/-- A reading's own slot. -/
theorem read_in {r : Rdg} (hr : r ∈ g.rs) {k : Nat} (hk : r.slot = (k : Int)) : g.lowR r ≤ g.least k ∧ g.great k ≤ g.highR r := by
  have a2 := (fold_max (fun r => g.alLo r (k : Int)) g.rs (-5000)).2.1 r hr
  have b2 := (fold_min (fun r => g.alHi r (k : Int)) g.rs 5000).2.1 r hr
  have e1 := own_lo (g := g) r
  have e2 := own_hi (g := g) r
  rw [hk] at e1 e2
  simp only [e1] at a2
  simp only [e2] at b2
  exact ⟨a2, b2⟩
omit v
theorem ends_in (t : Nat) : -5000 ≤ g.least t ∧ g.great t ≤ 5000 := ⟨(fold_max (fun r => g.alLo r (t : Int)) g.rs (-5000)).1, (fold_min (fun r => g.alHi r (t : Int)) g.rs 5000).1⟩
theorem has_le (h : g.has = true) {t : Nat} (ht : t < g.n) : g.least t ≤ g.great t := by
  unfold Ng.has at h
  have := List.all_eq_true.1 h _ (List.mem_of_getElem? (g.spans_get t ht))
  simp only [Bool.not_eq_true', decide_eq_false_iff_not] at this
  omega
include v
/-- Without a course two readings contradict each other, or one of them what can be at all. -/
theorem no_course (h : g.has = false) : (∃ a ∈ g.rs, g.badA a) ∨ ∃ a ∈ g.rs, ∃ b ∈ g.rs, g.badB a b := by
  have : ∃ p ∈ g.spans, p.1 > p.2 := by
    unfold Ng.has at h
    rw [List.all_eq_false] at h
    obtain ⟨p, hp, hq⟩ := h
    exact ⟨p, hp, by simpa using hq⟩
  obtain ⟨p, hp, hgt⟩ := this
  obtain ⟨t, ht, rfl⟩ := g.mem_spans hp
  simp only at hgt
  have f := v.f; have ri := v.ri
  have lowle : ∀ r : Rdg, g.alLo r (t : Int) ≤ g.lowR r := fun r => by
    unfold Ng.alLo Ng.lowR
    have h1 : 0 ≤ max 0 (r.slot - (t : Int)) * g.rise := Int.mul_nonneg (by omega) ri.1
    have h2 : 0 ≤ max 0 ((t : Int) - r.slot) * g.fall := Int.mul_nonneg (by omega) f.1
    omega
  have highle : ∀ r : Rdg, g.highR r ≤ g.alHi r (t : Int) := fun r => by
    unfold Ng.alHi Ng.highR
    have h1 : 0 ≤ max 0 (r.slot - (t : Int)) * g.fall := Int.mul_nonneg (by omega) f.1
    have h2 : 0 ≤ max 0 ((t : Int) - r.slot) * g.rise := Int.mul_nonneg (by omega) ri.1
    omega
  rcases (fold_max (fun r => g.alLo r (t : Int)) g.rs (-5000)).2.2 with q | ⟨b, hb, q⟩ <;> rcases (fold_min (fun r => g.alHi r (t : Int)) g.rs 5000).2.2 with p | ⟨a, ha, p⟩
  · have q : g.least t = -5000 := q
    have p : g.great t = 5000 := p
    omega
  · have q : g.least t = -5000 := q
    have p : g.great t = g.alHi a (t : Int) := p
    refine .inl ⟨a, ha, .inr ?_⟩
    have := highle a; omega
  · have q : g.least t = g.alLo b (t : Int) := q
    have p : g.great t = 5000 := p
    refine .inl ⟨b, hb, .inl ?_⟩
    have := lowle b; omega
  · have q : g.least t = g.alLo b (t : Int) := q
    have p : g.great t = g.alHi a (t : Int) := p
    rw [q, p] at hgt
    right
    unfold Ng.alLo Ng.alHi at hgt
    have n1 : 0 ≤ max 0 (b.slot - (t : Int)) * g.rise := Int.mul_nonneg (by omega) ri.1
    have n2 : 0 ≤ max 0 ((t : Int) - b.slot) * g.fall := Int.mul_nonneg (by omega) f.1
    have n3 : 0 ≤ max 0 (a.slot - (t : Int)) * g.fall := Int.mul_nonneg (by omega) f.1
    have n4 : 0 ≤ max 0 ((t : Int) - a.slot) * g.rise := Int.mul_nonneg (by omega) ri.1
    rcases Int.lt_or_le b.slot a.slot with h1 | h1
    · refine ⟨b, hb, a, ha, by omega, .inr ?_⟩
      have := Int.mul_le_mul_of_nonneg_right (show a.slot - b.slot ≤ max 0 (a.slot - (t : Int)) + max 0 ((t : Int) - b.slot) by omega) f.1
      rw [Int.add_mul, Int.mul_comm (a.slot - b.slot)] at this
      unfold Ng.lowR Ng.highR
      omega
    · refine ⟨a, ha, b, hb, by omega, .inl ?_⟩
      have := Int.mul_le_mul_of_nonneg_right (show b.slot - a.slot ≤ max 0 (b.slot - (t : Int)) + max 0 ((t : Int) - a.slot) by omega) ri.1
      rw [Int.add_mul, Int.mul_comm (b.slot - a.slot)] at this
      unfold Ng.lowR Ng.highR
      omega
end
end Go.Ax

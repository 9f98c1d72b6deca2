import Derived.Test.YtpdoogfafjjdkaaKc
set_option linter.all false
/-
  Late: a new flood, and a set of days, or a panic (59, 60) (written by program).
-/
namespace Go.Ax
open Go Go.RowKit Go.Proofs

noncomputable def opsOf : Code → Array Oper
  | .region _ ops _ => ops
  | _ => #[]
noncomputable def R59v : RC := (.seq (.reg [⟨(some 3), none, (.box 26 (.tmp 0))⟩, ⟨(some 6), none, (.alc 61 [(.int .i64 0), (.int .i64 0)])⟩])
  (.seq (.seq (.reg [⟨(some 7), none, (.mov (.tmp 1))⟩, ⟨(some 8), none, (.addo (.tmp 3) 0)⟩, ⟨(some 9), none, (.ld (.tmp 8) 1)⟩, ⟨(some 10), none, (.len (.tmp 9))⟩, ⟨(some 11), none, (.call ⟨(.value (.func 73)), (List.toArray [(.tmp 7), (.tmp 10)]), (List.toArray [3, 3])⟩ true)⟩, ⟨(some 12), none, (.pur ⟨(some 12), (.unOp .not 4 (.tmp 11)), 4, "", (List.toArray []), none⟩)⟩, ⟨(some 13), none, (.mov (.tmp 12))⟩, ⟨(some 14), (some (13, false)), (.mov (.tmp 2))⟩, ⟨(some 15), (some (13, false)), (.addo (.tmp 3) 0)⟩, ⟨(some 16), (some (13, false)), (.ld (.tmp 15) 1)⟩, ⟨(some 17), (some (13, false)), (.len (.tmp 16))⟩, ⟨(some 18), (some (13, false)), (.mov (.tmp 1))⟩, ⟨(some 19), (some (13, false)), (.ari .sub (.tmp 17) (.tmp 18))⟩, ⟨(some 20), (some (13, false)), (.call ⟨(.value (.func 73)), (List.toArray [(.tmp 14), (.tmp 19)]), (List.toArray [3, 3])⟩ true)⟩, ⟨(some 21), (some (13, false)), (.pur ⟨(some 21), (.unOp .not 4 (.tmp 20)), 4, "", (List.toArray []), none⟩)⟩, ⟨(some 22), none, (.pur ⟨(some 22), (.pick (.tmp 13) (.const (.bool true)) (.tmp 21)), 4, "", (List.toArray []), none⟩)⟩])
  (.cond (.tmp 22) (.other (at_ Try.f59 [1, 0, 1, 0]))
  .skip))
  (.seq (.reg [⟨(some 25), none, (.mov (.tmp 1))⟩, ⟨(some 26), none, (.mov (.tmp 2))⟩, ⟨(some 27), none, (.pur ⟨(some 27), (.build 61 (List.toArray [(0, (.tmp 25)), (1, (.tmp 26))])), 61, "", (List.toArray []), none⟩)⟩, ⟨none, none, (.sta (.tmp 6) (.tmp 27) 2)⟩])
  .ret)))
theorem V59 : LV Try.prog 28 (at_ Try.f59 []) R59v := by
  have e : (at_ Try.f59 []) = (.seq (at_ Try.f59 [0]) (.seq (.seq (at_ Try.f59 [1, 0, 0]) (.cond (.tmp 22) (at_ Try.f59 [1, 0, 1, 0]) (at_ Try.f59 [1, 0, 1, 1]))) (at_ Try.f59 [1, 1]))) := by kernel_rfl
  rw [e]
  exact (.seq (.low (by kernel_rfl)) (.seq (.seq (.low (by kernel_rfl)) (.cond _ (.other _) (.low (by kernel_rfl)))) (.low (by kernel_rfl))))
noncomputable def R60x1v : RC := (.seq (.reg [⟨(some 14), none, (.cmp .lss (.tmp 13) (.tmp 12))⟩])
  (.seq (.cond (.tmp 14) .skip
  (.exit 0))
  (.seq (.block 1 (.seq (.reg [⟨(some 15), none, (.idx (.tmp 11) (.tmp 13) 1)⟩, ⟨(some 16), none, (.ld (.tmp 15) 1)⟩, ⟨(some 8), none, (.mov (.tmp 16))⟩])
  (.seq (.seq (.reg [⟨(some 17), none, (.mov (.tmp 8))⟩, ⟨(some 18), none, (.mov (.tmp 6))⟩, ⟨(some 19), none, (.cmpb .lss (.tmp 17) (.tmp 18))⟩, ⟨(some 20), none, (.mov (.tmp 19))⟩, ⟨(some 21), (some (20, false)), (.mov (.tmp 8))⟩, ⟨(some 22), (some (20, false)), (.addo (.tmp 2) 0)⟩, ⟨(some 23), (some (20, false)), (.ld (.tmp 22) 1)⟩, ⟨(some 24), (some (20, false)), (.addo (.tmp 2) 1)⟩, ⟨(some 25), (some (20, false)), (.ld (.tmp 24) 1)⟩, ⟨(some 26), (some (20, false)), (.ari .add (.tmp 23) (.tmp 25))⟩, ⟨(some 27), (some (20, false)), (.cmpb .geq (.tmp 21) (.tmp 26))⟩, ⟨(some 28), none, (.pur ⟨(some 28), (.pick (.tmp 20) (.const (.bool true)) (.tmp 27)), 4, "", (List.toArray []), none⟩)⟩])
  (.cond (.tmp 28) (.other (at_ Try.f60 [1, 1, 1, 0, 1, 0, 0, 1, 1, 0, 0, 1, 0, 1, 0]))
  .skip))
  (.seq (.reg [⟨(some 31), none, (.mov (.tmp 5))⟩, ⟨(some 32), none, (.mov (.tmp 8))⟩, ⟨(some 33), none, (.pur ⟨(some 33), (.binOp .shl 63 (.const (.int .u64 1)) (.tmp 32) 3), 63, "", (List.toArray []), none⟩)⟩, ⟨(some 34), none, (.pur ⟨(some 34), (.binOp .or 63 (.tmp 31) (.tmp 33) 63), 63, "", (List.toArray []), none⟩)⟩, ⟨(some 5), none, (.mov (.tmp 34))⟩])
  (.reg [⟨(some 35), none, (.mov (.tmp 8))⟩, ⟨(some 36), none, (.ari .add (.tmp 35) (.const (.int .i64 1)))⟩, ⟨(some 6), none, (.mov (.tmp 36))⟩])))))
  (.reg [⟨(some 37), none, (.ari .add (.tmp 13) (.const (.int .i64 1)))⟩, ⟨(some 13), none, (.mov (.tmp 37))⟩]))))
theorem V60x1 : LV Try.prog 39 (at_ Try.f60 [1, 1, 1, 0, 1, 0, 0]) R60x1v := by
  have e : (at_ Try.f60 [1, 1, 1, 0, 1, 0, 0]) = (.seq (at_ Try.f60 [1, 1, 1, 0, 1, 0, 0, 0]) (.seq (at_ Try.f60 [1, 1, 1, 0, 1, 0, 0, 1, 0]) (.seq (.block 1 (.seq (at_ Try.f60 [1, 1, 1, 0, 1, 0, 0, 1, 1, 0, 0, 0]) (.seq (.seq (at_ Try.f60 [1, 1, 1, 0, 1, 0, 0, 1, 1, 0, 0, 1, 0, 0]) (.cond (.tmp 28) (at_ Try.f60 [1, 1, 1, 0, 1, 0, 0, 1, 1, 0, 0, 1, 0, 1, 0]) (at_ Try.f60 [1, 1, 1, 0, 1, 0, 0, 1, 1, 0, 0, 1, 0, 1, 1]))) (at_ Try.f60 [1, 1, 1, 0, 1, 0, 0, 1, 1, 0, 0, 1, 1])))) (at_ Try.f60 [1, 1, 1, 0, 1, 0, 0, 1, 1, 1])))) := by kernel_rfl
  rw [e]
  exact (.seq (.low (by kernel_rfl)) (.seq (.low (by kernel_rfl)) (.seq (.block _ (.seq (.low (by kernel_rfl)) (.seq (.seq (.low (by kernel_rfl)) (.cond _ (.other _) (.low (by kernel_rfl)))) (.low (by kernel_rfl))))) (.low (by kernel_rfl)))))
theorem D59p : at_ Try.f59 [1, 0, 1, 0] = .region 2 (opsOf (at_ Try.f59 [1, 0, 1, 0])) false := by kernel_rfl
theorem P59p : lowRPs Try.prog 28 (opsOf (at_ Try.f59 [1, 0, 1, 0])).toList (opsOf (at_ Try.f59 [1, 0, 1, 0])).toList = some [(.ro ⟨(some 23), none, (.pur ⟨(some 23), (.build 113 (List.toArray [])), 113, "", (List.toArray []), none⟩)⟩), (.ro ⟨(some 24), none, (.pur ⟨(some 24), (.makeInterface 113 (.tmp 23)), 20, "", (List.toArray []), none⟩)⟩), (.pan (.tmp 24))] := by kernel_rfl
theorem D60p : at_ Try.f60 [1, 1, 1, 0, 1, 0, 0, 1, 1, 0, 0, 1, 0, 1, 0] = .region 7 (opsOf (at_ Try.f60 [1, 1, 1, 0, 1, 0, 0, 1, 1, 0, 0, 1, 0, 1, 0])) false := by kernel_rfl
theorem P60p : lowRPs Try.prog 39 (opsOf (at_ Try.f60 [1, 1, 1, 0, 1, 0, 0, 1, 1, 0, 0, 1, 0, 1, 0])).toList (opsOf (at_ Try.f60 [1, 1, 1, 0, 1, 0, 0, 1, 1, 0, 0, 1, 0, 1, 0])).toList = some [(.ro ⟨(some 29), none, (.pur ⟨(some 29), (.build 113 (List.toArray [])), 113, "", (List.toArray []), none⟩)⟩), (.ro ⟨(some 30), none, (.pur ⟨(some 30), (.makeInterface 113 (.tmp 29)), 20, "", (List.toArray []), none⟩)⟩), (.pan (.tmp 30))] := by kernel_rfl
/-- the panic of a flood that is none -/
abbrev noneV : Value := .iface 113 (.agg #[])
def flB (g : Lt) (a b : Int) : Bool := inB a 0 g.wn && inB b 0 ((g.wn : Int) - a)
/-- whether days rise, and lie between two -/
def setB : Int → Int → List Int → Bool
  | _, _, [] => true
  | nx, e, d :: r => decide (nx ≤ d) && decide (d < e) && setB (d + 1) e r
theorem setB_in : ∀ {nx e : Int} {l : List Int}, setB nx e l = true → ∀ d ∈ l, nx ≤ d ∧ d < e
  | _, _, [], _, d, h => by simp at h
  | nx, e, x :: r, h, d, hd => by
    simp only [setB, Bool.and_eq_true, decide_eq_true_eq] at h
    rcases List.mem_cons.1 hd with rfl | hd
    · exact h.1
    · have := setB_in h.2 d hd; omega
section
variable {kn : FuncId → Option Bool} {lo : Nat} {H : Hp}
theorem flood_ok {g : Lt} {a b : Int} (hn : g.wn ≤ 1000) (hlo : lo ≤ H.next) :
    (∃ v H', FnX Try.prog kn lo 59 [.agg g.v.toArray, iv a, iv b] H v H' ∧ (v = .agg #[iv a, iv b] ∧ flB g a b = true ∧ Keep H H' [])) ∨ ∃ v H', FnP Try.prog kn lo 59 [.agg g.v.toArray, iv a, iv b] H v H' ∧ (v = noneV ∧ flB g a b = false ∧ Keep H H' []) := by
  refine fn_lv (P := Try.prog) (kn := kn) (lo := lo) (H := H) (args := [.agg g.v.toArray, iv a, iv b]) (Q := fun v H' => v = .agg #[iv a, iv b] ∧ flB g a b = true ∧ Keep H H' []) (Z := fun v H' => v = noneV ∧ flB g a b = false ∧ Keep H H' []) Try.func59 B59 N59 Z59 V59 (by simp) ?_
  have hk := Keep.refl H []
  intro H1 hH1; obtain ⟨kH1, nH1, c1⟩ := new_facts hH1; clear hH1
  have mH1 := kH1.1
  have hk := hk.trans kH1
  have c1 : Cl H1 H.next [.slice g.wa g.wn g.wcap, .slice g.aa g.an g.acap, iv g.r1, iv g.r2, iv g.f1, iv g.f2, iv g.g1, iv g.g2, iv g.full, iv g.base, iv g.kill, iv g.need, iv g.bear] := c1
  intro H2 hH2; obtain ⟨kH2, nH2, c2⟩ := new_facts hH2; clear hH2
  have c2 : Cl H2 H1.next [iv 0, iv 0] := c2
  have mH2 := kH2.1
  have hk := hk.trans kH2
  have c1 := kH2.cl c1 (by simp)
  refine Exists.intro _ (Exists.intro _ (And.intro c1.of (And.intro (show _ = some (.slice g.wa g.wn g.wcap) from rfl) ?_)))
  refine callB (within_ok) ?_
  intro tH3 H3 hH3 kH3
  have mH3 := kH3.1
  have hk := hk.trans kH3
  have c1 := kH3.cl c1 (by simp)
  have c2 := kH3.cl c2 (by simp)
  cases tH3
  · have h1 := hH3
    have h1x := h1; simp only [inB, Bool.and_eq_true, Bool.and_eq_false_iff, decide_eq_true_eq, decide_eq_false_iff_not] at h1x
    refine And.intro rfl (Exists.intro (.bool true) (And.intro rfl ?_))
    refine And.intro rfl (Exists.intro (.bool true) (And.intro rfl ?_))
    refine condT ?_
    refine tri_reg D59p P59p ?_
    refine Or.inl (And.intro rfl (Exists.intro (.agg #[]) (And.intro (by kernel_rfl) ?_)))
    refine Or.inl (And.intro rfl (Exists.intro noneV (And.intro (by kernel_rfl) ?_)))
    refine And.intro rfl (Or.inl ⟨_, rfl, rfl, ?_, hk⟩)
    unfold flB; rw [h1]; rfl
  · have h1 := hH3
    have h1x := h1; simp only [inB, Bool.and_eq_true, Bool.and_eq_false_iff, decide_eq_true_eq, decide_eq_false_iff_not] at h1x
    refine And.intro rfl (Exists.intro (.bool false) (And.intro rfl ?_))
    refine Exists.intro _ (Exists.intro _ (And.intro c1.of (And.intro (show _ = some (.slice g.wa g.wn g.wcap) from rfl) ?_)))
    refine And.intro ⟨by omega, by omega⟩ ?_
    refine callB (within_ok) ?_
    intro tH4 H4 hH4 kH4
    have mH4 := kH4.1
    have hk := hk.trans kH4
    have c1 := kH4.cl c1 (by simp)
    have c2 := kH4.cl c2 (by simp)
    cases tH4
    · have h2 := hH4
      have h2x := h2; simp only [inB, Bool.and_eq_true, Bool.and_eq_false_iff, decide_eq_true_eq, decide_eq_false_iff_not] at h2x
      refine And.intro rfl (Exists.intro (.bool true) (And.intro rfl ?_))
      refine And.intro rfl (Exists.intro (.bool true) (And.intro rfl ?_))
      refine condT ?_
      refine tri_reg D59p P59p ?_
      refine Or.inl (And.intro rfl (Exists.intro (.agg #[]) (And.intro (by kernel_rfl) ?_)))
      refine Or.inl (And.intro rfl (Exists.intro noneV (And.intro (by kernel_rfl) ?_)))
      refine And.intro rfl (Or.inl ⟨_, rfl, rfl, ?_, hk⟩)
      unfold flB; rw [h1, h2]; rfl
    · have h2 := hH4
      have h2x := h2; simp only [inB, Bool.and_eq_true, Bool.and_eq_false_iff, decide_eq_true_eq, decide_eq_false_iff_not] at h2x
      refine And.intro rfl (Exists.intro (.bool false) (And.intro rfl ?_))
      refine And.intro rfl (Exists.intro (.bool false) (And.intro rfl ?_))
      refine condF ?_
      refine And.intro rfl (Exists.intro (.agg #[iv a, iv b]) (And.intro (by kernel_rfl) ?_))
      obtain ⟨_, eH5, lH5, gH5⟩ := id c2
      refine Exists.intro _ (Exists.intro _ (Exists.intro _ (And.intro gH5 (And.intro (by omega) (And.intro rfl (And.intro rfl (And.intro (by simp) ?_)))))))
      intro H5 hH5; obtain ⟨kH5, nH5, sH5⟩ := up_facts c2 hH5; clear hH5
      have mH5 := kH5.1
      have hk := hk.new kH5 (fun b hb => by simp at hb ⊢; omega)
      have c1 := kH5.cl c1 (by first | (simp; done) | (simp; omega))
      have c2 : Cl H5 H1.next [iv a, iv b] := sH5
      exact Or.inr ⟨Or.inr rfl, _, res_cell rfl a61 i61s rfl c2, rfl, by unfold flB; rw [h1, h2]; rfl, hk⟩
theorem set_ok {s d : Nat} {la : Option Addr} {n cap : Nat} {us : List Int} (hl : Sl H la n cap (ints us)) (hul : us.length = n) (hn : n ≤ 1000) (hsd : s + d ≤ 63) :
    (∃ v H', FnX Try.prog kn lo 60 [.agg #[iv (s : Int), iv (d : Int)], .slice la n cap] H v H' ∧ (v = .int .u64 ((dayMask us : Nat) : Int) ∧ setB s (s + d) us = true ∧ Keep H H' [])) ∨ ∃ v H', FnP Try.prog kn lo 60 [.agg #[iv (s : Int), iv (d : Int)], .slice la n cap] H v H' ∧ (v = noneV ∧ setB s (s + d) us = false ∧ Keep H H' []) := by
  refine fn_lv (P := Try.prog) (kn := kn) (lo := lo) (H := H) (args := [.agg #[iv (s : Int), iv (d : Int)], .slice la n cap]) (Q := fun v H' => v = .int .u64 ((dayMask us : Nat) : Int) ∧ setB s (s + d) us = true ∧ Keep H H' []) (Z := fun v H' => v = noneV ∧ setB s (s + d) us = false ∧ Keep H H' []) Try.func60 B60 N60 Z60 (.low L60) (by simp) ?_
  have hk := Keep.refl H []
  intro H1 hH1; obtain ⟨kH1, nH1, c1⟩ := new_facts hH1; clear hH1
  have mH1 := kH1.1
  have hk := hk.trans kH1
  have hl := kH1.sl0 hl
  have c1 : Cl H1 H.next [iv (s : Int), iv (d : Int)] := c1
  refine Exists.intro _ (Exists.intro _ (And.intro c1.of (And.intro (show _ = some (iv (s : Int)) from rfl) ?_)))
  refine loop_lv E60_1 V60x1 (fun x : Nat × Int => [(5, .int .u64 ((dayMask (us.take x.1) : Nat) : Int)), (6, iv x.2), (2, pt H.next), (11, .slice la n cap), (12, iv (n : Int)), (13, iv (x.1 : Int))])
    (fun k x H' => x.1 + k = n ∧ Keep H1 H' [] ∧ setB s (s + d) us = setB x.2 (s + d) (us.drop x.1) ∧ (s : Int) ≤ x.2 ∧ ∀ y ∈ us.take x.1, (s : Int) ≤ y ∧ y < s + d) n (0, (s : Int)) ⟨by omega, Keep.refl _ _, rfl, Int.le_refl _, by simp⟩ ⟨rfl, rfl, rfl, rfl, rfl, rfl, trivial⟩ ?_
  rintro k ⟨i, nx⟩ L1 ⟨hik, hki, hset, hnx, hin⟩
  have hm := hki.1
  have hk := hk.trans hki
  have hl := hki.sl0 hl
  have c1 := hki.cl c1 (by simp)
  have kb := hki
  refine And.intro (fun q1 => ?_) (fun q1 => ?_)
  · have q1 : (i : Int) < (n : Int) := of_decide_eq_true q1
    simp only at hik hset hnx hin
    have hi : i < n := by omega
    obtain ⟨x, hx⟩ := get_some (l := us) (i := i) (by omega)
    have hdr : us.drop i = x :: us.drop (i + 1) := by rw [List.drop_eq_getElem_cons (by omega)]; congr 1; rw [List.getElem?_eq_getElem (by omega)] at hx; cases hx; rfl
    have hst : setB s (s + d) us = (decide (nx ≤ x) && decide (x < s + d) && setB (x + 1) (s + d) (us.drop (i + 1))) := by rw [hset, hdr]; rfl
    rcases hl with ⟨_, h0, _⟩ | ⟨lb, rfl, hld, _⟩
    · omega
    refine Exists.intro i (And.intro rfl (And.intro hi ?_))
    refine Exists.intro _ (Exists.intro _ (And.intro hld.of (And.intro (ints_at hx) ?_)))
    intro t2 g2; cases t2
    · have g2 : ¬ (x < nx) := of_decide_eq_false g2
      refine Exists.intro _ (Exists.intro _ (And.intro c1.of (And.intro (show _ = some (iv (s : Int)) from rfl) ?_)))
      refine Exists.intro _ (Exists.intro _ (And.intro c1.of (And.intro (show _ = some (iv (d : Int)) from rfl) ?_)))
      refine And.intro ⟨by omega, by omega⟩ ?_
      intro t3 g3; cases t3
      · have g3 : ¬ (x ≥ ((s : Int) + (d : Int))) := of_decide_eq_false g3
        refine And.intro rfl (Exists.intro (.bool false) (And.intro rfl ?_))
        refine condF ?_
        have hst2 : setB s (s + d) us = setB (x + 1) (s + d) (us.drop (i + 1)) := by rw [hst, decide_eq_true (by omega), decide_eq_true (by omega)]; rfl
        obtain ⟨xd, rfl⟩ := Int.eq_ofNat_of_zero_le (a := x) (by omega)
        have htk : us.take (i + 1) = us.take i ++ [(xd : Int)] := by rw [List.take_add_one, hx]; rfl
        have hin2 : ∀ y ∈ us.take (i + 1), (s : Int) ≤ y ∧ y < s + d := by
          intro y hy; rw [htk] at hy; rcases List.mem_append.1 hy with hy | hy
          · exact hin y hy
          · simp at hy; omega
        have hmk : dayMask (us.take (i + 1)) = dayMask (us.take i) ||| 2 ^ xd := by rw [htk, dayMask_snoc]; rfl
        have hml : dayMask (us.take i) < 18446744073709551616 := mask_lt fun y hy => by have := hin y hy; omega
        refine And.intro rfl (Exists.intro (.int .u64 ((2 ^ xd : Nat) : Int)) (And.intro (pure_shl (by omega) rfl) ?_))
        refine And.intro rfl (Exists.intro (.int .u64 ((dayMask (us.take i) ||| 2 ^ xd : Nat) : Int)) (And.intro (pure_or hml (pow_lt (by omega)) rfl rfl) ?_))
        refine And.intro ⟨by omega, by omega⟩ ?_
        refine And.intro ⟨by omega, by omega⟩ ?_
        exact ⟨k - 1, (i + 1, (xd : Int) + 1), by omega, ⟨by show i + 1 + (k - 1) = n; omega, kb, hst2, by show (s : Int) ≤ (xd : Int) + 1; omega, hin2⟩, by rw [hmk]; rfl, rfl, rfl, rfl, rfl, rfl, trivial⟩
      · have g3 : x ≥ ((s : Int) + (d : Int)) := of_decide_eq_true g3
        refine And.intro rfl (Exists.intro (.bool true) (And.intro rfl ?_))
        refine condT ?_
        refine tri_reg D60p P60p ?_
        refine Or.inl (And.intro rfl (Exists.intro (.agg #[]) (And.intro (by kernel_rfl) ?_)))
        refine Or.inl (And.intro rfl (Exists.intro noneV (And.intro (by kernel_rfl) ?_)))
        refine And.intro rfl (Or.inl ⟨_, rfl, rfl, ?_, hk⟩)
        rw [hst]
        rw [decide_eq_false (p := x < (s : Int) + d) (by omega)]; simp
    · have g2 : x < nx := of_decide_eq_true g2
      refine And.intro rfl (Exists.intro (.bool true) (And.intro rfl ?_))
      refine condT ?_
      refine tri_reg D60p P60p ?_
      refine Or.inl (And.intro rfl (Exists.intro (.agg #[]) (And.intro (by kernel_rfl) ?_)))
      refine Or.inl (And.intro rfl (Exists.intro noneV (And.intro (by kernel_rfl) ?_)))
      refine And.intro rfl (Or.inl ⟨_, rfl, rfl, ?_, hk⟩)
      rw [hst]
      rw [decide_eq_false (by omega)]; rfl
  · have q1 : ¬ ((i : Int) < (n : Int)) := of_decide_eq_false q1
    simp only at hik hset hnx hin
    have e : i = n := by omega
    subst e
    have et : us.take i = us := List.take_of_length_le (by omega)
    rw [List.drop_eq_nil_of_le (by omega)] at hset
    exact Or.inr ⟨Or.inr rfl, _, rfl, by rw [et]; rfl, hset, hk⟩
end
end Go.Ax
/-
  Late: a new course, which recovers (58, 38) (written by program).
-/
namespace Go.Ax
open Go Go.RowKit Go.Proofs

abbrev zeroC : List Value := [.slice none 0 0, .slice none 0 0, iv 0, iv 0, iv 0, iv 0, iv 0, iv 0, iv 0, iv 0, iv 0, iv 0, iv 0, iv 0, iv 0, .int .u64 0]
theorem S58 : at_ Try.f58 [] = .seq (at_ Try.f58 [0]) (at_ Try.f58 [1]) := by kernel_rfl
theorem C58 : at_ Try.f58 [1] = .cond (.tmp 3) (at_ Try.f58 [1, 0]) (at_ Try.f58 [1, 1]) := by kernel_rfl
theorem K58 : at_ Try.f58 [1, 1] = .skip := by kernel_rfl
theorem D58a : at_ Try.f58 [0] = .region 0 (opsOf (at_ Try.f58 [0])) false := by kernel_rfl
theorem Q58a : lowRQs Try.prog 5 (opsOf (at_ Try.f58 [0])).toList (opsOf (at_ Try.f58 [0])).toList = some [(.rcv (some 2)), (.ro ⟨(some 3), none, (.pur ⟨(some 3), (.binOp .neq 20 (.tmp 2) (.const .nilIface) 20), 4, "", (List.toArray []), none⟩)⟩)] := by kernel_rfl
theorem D58b : at_ Try.f58 [1, 0] = .region 1 (opsOf (at_ Try.f58 [1, 0])) false := by kernel_rfl
theorem Q58b : lowRQs Try.prog 5 (opsOf (at_ Try.f58 [1, 0])).toList (opsOf (at_ Try.f58 [1, 0])).toList = some [(.ro ⟨(some 4), none, (.pur ⟨(some 4), (.build 65 (List.toArray [])), 65, "", (List.toArray []), none⟩)⟩), (.ro ⟨none, none, (.sta (.tmp 0) (.tmp 4) 16)⟩), (.ro ⟨none, none, (.st (.tmp 1) (.const (.int .i64 2)))⟩)] := by kernel_rfl
theorem S38 : at_ Try.f38 [] = .seq (at_ Try.f38 [0]) (at_ Try.f38 [1]) := by kernel_rfl
theorem S38b : at_ Try.f38 [1] = .seq (at_ Try.f38 [1, 0]) (at_ Try.f38 [1, 1]) := by kernel_rfl
theorem S38c : at_ Try.f38 [1, 1] = .seq (at_ Try.f38 [1, 1, 0]) (at_ Try.f38 [1, 1, 1]) := by kernel_rfl
theorem S38d : at_ Try.f38 [1, 1, 1] = .seq (at_ Try.f38 [1, 1, 1, 0]) (at_ Try.f38 [1, 1, 1, 1]) := by kernel_rfl
theorem S38e : at_ Try.f38 [1, 1, 1, 1] = .seq (at_ Try.f38 [1, 1, 1, 1, 0]) .ret := by kernel_rfl
theorem D38a : at_ Try.f38 [0] = .region 0 (opsOf (at_ Try.f38 [0])) false := by kernel_rfl
theorem P38a : lowRPs Try.prog 26 (opsOf (at_ Try.f38 [0])).toList (opsOf (at_ Try.f38 [0])).toList = some [(.ro ⟨(some 4), none, (.box 26 (.tmp 0))⟩), (.ro ⟨(some 8), none, (.alc 65 zeroC)⟩), (.ro ⟨(some 9), none, (.alc 30 [(.int .i64 0)])⟩)] := by kernel_rfl
theorem D38b : at_ Try.f38 [1, 0] = .region 1 (opsOf (at_ Try.f38 [1, 0])) false := by kernel_rfl
theorem P38b : lowRPs Try.prog 26 (opsOf (at_ Try.f38 [1, 0])).toList (opsOf (at_ Try.f38 [1, 0])).toList = some [(.ro ⟨(some 11), none, (.pur ⟨(some 11), (.makeFunc (.func 58) (List.toArray []) (List.toArray [(.tmp 8), (.tmp 9)])), 1, "", (List.toArray []), none⟩)⟩), (.dfr none ⟨(.value (.tmp 11)), (List.toArray []), (List.toArray [])⟩)] := by kernel_rfl
noncomputable def R38c : RC := (.seq (.reg [⟨(some 12), none, (.lda (.tmp 4) 13)⟩, ⟨(some 13), none, (.call ⟨(.value (.func 51)), (List.toArray [(.tmp 12)]), (List.toArray [26])⟩ true)⟩, ⟨(some 14), none, (.pur ⟨(some 14), (.unOp .not 4 (.tmp 13)), 4, "", (List.toArray []), none⟩)⟩])
  (.cond (.tmp 14) (.seq (.reg [⟨(some 15), none, (.pur ⟨(some 15), (.build 65 (List.toArray [])), 65, "", (List.toArray []), none⟩)⟩, ⟨none, none, (.sta (.tmp 8) (.tmp 15) 16)⟩, ⟨none, none, (.st (.tmp 9) (.const (.int .i64 1)))⟩])
  .ret)
  .skip))
theorem L38c : low Try.prog 26 (at_ Try.f38 [1, 1, 0]) = some R38c := by kernel_rfl
theorem D38d : at_ Try.f38 [1, 1, 1, 0] = .region 4 (opsOf (at_ Try.f38 [1, 1, 1, 0])) false := by kernel_rfl
theorem P38d : lowRPs Try.prog 26 (opsOf (at_ Try.f38 [1, 1, 1, 0])).toList (opsOf (at_ Try.f38 [1, 1, 1, 0])).toList = some [(.ro ⟨(some 16), none, (.lda (.tmp 4) 13)⟩), (.ro ⟨(some 17), none, (.mov (.tmp 1))⟩), (.ro ⟨(some 18), none, (.mov (.tmp 2))⟩), (.ro ⟨(some 19), none, (.call ⟨(.value (.func 59)), (List.toArray [(.tmp 16), (.tmp 17), (.tmp 18)]), (List.toArray [26, 3, 3])⟩ true)⟩), (.ro ⟨(some 10), none, (.alc 61 [(.int .i64 0), (.int .i64 0)])⟩), (.ro ⟨none, none, (.sta (.tmp 10) (.tmp 19) 2)⟩)] := by kernel_rfl
theorem D38e : at_ Try.f38 [1, 1, 1, 1, 0] = .region 5 (opsOf (at_ Try.f38 [1, 1, 1, 1, 0])) true := by kernel_rfl
noncomputable def R38e : List RO := [⟨(some 20), none, (.lda (.tmp 4) 13)⟩, ⟨(some 21), none, (.lda (.tmp 10) 2)⟩, ⟨(some 22), none, (.lda (.tmp 10) 2)⟩, ⟨(some 23), none, (.mov (.tmp 3))⟩, ⟨(some 24), none, (.call ⟨(.value (.func 60)), (List.toArray [(.tmp 22), (.tmp 23)]), (List.toArray [61, 27])⟩ false)⟩, ⟨(some 25), none, (.pur ⟨(some 25), (.build 65 (List.toArray [(0, (.tmp 20)), (1, (.tmp 21)), (2, (.tmp 24))])), 65, "", (List.toArray []), none⟩)⟩, ⟨none, none, (.sta (.tmp 8) (.tmp 25) 16)⟩, ⟨none, none, (.st (.tmp 9) (.const (.int .i64 0)))⟩]
theorem L38e : low Try.prog 26 (at_ Try.f38 [1, 1, 1, 1, 0]) = some (.dreg R38e [127, 63, 31, 12, 0, 0, 0, 0]) := by kernel_rfl
theorem a30 : isAggB Try.prog 30 = some false := by kernel_rfl
theorem res_nc {S : Rg} {H : Hp} {x y : Nat} {cs : List Value} {v : Value} (ha : lk S 8 = some (.pointer (some ⟨x, 0, none⟩))) (hb : lk S 9 = some (.pointer (some ⟨y, 0, none⟩))) (hl : cs.length = 16) (h : Cl H x cs) (h2 : Cl H y [v]) : resS Try.prog S H [.cell 8 65, .cell 9 30] = some [.agg cs.toArray, v] := by
  simp only [resS, ha, hb, load_agg a65 i65s h.rd hl, load_one a30 h2.rd]
/-- what newCourse answers -/
def Lt.Nc (g : Lt) (a b : Int) (us : List Int) (w : Value) : Prop :=
  (g.ok = false ∧ w = .tuple #[.agg zeroC.toArray, iv 1]) ∨
  (g.ok = true ∧ (flB g a b && setB a (a + b) us) = false ∧ w = .tuple #[.agg zeroC.toArray, iv 2]) ∨
  (g.ok = true ∧ ∃ s d : Nat, a = s ∧ b = d ∧ s + d ≤ g.wn ∧ setB s (s + d) us = true ∧ w = .tuple #[.agg (crs g s d (dayMask us)).toArray, iv 0])
section
variable {kn : FuncId → Option Bool} {lo : Nat} {H : Hp}
theorem def58_none {b c : Nat} : DefX Try.prog kn lo 58 [pt b, pt c] H none none H := by
  have key : ∃ H', DefX Try.prog kn lo 58 [pt b, pt c] H none none H' ∧ H' = H := ?_
  · obtain ⟨H', h, rfl⟩ := key; exact h
  refine defX_of (P := Try.prog) (kn := kn) (lo := lo) (args := [pt b, pt c]) (H := H) (p := none) (p' := none) (Q := fun H' => H' = H) Try.func58 B58 (by rw [N58]; simp) (by rw [Z58]) ?_
  rw [N58]
  refine TriQ.seq S58 (TriQ.reg D58a Q58a ?_)
  refine And.intro rfl (Exists.intro (.bool false) (And.intro (by kernel_rfl) ?_))
  refine TriQ.cond C58 (t := false) rfl (fun e => by cases e) (fun _ => TriQ.skip K58 ?_)
  exact ⟨.inl rfl, rfl, rfl⟩
theorem def58_some {b c : Nat} {cs : List Value} {w : Value} (hb : Cl H b cs) (hl : cs.length = 16) (hc : Cl H c [w]) (hne : b ≠ c) (lb : lo ≤ b) (lc : lo ≤ c) : ∃ H', DefX Try.prog kn lo 58 [pt b, pt c] H (some (noneV, false)) (some (noneV, true)) H' ∧ Cl H' b zeroC ∧ Cl H' c [iv 2] ∧ Keep H H' [b, c] := by
  refine defX_of (P := Try.prog) (kn := kn) (lo := lo) (args := [pt b, pt c]) (H := H) (Q := fun H' => Cl H' b zeroC ∧ Cl H' c [iv 2] ∧ Keep H H' [b, c]) Try.func58 B58 (by rw [N58]; simp) (by rw [Z58]) ?_
  rw [N58]
  refine TriQ.seq S58 (TriQ.reg D58a Q58a ?_)
  refine And.intro rfl (Exists.intro (.bool true) (And.intro (by kernel_rfl) ?_))
  refine TriQ.cond C58 (t := true) rfl (fun _ => TriQ.reg D58b Q58b ?_) (fun e => by cases e)
  refine And.intro rfl (Exists.intro (.agg zeroC.toArray) (And.intro (by kernel_rfl) ?_))
  obtain ⟨_, ea, la, ga⟩ := id hb
  refine Exists.intro _ (Exists.intro _ (Exists.intro _ (And.intro ga (And.intro lb (And.intro rfl (And.intro rfl (And.intro (by rw [hl]; decide) ?_)))))))
  intro H7 hH7
  obtain ⟨k7, n7, c7⟩ := up_facts hb hH7
  have c7 : Cl H7 b zeroC := by
    have e := putRow_all cs zeroC [] (by rw [hl]; rfl)
    simp only [List.nil_append, List.length_nil] at e
    rw [← e]; exact c7
  have hc7 := k7.cl hc (by simp; omega)
  obtain ⟨_, eb, l2, gb⟩ := id hc7
  refine Exists.intro _ (Exists.intro _ (Exists.intro _ (And.intro gb (And.intro lc (And.intro rfl (And.intro rfl (And.intro (by simp) ?_)))))))
  intro H8 hH8
  obtain ⟨k8, n8, c8⟩ := up_facts hc7 hH8
  have c8 : Cl H8 c [iv 2] := c8
  exact ⟨.inl rfl, rfl, k8.cl c7 (by simp; omega), c8, (k7.mono (by simp)).trans (k8.mono (by simp))⟩
theorem course_ok {g : Lt} {a b : Int} {la : Option Addr} {n cap : Nat} {us : List Int} (hw : Sl H g.wa g.wn g.wcap (spc g.ws)) (ha : Sl H g.aa g.an g.acap (spc g.as)) (hwl : g.ws.length = g.wn) (hal : g.as.length = g.an) (hwn : g.wn ≤ 1000) (han : g.an ≤ 1000) (hl : Sl H la n cap (ints us)) (hul : us.length = n) (hn : n ≤ 1000) (hlo : lo ≤ H.next) :
    ∃ w H', FnX Try.prog kn lo 38 [.agg g.v.toArray, iv a, iv b, .slice la n cap] H w H' ∧ Keep H H' [] ∧ g.Nc a b us w := by
  refine fnX_of_triE (P := Try.prog) (kn := kn) (lo := lo) (args := [.agg g.v.toArray, iv a, iv b, .slice la n cap]) (H := H) (Q := fun w H' => Keep H H' [] ∧ g.Nc a b us w) Try.func38 B38 (by rw [N38]; simp) ?_
  rw [N38, Z38]
  refine TriR.seqRR S38 (triR_reg D38a P38a ?_)
  refine Or.inl ?_
  intro H1 hH1; obtain ⟨k1, n1, c1⟩ := new_facts hH1; clear hH1
  have c1 : Cl H1 H.next g.v := c1
  refine Or.inl ?_
  intro H2 hH2; obtain ⟨k2, n2, c2⟩ := new_facts hH2; clear hH2
  refine Or.inl ?_
  intro H3 hH3; obtain ⟨k3, n3, c3⟩ := new_facts hH3; clear hH3
  refine TriR.seqRR S38b (triR_reg D38b P38b ?_)
  refine Or.inl ?_
  refine And.intro rfl (Exists.intro (.func (.func 58) #[] #[pt H1.next, pt H2.next]) (And.intro (by kernel_rfl) ?_))
  refine And.intro rfl ?_
  have k03 := k1.trans (k2.trans k3)
  have c1 := k3.cl (k2.cl c1 (by simp)) (by simp)
  have c2 := k3.cl c2 (by simp)
  have m1 := k1.1; have m2 := k2.1; have m3 := k3.1
  rw [S38c]
  refine TriR.of (Tri.seq ?_)
  refine wC_sound false _ L38c ?_
  refine Exists.intro _ (Exists.intro _ (And.intro c1.of (And.intro (show row 13 g.v 0 = some g.v from rfl) ?_)))
  refine callB (valid_ok (k03.sl0 hw) (k03.sl0 ha) hwl hal) ?_
  intro t H4 h4 k4
  have k04 := k03.trans k4
  have m4 := k4.1
  have d1 := k4.cl c1 (by simp)
  have d2 := k4.cl c2 (by simp)
  have d3 := k4.cl c3 (by simp)
  refine And.intro rfl (Exists.intro (.bool (!t)) (And.intro rfl ?_))
  cases t
  · refine condT ?_
    refine And.intro rfl (Exists.intro (.agg zeroC.toArray) (And.intro (by kernel_rfl) ?_))
    obtain ⟨_, e5, l5, g5⟩ := id d2
    refine Exists.intro _ (Exists.intro _ (Exists.intro _ (And.intro g5 (And.intro (by omega) (And.intro rfl (And.intro rfl (And.intro (by simp) ?_)))))))
    intro H5 hH5; obtain ⟨k5, n5, c5⟩ := up_facts d2 hH5; clear hH5
    have c5 : Cl H5 H1.next zeroC := c5
    have d3 := k5.cl d3 (by simp; omega)
    obtain ⟨_, e6, l6, g6⟩ := id d3
    refine Exists.intro _ (Exists.intro _ (Exists.intro _ (And.intro g6 (And.intro (by omega) (And.intro rfl (And.intro rfl (And.intro (by simp) ?_)))))))
    intro H6 hH6; obtain ⟨k6, n6, c6⟩ := up_facts d3 hH6; clear hH6
    have c6 : Cl H6 H2.next [iv 1] := c6
    have kk := (k04.new k5 (fun x hx => .inr (by simp at hx; omega))).new k6 (fun x hx => .inr (by simp at hx; omega))
    exact ⟨58, #[pt H1.next, pt H2.next], rfl, Or.inl ⟨Or.inr rfl, H6, def58_none, _, res_nc rfl rfl rfl (k6.cl c5 (by simp; omega)) c6, kk, Or.inl ⟨h4, rfl⟩⟩⟩
  refine condF ?_
  show Tri _ _ _ _ _ _ _ _ _
  rw [S38d]
  refine Tri.seq ?_
  refine tri_reg D38d P38d ?_
  refine Or.inl (Exists.intro _ (Exists.intro _ (And.intro d1.of (And.intro (show row 13 g.v 0 = some g.v from rfl) ?_))))
  refine Or.inl ?_
  refine Or.inl ?_
  have v := Lt.vd h4 hwl hal
  have hn40 := v.n40
  rcases flood_ok (kn := kn) (lo := lo) (H := H4) (g := g) (a := a) (b := b) hwn (by omega) with ⟨_, H5, f5, rfl, hfl, k5⟩ | ⟨_, H5, f5, rfl, hfl, k5⟩
  rotate_left
  · refine Or.inr (Exists.intro _ (Exists.intro _ (And.intro (callP_args f5) ?_)))
    obtain ⟨H7, f7, d7, d8, k7⟩ := def58_some (kn := kn) (lo := lo) (k5.cl d2 (by simp)) rfl (k5.cl d3 (by simp)) (by omega) (by omega) (by omega)
    exact ⟨rfl, ⟨58, #[pt H1.next, pt H2.next], rfl, Or.inr ⟨noneV, rfl, H7, f7, _, res_nc rfl rfl rfl d7 d8, (k04.trans k5).new k7 (fun x hx => .inr (by simp at hx; omega)), Or.inr (Or.inl ⟨h4, by rw [hfl]; rfl, rfl⟩)⟩⟩⟩
  have hflx := hfl
  simp only [flB, inB, Bool.and_eq_true, decide_eq_true_eq] at hflx
  obtain ⟨s, rfl⟩ := Int.eq_ofNat_of_zero_le (a := a) (by omega)
  obtain ⟨d, rfl⟩ := Int.eq_ofNat_of_zero_le (a := b) (by omega)
  refine Or.inl (Exists.intro _ (Exists.intro _ (And.intro (callX_args f5) ?_)))
  have k05 := k04.trans k5
  have m5 := k5.1
  have d1 := k5.cl d1 (by simp)
  have d2 := k5.cl d2 (by simp)
  have d3 := k5.cl d3 (by simp)
  refine Or.inl ?_
  intro H6 hH6; obtain ⟨k6, n6, c6⟩ := new_facts hH6; clear hH6
  have c6 : Cl H6 H5.next [iv 0, iv 0] := c6
  refine Or.inl ?_
  obtain ⟨_, e7, l7, g7⟩ := id c6
  refine Exists.intro _ (Exists.intro _ (Exists.intro _ (And.intro g7 (And.intro (by omega) (And.intro rfl (And.intro rfl (And.intro (by simp) ?_)))))))
  intro H7 hH7; obtain ⟨k7, n7, c7⟩ := up_facts c6 hH7; clear hH7
  have c7 : Cl H7 H5.next [iv (s : Int), iv (d : Int)] := c7
  have k57 : Keep H5 H7 [] := k6.new k7 (fun x hx => .inr (by simp at hx; omega))
  have k07 := k05.trans k57
  have m7 := k57.1
  have d1 := k57.cl d1 (by simp)
  have d2 := k57.cl d2 (by simp)
  have d3 := k57.cl d3 (by simp)
  refine ⟨rfl, ?_⟩
  show Tri _ _ _ _ _ _ _ _ _
  rw [S38e]
  refine Tri.seq ?_
  rcases set_ok (kn := kn) (lo := H7.next) (H := H7) (s := s) (d := d) (k07.sl0 hl) hul hn (by omega) with ⟨_, H8, f8, rfl, hset, k8⟩ | ⟨_, H8, f8, rfl, hset, k8⟩
  · refine wC_sound false _ L38e ?_
    have m8 := k8.1
    refine wD_dreg ?_
    refine wD_lda rfl d1.rd (show row 13 g.v 0 = some g.v from rfl) ?_
    refine wD_lda rfl c7.rd (show row 2 _ 0 = some [iv (s : Int), iv (d : Int)] from rfl) ?_
    refine wD_lda rfl c7.rd (show row 2 _ 0 = some [iv (s : Int), iv (d : Int)] from rfl) ?_
    refine wD_mov (v := .slice la n cap) rfl ?_
    refine wD_callh (vs := [.agg #[iv (s : Int), iv (d : Int)], .slice la n cap]) rfl (by kernel_rfl) (callX_args f8) ?_
    have d2 := k8.cl d2 (by simp)
    have d3 := k8.cl d3 (by simp)
    refine wD_pur (v := .agg (crs g s d (dayMask us)).toArray) rfl (by kernel_rfl) ?_
    refine wD_sta (b := H1.next) (o := 0) rfl rfl d2 (by omega) rfl rfl (by simp) ?_
    intro H9 k9 n9 c9
    have c9 : Cl H9 H1.next (crs g s d (dayMask us)) := c9
    have d3 := k9.cl d3 (by simp; omega)
    refine wD_st (b := H2.next) (o := 0) rfl rfl d3 (by omega) rfl rfl (by simp) ?_
    intro H10 k10 n10 c10
    have c10 : Cl H10 H2.next [iv 0] := c10
    have c9 := k10.cl c9 (by simp; omega)
    refine wD_end (by repeat' first | exact True.intro | exact (fun h => h) | refine And.intro ?_ ?_ | (intro h; have h : (_ : Nat) = _ := h; omega)) ?_
    refine wC_sound false .ret (rc := .ret) rfl ?_
    have kk := ((k07.trans k8).new k9 (fun x hx => .inr (by simp at hx; omega))).new k10 (fun x hx => .inr (by simp at hx; omega))
    exact ⟨58, #[pt H1.next, pt H2.next], rfl, Or.inl ⟨Or.inr rfl, H10, def58_none, _, res_nc rfl rfl rfl c9 c10, kk, Or.inr (Or.inr ⟨h4, s, d, rfl, rfl, by omega, hset, rfl⟩)⟩⟩
  · refine tri_dregP D38e L38e ?_
    refine Or.inl (Exists.intro _ (Exists.intro _ (And.intro d1.of (And.intro (show row 13 g.v 0 = some g.v from rfl) (And.intro d1.lt ?_)))))
    refine Or.inl (Exists.intro _ (Exists.intro _ (And.intro c7.of (And.intro (show row 2 _ 0 = some [iv (s : Int), iv (d : Int)] from rfl) (And.intro c7.lt ?_)))))
    refine Or.inl (Exists.intro _ (Exists.intro _ (And.intro c7.of (And.intro (show row 2 _ 0 = some [iv (s : Int), iv (d : Int)] from rfl) (And.intro c7.lt ?_)))))
    refine Or.inl ?_
    refine Or.inr (Or.inr (And.intro (by kernel_rfl) (Exists.intro _ (Exists.intro _ (And.intro (callP_args f8) (And.intro ?_ (And.intro (show behindOk [127, 63, 31, 12, 0, 0, 0, 0].reverse 5 = true by kernel_rfl) ?_)))))))
    · repeat' first | exact True.intro | exact (fun h => h) | refine And.intro ?_ ?_
    · obtain ⟨H9, f9, d7, d8, k9⟩ := def58_some (kn := kn) (lo := lo) (k8.cl d2 (by simp)) rfl (k8.cl d3 (by simp)) (by omega) (by omega) (by omega)
      have m8 := k8.1
      exact ⟨58, #[pt H1.next, pt H2.next], rfl, Or.inr ⟨noneV, rfl, H9, f9, _, res_nc rfl rfl rfl d7 d8, (k07.trans k8).new k9 (fun x hx => .inr (by simp at hx; omega)), Or.inr (Or.inl ⟨h4, by rw [hset, Bool.and_false], rfl⟩)⟩⟩
end
end Go.Ax
/-
  Late: Warmth and Tells (15, 19) (written by program).
-/
namespace Go.Ax
open Go Go.RowKit Go.Proofs

/-- what Warmth answers -/
def Lt.Wm (g : Lt) (a b : Int) (w : Value) : Prop :=
  (g.ok = false ∧ w = .tuple #[spv 0 0, iv 1]) ∨ (g.ok = true ∧ flB g a b = false ∧ w = .tuple #[spv 0 0, iv 2]) ∨ (g.ok = true ∧ ∃ s d : Nat, a = s ∧ b = d ∧ s + d ≤ g.wn ∧ w = .tuple #[spv (g.wl s d) (g.wh s d), iv 0])
/-- what Tells answers -/
def Lt.Tl (g : Lt) (a b : Int) (us : List Int) (w : Value) : Prop :=
  (g.ok = false ∧ w = .tuple #[iv 0, iv 0, iv 1]) ∨ (g.ok = true ∧ (flB g a b && setB a (a + b) us) = false ∧ w = .tuple #[iv 0, iv 0, iv 2]) ∨
  (g.ok = true ∧ ∃ s d : Nat, a = s ∧ b = d ∧ s + d ≤ g.wn ∧ setB s (s + d) us = true ∧ w = .tuple #[iv (sureV (decide (g.wl s d ≥ g.kill)) (decide (g.wh s d ≥ g.kill))), iv (sureV (decide (g.sm s (Nat.testBit (dayMask us)) d > g.bear)) (decide (g.sl s (Nat.testBit (dayMask us)) d > g.bear))), iv 0])
theorem res_wm {S : Rg} {H : Hp} {x : Nat} {cs : List Value} {v : Value} (ha : lk S 6 = some (.pointer (some ⟨x, 0, none⟩))) (hb : lk S 7 = some v) (hl : cs.length = 2) (h : Cl H x cs) : resS Try.prog S H [.cell 6 24, .tmp 7] = some [.agg cs.toArray, v] := by
  simp only [resS, ha, hb, load_agg a24 i24s h.rd hl]
section
variable {kn : FuncId → Option Bool} {lo : Nat} {H : Hp}
theorem warmth_ok (h48 : kn 48 = none) {g : Lt} {a b : Int} (hw : Sl H g.wa g.wn g.wcap (spc g.ws)) (ha : Sl H g.aa g.an g.acap (spc g.as)) (hwl : g.ws.length = g.wn) (hal : g.as.length = g.an) (hwn : g.wn ≤ 1000) (han : g.an ≤ 1000) (hlo : lo ≤ H.next) :
    ∃ w H', FnX Try.prog kn lo 15 [.agg g.v.toArray, iv a, iv b] H w H' ∧ Keep H H' [] ∧ g.Wm a b w := by
  refine fnX_low (kn := kn) (lo := lo) (H := H) (args := [.agg g.v.toArray, iv a, iv b]) (Q := fun w H' => Keep H H' [] ∧ g.Wm a b w) Try.func15 B15 N15 Z15 L15 (by simp) ?_
  have hk := Keep.refl H []
  have fw := hw.old; have fa := ha.old
  intro H1 hH1; obtain ⟨kH1, nH1, c1⟩ := new_facts hH1; clear hH1
  have mH1 := kH1.1
  have hk := hk.trans kH1
  have hw := kH1.sl0 hw
  have ha := kH1.sl0 ha
  have c1 : Cl H1 H.next [.slice g.wa g.wn g.wcap, .slice g.aa g.an g.acap, iv g.r1, iv g.r2, iv g.f1, iv g.f2, iv g.g1, iv g.g2, iv g.full, iv g.base, iv g.kill, iv g.need, iv g.bear] := c1
  intro H2 hH2; obtain ⟨kH2, nH2, c2⟩ := new_facts hH2; clear hH2
  have c2 : Cl H2 H1.next [iv 0, iv 0] := c2
  have mH2 := kH2.1
  have hk := hk.trans kH2
  have hw := kH2.sl0 hw
  have ha := kH2.sl0 ha
  have c1 := kH2.cl c1 (by simp)
  refine Exists.intro _ (Exists.intro _ (And.intro c1.of (And.intro (show row 13 _ _ = some [.slice g.wa g.wn g.wcap, .slice g.aa g.an g.acap, iv g.r1, iv g.r2, iv g.f1, iv g.f2, iv g.g1, iv g.g2, iv g.full, iv g.base, iv g.kill, iv g.need, iv g.bear] from rfl) ?_)))
  obtain ⟨wH3, H3, fH3, kH3, hc⟩ := course_ok (kn := kn) (lo := lo) (H := H2) (g := g) (a := a) (b := b) (us := []) hw ha hwl hal hwn han (la := none) (n := 0) (cap := 0) (.inl ⟨.inl rfl, rfl, rfl, rfl⟩) rfl (by decide) (by omega)
  have mH3 := kH3.1
  have hk := hk.trans kH3
  have hw := kH3.sl0 hw
  have ha := kH3.sl0 ha
  have c1 := kH3.cl c1 (by simp)
  have c2 := kH3.cl c2 (by simp)
  rcases hc with ⟨hok, rfl⟩ | ⟨hok, hfl, rfl⟩ | ⟨hok, s, d, rfl, rfl, hsd, hset, rfl⟩
  · refine Exists.intro _ (Exists.intro _ (And.intro (callX_args fH3) ?_))
    refine And.intro rfl (Exists.intro (.agg zeroC.toArray) (And.intro (by kernel_rfl) ?_))
    refine And.intro rfl (Exists.intro (iv 1) (And.intro (by kernel_rfl) ?_))
    intro H4 hH4; obtain ⟨kH4, nH4, c4⟩ := new_facts hH4; clear hH4
    have c4 : Cl H4 H3.next [.slice none 0 0, .slice none 0 0, iv 0, iv 0, iv 0, iv 0, iv 0, iv 0, iv 0, iv 0, iv 0, iv 0, iv 0, iv 0, iv 0, .int .u64 0] := c4
    have mH4 := kH4.1
    have hk := hk.trans kH4
    have hw := kH4.sl0 hw
    have ha := kH4.sl0 ha
    have c1 := kH4.cl c1 (by simp)
    have c2 := kH4.cl c2 (by simp)
    obtain ⟨_, eH5, lH5, gH5⟩ := id c4
    refine Exists.intro _ (Exists.intro _ (Exists.intro _ (And.intro gH5 (And.intro (by omega) (And.intro rfl (And.intro rfl (And.intro (by simp) ?_)))))))
    intro H5 hH5; obtain ⟨kH5, nH5, sH5⟩ := up_facts c4 hH5; clear hH5
    have mH5 := kH5.1
    have hk := hk.new kH5 (fun b hb => by simp at hb ⊢; omega)
    have hw := kH5.sl hw (fun b e => by have := fw b e; first | (simp; done) | (simp; omega))
    have ha := kH5.sl ha (fun b e => by have := fa b e; first | (simp; done) | (simp; omega))
    have c1 := kH5.cl c1 (by first | (simp; done) | (simp; omega))
    have c2 := kH5.cl c2 (by first | (simp; done) | (simp; omega))
    have c4 : Cl H5 H3.next [.slice none 0 0, .slice none 0 0, iv 0, iv 0, iv 0, iv 0, iv 0, iv 0, iv 0, iv 0, iv 0, iv 0, iv 0, iv 0, iv 0, .int .u64 0] := sH5
    refine condT ?_
    refine And.intro rfl (Exists.intro (.agg #[iv 0, iv 0]) (And.intro (by kernel_rfl) ?_))
    obtain ⟨_, eH6, lH6, gH6⟩ := id c2
    refine Exists.intro _ (Exists.intro _ (Exists.intro _ (And.intro gH6 (And.intro (by omega) (And.intro rfl (And.intro rfl (And.intro (by simp) ?_)))))))
    intro H6 hH6; obtain ⟨kH6, nH6, sH6⟩ := up_facts c2 hH6; clear hH6
    have mH6 := kH6.1
    have hk := hk.new kH6 (fun b hb => by simp at hb ⊢; omega)
    have hw := kH6.sl hw (fun b e => by have := fw b e; first | (simp; done) | (simp; omega))
    have ha := kH6.sl ha (fun b e => by have := fa b e; first | (simp; done) | (simp; omega))
    have c1 := kH6.cl c1 (by first | (simp; done) | (simp; omega))
    have c4 := kH6.cl c4 (by first | (simp; done) | (simp; omega))
    have c2 : Cl H6 H1.next [iv 0, iv 0] := sH6
    exact And.intro trivial (Exists.intro _ (And.intro (res_wm rfl rfl rfl c2) ⟨hk, Or.inl ⟨hok, rfl⟩⟩))
  · refine Exists.intro _ (Exists.intro _ (And.intro (callX_args fH3) ?_))
    refine And.intro rfl (Exists.intro (.agg zeroC.toArray) (And.intro (by kernel_rfl) ?_))
    refine And.intro rfl (Exists.intro (iv 2) (And.intro (by kernel_rfl) ?_))
    intro H7 hH7; obtain ⟨kH7, nH7, c7⟩ := new_facts hH7; clear hH7
    have c7 : Cl H7 H3.next [.slice none 0 0, .slice none 0 0, iv 0, iv 0, iv 0, iv 0, iv 0, iv 0, iv 0, iv 0, iv 0, iv 0, iv 0, iv 0, iv 0, .int .u64 0] := c7
    have mH7 := kH7.1
    have hk := hk.trans kH7
    have hw := kH7.sl0 hw
    have ha := kH7.sl0 ha
    have c1 := kH7.cl c1 (by simp)
    have c2 := kH7.cl c2 (by simp)
    obtain ⟨_, eH8, lH8, gH8⟩ := id c7
    refine Exists.intro _ (Exists.intro _ (Exists.intro _ (And.intro gH8 (And.intro (by omega) (And.intro rfl (And.intro rfl (And.intro (by simp) ?_)))))))
    intro H8 hH8; obtain ⟨kH8, nH8, sH8⟩ := up_facts c7 hH8; clear hH8
    have mH8 := kH8.1
    have hk := hk.new kH8 (fun b hb => by simp at hb ⊢; omega)
    have hw := kH8.sl hw (fun b e => by have := fw b e; first | (simp; done) | (simp; omega))
    have ha := kH8.sl ha (fun b e => by have := fa b e; first | (simp; done) | (simp; omega))
    have c1 := kH8.cl c1 (by first | (simp; done) | (simp; omega))
    have c2 := kH8.cl c2 (by first | (simp; done) | (simp; omega))
    have c7 : Cl H8 H3.next [.slice none 0 0, .slice none 0 0, iv 0, iv 0, iv 0, iv 0, iv 0, iv 0, iv 0, iv 0, iv 0, iv 0, iv 0, iv 0, iv 0, .int .u64 0] := sH8
    refine condT ?_
    refine And.intro rfl (Exists.intro (.agg #[iv 0, iv 0]) (And.intro (by kernel_rfl) ?_))
    obtain ⟨_, eH9, lH9, gH9⟩ := id c2
    refine Exists.intro _ (Exists.intro _ (Exists.intro _ (And.intro gH9 (And.intro (by omega) (And.intro rfl (And.intro rfl (And.intro (by simp) ?_)))))))
    intro H9 hH9; obtain ⟨kH9, nH9, sH9⟩ := up_facts c2 hH9; clear hH9
    have mH9 := kH9.1
    have hk := hk.new kH9 (fun b hb => by simp at hb ⊢; omega)
    have hw := kH9.sl hw (fun b e => by have := fw b e; first | (simp; done) | (simp; omega))
    have ha := kH9.sl ha (fun b e => by have := fa b e; first | (simp; done) | (simp; omega))
    have c1 := kH9.cl c1 (by first | (simp; done) | (simp; omega))
    have c7 := kH9.cl c7 (by first | (simp; done) | (simp; omega))
    have c2 : Cl H9 H1.next [iv 0, iv 0] := sH9
    exact And.intro trivial (Exists.intro _ (And.intro (res_wm rfl rfl rfl c2) ⟨hk, Or.inr (Or.inl ⟨hok, by simpa [setB] using hfl, rfl⟩)⟩))
  · have v := Lt.vd hok hwl hal
    refine Exists.intro _ (Exists.intro _ (And.intro (callX_args fH3) ?_))
    refine And.intro rfl (Exists.intro (.agg (crs g s d (dayMask [])).toArray) (And.intro (by kernel_rfl) ?_))
    refine And.intro rfl (Exists.intro (iv 0) (And.intro (by kernel_rfl) ?_))
    intro H10 hH10; obtain ⟨kH10, nH10, c10⟩ := new_facts hH10; clear hH10
    have c10 : Cl H10 H3.next [.slice none 0 0, .slice none 0 0, iv 0, iv 0, iv 0, iv 0, iv 0, iv 0, iv 0, iv 0, iv 0, iv 0, iv 0, iv 0, iv 0, .int .u64 0] := c10
    have mH10 := kH10.1
    have hk := hk.trans kH10
    have hw := kH10.sl0 hw
    have ha := kH10.sl0 ha
    have c1 := kH10.cl c1 (by simp)
    have c2 := kH10.cl c2 (by simp)
    obtain ⟨_, eH11, lH11, gH11⟩ := id c10
    refine Exists.intro _ (Exists.intro _ (Exists.intro _ (And.intro gH11 (And.intro (by omega) (And.intro rfl (And.intro rfl (And.intro (by simp) ?_)))))))
    intro H11 hH11; obtain ⟨kH11, nH11, sH11⟩ := up_facts c10 hH11; clear hH11
    have mH11 := kH11.1
    have hk := hk.new kH11 (fun b hb => by simp at hb ⊢; omega)
    have hw := kH11.sl hw (fun b e => by have := fw b e; first | (simp; done) | (simp; omega))
    have ha := kH11.sl ha (fun b e => by have := fa b e; first | (simp; done) | (simp; omega))
    have c1 := kH11.cl c1 (by first | (simp; done) | (simp; omega))
    have c2 := kH11.cl c2 (by first | (simp; done) | (simp; omega))
    have c10 : Cl H11 H3.next [.slice g.wa g.wn g.wcap, .slice g.aa g.an g.acap, iv g.r1, iv g.r2, iv g.f1, iv g.f2, iv g.g1, iv g.g2, iv g.full, iv g.base, iv g.kill, iv g.need, iv g.bear, iv (s : Int), iv (d : Int), .int .u64 ((dayMask [] : Nat) : Int)] := sH11
    refine condF ?_
    refine Exists.intro _ (Exists.intro _ (And.intro c10.of (And.intro (show row 16 _ _ = some [.slice g.wa g.wn g.wcap, .slice g.aa g.an g.acap, iv g.r1, iv g.r2, iv g.f1, iv g.f2, iv g.g1, iv g.g2, iv g.full, iv g.base, iv g.kill, iv g.need, iv g.bear, iv (s : Int), iv (d : Int), .int .u64 ((dayMask [] : Nat) : Int)] from rfl) ?_)))
    obtain ⟨H12, fH12, kH12⟩ := end_ok (kn := kn) (lo := lo) (H := H11) (m := dayMask []) h48 v hsd hw ha (by omega)
    refine Exists.intro _ (Exists.intro _ (And.intro (callX_args fH12) ?_))
    have mH12 := kH12.1
    have hk := hk.trans kH12
    have hw := kH12.sl0 hw
    have ha := kH12.sl0 ha
    have c1 := kH12.cl c1 (by simp)
    have c2 := kH12.cl c2 (by simp)
    have c10 := kH12.cl c10 (by simp)
    have hwi := Lt.wl_in v d hsd
    have hsi := Lt.sl_in (g := g) (s := s) (F := (Nat.testBit (dayMask []))) d; have hmi := Lt.sm_in (g := g) (s := s) (F := (Nat.testBit (dayMask []))) d
    refine And.intro rfl (Exists.intro (.agg #[iv (g.wl s d), iv (g.wh s d)]) (And.intro (by kernel_rfl) ?_))
    obtain ⟨_, eH13, lH13, gH13⟩ := id c2
    refine Exists.intro _ (Exists.intro _ (Exists.intro _ (And.intro gH13 (And.intro (by omega) (And.intro rfl (And.intro rfl (And.intro (by simp) ?_)))))))
    intro H13 hH13; obtain ⟨kH13, nH13, sH13⟩ := up_facts c2 hH13; clear hH13
    have mH13 := kH13.1
    have hk := hk.new kH13 (fun b hb => by simp at hb ⊢; omega)
    have hw := kH13.sl hw (fun b e => by have := fw b e; first | (simp; done) | (simp; omega))
    have ha := kH13.sl ha (fun b e => by have := fa b e; first | (simp; done) | (simp; omega))
    have c1 := kH13.cl c1 (by first | (simp; done) | (simp; omega))
    have c10 := kH13.cl c10 (by first | (simp; done) | (simp; omega))
    have c2 : Cl H13 H1.next [iv (g.wl s d), iv (g.wh s d)] := sH13
    exact And.intro trivial (Exists.intro _ (And.intro (res_wm rfl rfl rfl c2) ⟨hk, Or.inr (Or.inr ⟨hok, s, d, rfl, rfl, hsd, rfl⟩)⟩))
theorem tells_ok (h48 : kn 48 = none) {g : Lt} {a b : Int} (hw : Sl H g.wa g.wn g.wcap (spc g.ws)) (ha : Sl H g.aa g.an g.acap (spc g.as)) (hwl : g.ws.length = g.wn) (hal : g.as.length = g.an) (hwn : g.wn ≤ 1000) (han : g.an ≤ 1000) {la : Option Addr} {n cap : Nat} {us : List Int} (hl : Sl H la n cap (ints us)) (hul : us.length = n) (hn : n ≤ 1000) (hlo : lo ≤ H.next) :
    ∃ w H', FnX Try.prog kn lo 19 [.agg g.v.toArray, iv a, iv b, .slice la n cap] H w H' ∧ Keep H H' [] ∧ g.Tl a b us w := by
  refine fnX_low (kn := kn) (lo := lo) (H := H) (args := [.agg g.v.toArray, iv a, iv b, .slice la n cap]) (Q := fun w H' => Keep H H' [] ∧ g.Tl a b us w) Try.func19 B19 N19 Z19 L19 (by simp) ?_
  have hk := Keep.refl H []
  have fw := hw.old; have fa := ha.old
  have fl := hl.old
  intro H1 hH1; obtain ⟨kH1, nH1, c1⟩ := new_facts hH1; clear hH1
  have mH1 := kH1.1
  have hk := hk.trans kH1
  have hw := kH1.sl0 hw
  have ha := kH1.sl0 ha
  have hl := kH1.sl0 hl
  have c1 : Cl H1 H.next [.slice g.wa g.wn g.wcap, .slice g.aa g.an g.acap, iv g.r1, iv g.r2, iv g.f1, iv g.f2, iv g.g1, iv g.g2, iv g.full, iv g.base, iv g.kill, iv g.need, iv g.bear] := c1
  refine Exists.intro _ (Exists.intro _ (And.intro c1.of (And.intro (show row 13 _ _ = some [.slice g.wa g.wn g.wcap, .slice g.aa g.an g.acap, iv g.r1, iv g.r2, iv g.f1, iv g.f2, iv g.g1, iv g.g2, iv g.full, iv g.base, iv g.kill, iv g.need, iv g.bear] from rfl) ?_)))
  obtain ⟨wH2, H2, fH2, kH2, hc⟩ := course_ok (kn := kn) (lo := lo) (H := H1) (g := g) (a := a) (b := b) (us := us) hw ha hwl hal hwn han hl hul hn (by omega)
  have mH2 := kH2.1
  have hk := hk.trans kH2
  have hw := kH2.sl0 hw
  have ha := kH2.sl0 ha
  have hl := kH2.sl0 hl
  have c1 := kH2.cl c1 (by simp)
  rcases hc with ⟨hok, rfl⟩ | ⟨hok, hfl, rfl⟩ | ⟨hok, s, d, rfl, rfl, hsd, hset, rfl⟩
  · refine Exists.intro _ (Exists.intro _ (And.intro (callX_args fH2) ?_))
    refine And.intro rfl (Exists.intro (.agg zeroC.toArray) (And.intro (by kernel_rfl) ?_))
    refine And.intro rfl (Exists.intro (iv 1) (And.intro (by kernel_rfl) ?_))
    intro H3 hH3; obtain ⟨kH3, nH3, c3⟩ := new_facts hH3; clear hH3
    have c3 : Cl H3 H2.next [.slice none 0 0, .slice none 0 0, iv 0, iv 0, iv 0, iv 0, iv 0, iv 0, iv 0, iv 0, iv 0, iv 0, iv 0, iv 0, iv 0, .int .u64 0] := c3
    have mH3 := kH3.1
    have hk := hk.trans kH3
    have hw := kH3.sl0 hw
    have ha := kH3.sl0 ha
    have hl := kH3.sl0 hl
    have c1 := kH3.cl c1 (by simp)
    obtain ⟨_, eH4, lH4, gH4⟩ := id c3
    refine Exists.intro _ (Exists.intro _ (Exists.intro _ (And.intro gH4 (And.intro (by omega) (And.intro rfl (And.intro rfl (And.intro (by simp) ?_)))))))
    intro H4 hH4; obtain ⟨kH4, nH4, sH4⟩ := up_facts c3 hH4; clear hH4
    have mH4 := kH4.1
    have hk := hk.new kH4 (fun b hb => by simp at hb ⊢; omega)
    have hw := kH4.sl hw (fun b e => by have := fw b e; first | (simp; done) | (simp; omega))
    have ha := kH4.sl ha (fun b e => by have := fa b e; first | (simp; done) | (simp; omega))
    have hl := kH4.sl hl (fun b e => by have := fl b e; first | (simp; done) | (simp; omega))
    have c1 := kH4.cl c1 (by first | (simp; done) | (simp; omega))
    have c3 : Cl H4 H2.next [.slice none 0 0, .slice none 0 0, iv 0, iv 0, iv 0, iv 0, iv 0, iv 0, iv 0, iv 0, iv 0, iv 0, iv 0, iv 0, iv 0, .int .u64 0] := sH4
    refine condT ?_
    exact And.intro trivial (Exists.intro _ (And.intro rfl ⟨hk, Or.inl ⟨hok, rfl⟩⟩))
  · refine Exists.intro _ (Exists.intro _ (And.intro (callX_args fH2) ?_))
    refine And.intro rfl (Exists.intro (.agg zeroC.toArray) (And.intro (by kernel_rfl) ?_))
    refine And.intro rfl (Exists.intro (iv 2) (And.intro (by kernel_rfl) ?_))
    intro H5 hH5; obtain ⟨kH5, nH5, c5⟩ := new_facts hH5; clear hH5
    have c5 : Cl H5 H2.next [.slice none 0 0, .slice none 0 0, iv 0, iv 0, iv 0, iv 0, iv 0, iv 0, iv 0, iv 0, iv 0, iv 0, iv 0, iv 0, iv 0, .int .u64 0] := c5
    have mH5 := kH5.1
    have hk := hk.trans kH5
    have hw := kH5.sl0 hw
    have ha := kH5.sl0 ha
    have hl := kH5.sl0 hl
    have c1 := kH5.cl c1 (by simp)
    obtain ⟨_, eH6, lH6, gH6⟩ := id c5
    refine Exists.intro _ (Exists.intro _ (Exists.intro _ (And.intro gH6 (And.intro (by omega) (And.intro rfl (And.intro rfl (And.intro (by simp) ?_)))))))
    intro H6 hH6; obtain ⟨kH6, nH6, sH6⟩ := up_facts c5 hH6; clear hH6
    have mH6 := kH6.1
    have hk := hk.new kH6 (fun b hb => by simp at hb ⊢; omega)
    have hw := kH6.sl hw (fun b e => by have := fw b e; first | (simp; done) | (simp; omega))
    have ha := kH6.sl ha (fun b e => by have := fa b e; first | (simp; done) | (simp; omega))
    have hl := kH6.sl hl (fun b e => by have := fl b e; first | (simp; done) | (simp; omega))
    have c1 := kH6.cl c1 (by first | (simp; done) | (simp; omega))
    have c5 : Cl H6 H2.next [.slice none 0 0, .slice none 0 0, iv 0, iv 0, iv 0, iv 0, iv 0, iv 0, iv 0, iv 0, iv 0, iv 0, iv 0, iv 0, iv 0, .int .u64 0] := sH6
    refine condT ?_
    exact And.intro trivial (Exists.intro _ (And.intro rfl ⟨hk, Or.inr (Or.inl ⟨hok, hfl, rfl⟩)⟩))
  · have v := Lt.vd hok hwl hal
    refine Exists.intro _ (Exists.intro _ (And.intro (callX_args fH2) ?_))
    refine And.intro rfl (Exists.intro (.agg (crs g s d (dayMask us)).toArray) (And.intro (by kernel_rfl) ?_))
    refine And.intro rfl (Exists.intro (iv 0) (And.intro (by kernel_rfl) ?_))
    intro H7 hH7; obtain ⟨kH7, nH7, c7⟩ := new_facts hH7; clear hH7
    have c7 : Cl H7 H2.next [.slice none 0 0, .slice none 0 0, iv 0, iv 0, iv 0, iv 0, iv 0, iv 0, iv 0, iv 0, iv 0, iv 0, iv 0, iv 0, iv 0, .int .u64 0] := c7
    have mH7 := kH7.1
    have hk := hk.trans kH7
    have hw := kH7.sl0 hw
    have ha := kH7.sl0 ha
    have hl := kH7.sl0 hl
    have c1 := kH7.cl c1 (by simp)
    obtain ⟨_, eH8, lH8, gH8⟩ := id c7
    refine Exists.intro _ (Exists.intro _ (Exists.intro _ (And.intro gH8 (And.intro (by omega) (And.intro rfl (And.intro rfl (And.intro (by simp) ?_)))))))
    intro H8 hH8; obtain ⟨kH8, nH8, sH8⟩ := up_facts c7 hH8; clear hH8
    have mH8 := kH8.1
    have hk := hk.new kH8 (fun b hb => by simp at hb ⊢; omega)
    have hw := kH8.sl hw (fun b e => by have := fw b e; first | (simp; done) | (simp; omega))
    have ha := kH8.sl ha (fun b e => by have := fa b e; first | (simp; done) | (simp; omega))
    have hl := kH8.sl hl (fun b e => by have := fl b e; first | (simp; done) | (simp; omega))
    have c1 := kH8.cl c1 (by first | (simp; done) | (simp; omega))
    have c7 : Cl H8 H2.next [.slice g.wa g.wn g.wcap, .slice g.aa g.an g.acap, iv g.r1, iv g.r2, iv g.f1, iv g.f2, iv g.g1, iv g.g2, iv g.full, iv g.base, iv g.kill, iv g.need, iv g.bear, iv (s : Int), iv (d : Int), .int .u64 ((dayMask us : Nat) : Int)] := sH8
    refine condF ?_
    refine Exists.intro _ (Exists.intro _ (And.intro c7.of (And.intro (show row 16 _ _ = some [.slice g.wa g.wn g.wcap, .slice g.aa g.an g.acap, iv g.r1, iv g.r2, iv g.f1, iv g.f2, iv g.g1, iv g.g2, iv g.full, iv g.base, iv g.kill, iv g.need, iv g.bear, iv (s : Int), iv (d : Int), .int .u64 ((dayMask us : Nat) : Int)] from rfl) ?_)))
    obtain ⟨H9, fH9, kH9⟩ := end_ok (kn := kn) (lo := lo) (H := H8) (m := dayMask us) h48 v hsd hw ha (by omega)
    refine Exists.intro _ (Exists.intro _ (And.intro (callX_args fH9) ?_))
    have mH9 := kH9.1
    have hk := hk.trans kH9
    have hw := kH9.sl0 hw
    have ha := kH9.sl0 ha
    have hl := kH9.sl0 hl
    have c1 := kH9.cl c1 (by simp)
    have c7 := kH9.cl c7 (by simp)
    have hwi := Lt.wl_in v d hsd
    have hsi := Lt.sl_in (g := g) (s := s) (F := (Nat.testBit (dayMask us))) d; have hmi := Lt.sm_in (g := g) (s := s) (F := (Nat.testBit (dayMask us))) d
    intro H10 hH10; obtain ⟨kH10, nH10, c10⟩ := new_facts hH10; clear hH10
    have c10 : Cl H10 H9.next [iv 0, iv 0, iv 0, iv 0, iv 0, iv 0, iv 0] := c10
    have mH10 := kH10.1
    have hk := hk.trans kH10
    have hw := kH10.sl0 hw
    have ha := kH10.sl0 ha
    have hl := kH10.sl0 hl
    have c1 := kH10.cl c1 (by simp)
    have c7 := kH10.cl c7 (by simp)
    obtain ⟨_, eH11, lH11, gH11⟩ := id c10
    refine Exists.intro _ (Exists.intro _ (Exists.intro _ (And.intro gH11 (And.intro (by omega) (And.intro rfl (And.intro rfl (And.intro (by simp) ?_)))))))
    intro H11 hH11; obtain ⟨kH11, nH11, sH11⟩ := up_facts c10 hH11; clear hH11
    have mH11 := kH11.1
    have hk := hk.new kH11 (fun b hb => by simp at hb ⊢; omega)
    have hw := kH11.sl hw (fun b e => by have := fw b e; first | (simp; done) | (simp; omega))
    have ha := kH11.sl ha (fun b e => by have := fa b e; first | (simp; done) | (simp; omega))
    have hl := kH11.sl hl (fun b e => by have := fl b e; first | (simp; done) | (simp; omega))
    have c1 := kH11.cl c1 (by first | (simp; done) | (simp; omega))
    have c7 := kH11.cl c7 (by first | (simp; done) | (simp; omega))
    have c10 : Cl H11 H9.next [iv (d : Int), iv (g.wl s d), iv (g.wh s d), iv (g.lo s (Nat.testBit (dayMask us)) d), iv (g.sl s (Nat.testBit (dayMask us)) d), iv (g.hi s (Nat.testBit (dayMask us)) d), iv (g.sm s (Nat.testBit (dayMask us)) d)] := sH11
    refine Exists.intro _ (Exists.intro _ (And.intro c10.of (And.intro (show _ = some (iv (g.wl s d)) from rfl) ?_)))
    refine Exists.intro _ (Exists.intro _ (And.intro c1.of (And.intro (show _ = some (iv g.kill) from rfl) ?_)))
    refine Exists.intro _ (Exists.intro _ (And.intro c10.of (And.intro (show _ = some (iv (g.wh s d)) from rfl) ?_)))
    refine Exists.intro _ (Exists.intro _ (And.intro c1.of (And.intro (show _ = some (iv g.kill) from rfl) ?_)))
    obtain ⟨H12, fH12, kH12⟩ := sure_ok (kn := kn) (lo := lo) (H := H11) (a := decide ((g.wl s d) ≥ g.kill)) (s := decide ((g.wh s d) ≥ g.kill))
    refine Exists.intro _ (Exists.intro _ (And.intro (callX_args fH12) ?_))
    have mH12 := kH12.1
    have hk := hk.trans kH12
    have hw := kH12.sl0 hw
    have ha := kH12.sl0 ha
    have hl := kH12.sl0 hl
    have c1 := kH12.cl c1 (by simp)
    have c7 := kH12.cl c7 (by simp)
    have c10 := kH12.cl c10 (by simp)
    refine Exists.intro _ (Exists.intro _ (And.intro c10.of (And.intro (show _ = some (iv (g.sm s (Nat.testBit (dayMask us)) d)) from rfl) ?_)))
    refine Exists.intro _ (Exists.intro _ (And.intro c1.of (And.intro (show _ = some (iv g.bear) from rfl) ?_)))
    refine Exists.intro _ (Exists.intro _ (And.intro c10.of (And.intro (show _ = some (iv (g.sl s (Nat.testBit (dayMask us)) d)) from rfl) ?_)))
    refine Exists.intro _ (Exists.intro _ (And.intro c1.of (And.intro (show _ = some (iv g.bear) from rfl) ?_)))
    obtain ⟨H13, fH13, kH13⟩ := sure_ok (kn := kn) (lo := lo) (H := H12) (a := decide ((g.sm s (Nat.testBit (dayMask us)) d) > g.bear)) (s := decide ((g.sl s (Nat.testBit (dayMask us)) d) > g.bear))
    refine Exists.intro _ (Exists.intro _ (And.intro (callX_args fH13) ?_))
    have mH13 := kH13.1
    have hk := hk.trans kH13
    have hw := kH13.sl0 hw
    have ha := kH13.sl0 ha
    have hl := kH13.sl0 hl
    have c1 := kH13.cl c1 (by simp)
    have c7 := kH13.cl c7 (by simp)
    have c10 := kH13.cl c10 (by simp)
    exact And.intro trivial (Exists.intro _ (And.intro rfl ⟨hk, Or.inr (Or.inr ⟨hok, s, d, rfl, rfl, hsd, hset, rfl⟩)⟩))
end
end Go.Ax
/-
  Late: the states with the iterator's own block; Oxygen (17) (written by program).
-/
namespace Go.Ax
open Go Go.RowKit Go.Proofs

noncomputable abbrev asg17 : Code := at_ Try.f17 [1, 1, 1, 1, 0, 1, 0, 0]
noncomputable abbrev body17 : Code := at_ Try.f17 [1, 1, 1, 1, 0, 1, 0, 1]
theorem se22 : sliceElem Try.prog 22 = some (24, 2) := by kernel_rfl
theorem z24 : zeroOf Try.prog 24 = some (.agg #[iv 0, iv 0]) := by kernel_rfl
theorem u22 : Try.prog.underlying 22 = some (.slice 24) := by kernel_rfl
structure OX where
  g : Lt
  s : Nat
  d : Nat
  m : Nat
  b12 : Nat
  bc : Nat
  r : Nat
structure OJ (X : OX) (lo : Nat) (H0 : Hp) (b k : Nat) (H' : Hp) : Prop where
  c12 : ∃ wv, Cl H' X.b12 [wv] ∧ Acc lo (b + 1) 24 H' wv (k - 1) (spc (X.g.ox X.s (Nat.testBit X.m) (k - 1)))
  cb : Rd H' X.bc (crs X.g X.s X.d X.m)
  hw : Sl H' X.g.wa X.g.wn X.g.wcap (spc X.g.ws)
  ha : Sl H' X.g.aa X.g.an X.g.acap (spc X.g.as)
  lp : Lp Try.prog H' (X.r + 1) .ready none 37 [(12, pt X.b12)] [27] asg17 body17 X.r
  lb : X.r + 1 < b
  ll : b < H'.next
  dfr : H'.t.get X.r = some (.dfr (some []))
  kp : Keep H0 H' []
structure OG (X : OX) (lo : Nat) (H0 : Hp) : Prop where
  o0 : H0.next ≤ X.b12
  ol : lo ≤ X.b12
  o1 : X.b12 < X.bc
  o2 : X.bc < X.r
theorem Acc.other {lo f : Nat} {e : TypeId} {H H1 : Hp} {v : Value} {n : Nat} {cs : List Value} (h : Acc lo f e H v n cs) {w : List Nat} (k : Keep H H1 w) (hw : ∀ b ∈ w, b < f) : Acc lo f e H1 v n cs :=
  h.imp id fun ⟨b, e1, h0, hf, hl, hn, hg⟩ => ⟨b, e1, h0, hf, hl, Nat.lt_of_lt_of_le hn k.1, by rw [k.2 b hn (fun q => by have := hw b q; omega)]; exact hg⟩
section
variable {kn : FuncId → Option Bool} {lo : Nat} {H : Hp}
/-- The states, one by one, with the block of the iterator's own: J holds ahead of the k-th one. -/
theorem iter_ok2 {g : Lt} (v : g.Vd) {s d m l bc : Nat} (hsd : s + d ≤ g.wn) (J : Nat → Nat → Hp → Prop) (hlo : lo ≤ H.next) (rc : Rd H bc (crs g s d m)) (hJ0 : ∀ b H1, Keep H H1 [] → H.next ≤ b → b < H1.next → J b 0 H1) (hJe : ∀ b k H1, J b k H1 → Rd H1 bc (crs g s d m) ∧ Sl H1 g.wa g.wn g.wcap (spc g.ws) ∧ Sl H1 g.aa g.an g.acap (spc g.as))
    (hJk : ∀ b k H1 H2, J b k H1 → Keep H1 H2 [b] → J b k H2) (hJn : ∀ b k H1, J b k H1 → H.next ≤ H1.next)
    (step : ∀ b k H1, k ≤ d → J b k H1 → ∃ H', CallsX Try.prog kn lo (.fn (.yield l) #[]) [.agg (g.st s (Nat.testBit m) k).toArray] H1 (.bool true) H' ∧ (∀ cs, Cl H1 b cs → Cl H' b cs) ∧ J b (k + 1) H') :
    ∃ b H', FnX Try.prog kn lo 63 [.func (.yield l) #[] #[], pt bc] H unit H' ∧ H.next ≤ b ∧ J b (d + 1) H' := by
  have key := fnX_low (kn := kn) (lo := lo) (H := H) (args := [.func (.yield l) #[] #[], pt bc]) (Q := fun w H' => w = unit ∧ ∃ b, H.next ≤ b ∧ J b (d + 1) H') Try.func63 B63 N63 Z63 L63 (by simp) ?_
  · obtain ⟨w, H', h, rfl, b, q⟩ := key; exact ⟨b, H', h, q⟩
  have hk := Keep.refl H []
  have hJm : ∀ b k H1 H2, J b k H1 → Keep H1 H2 [] → J b k H2 := fun b k H1 H2 j kk => hJk b k H1 H2 j (kk.mono (by simp))
  have lbc := rc.lt
  refine wD_seq ?_
  refine wD_addo (b := bc) (o := 0) rfl ?_
  refine wD_addo (b := bc) (o := 0) rfl ?_
  refine wD_lda (b := bc) (o := 4) rfl rc (show row 2 _ _ = some [iv g.f1, iv g.f2] from rfl) ?_
  obtain ⟨H1, fH1, kH1⟩ := bound64_ok (kn := kn) (lo := H.next) (H := H) (a := g.f1) (b := g.f2) (Nat.le_refl _)
  refine wD_callh (vs := [spv g.f1 g.f2]) rfl (by kernel_rfl) (callX_args fH1) ?_
  have mH1 := kH1.1
  have hk := hk.trans kH1
  have rc := kH1.rd rc (by simp)
  refine wD_addo (b := bc) (o := 0) rfl ?_
  refine wD_addo (b := bc) (o := 0) rfl ?_
  refine wD_lda (b := bc) (o := 4) rfl rc (show row 2 _ _ = some [iv g.f1, iv g.f2] from rfl) ?_
  obtain ⟨H2, fH2, kH2⟩ := bound65_ok (kn := kn) (lo := H1.next) (H := H1) (a := g.f1) (b := g.f2) (Nat.le_refl _)
  refine wD_callh (vs := [spv g.f1 g.f2]) rfl (by kernel_rfl) (callX_args fH2) ?_
  have mH2 := kH2.1
  have hk := hk.trans kH2
  have rc := kH2.rd rc (by simp)
  refine wD_pur (v := .agg #[iv 0, iv 0, iv 0, iv g.f1, iv 0, iv g.f2, iv 0]) rfl (by kernel_rfl) ?_
  refine wD_alc ?_
  intro H3 kH3 nH3 c3
  have c3 : Cl H3 H2.next [iv 0, iv 0, iv 0, iv 0, iv 0, iv 0, iv 0] := c3
  have mH3 := kH3.1
  have hk := hk.trans kH3
  have rc := kH3.rd rc (by simp)
  refine wD_sta (b := H2.next) (o := 0) rfl rfl c3 (by omega) rfl rfl (by simp) ?_
  intro H4 kH4 nH4 sH4
  have mH4 := kH4.1
  have hk := hk.new kH4 (fun b hb => by simp at hb ⊢; omega)
  have rc := kH4.rd rc (by first | (simp; done) | (simp; omega))
  have c3 : Cl H4 H2.next [iv 0, iv 0, iv 0, iv g.f1, iv 0, iv g.f2, iv 0] := sH4
  refine wD_end (by repeat' first | exact True.intro | exact (fun h => h) | refine And.intro ?_ ?_ | (intro h; have h : (_ : Nat) = _ := h; omega)) ?_
  have hb3 : H.next ≤ H2.next := by omega
  have hJs : J H2.next 0 H4 := hJ0 _ _ hk hb3 (by omega)
  generalize H2.next = b3 at *
  have c0 : Cl H4 b3 (g.st s (Nat.testBit m) 0) := c3
  refine loop_low (fn := Try.f63) E63_1 N63 L63x1 (fun k : Nat => [(0, .func (.yield l) #[] #[]), (1, pt bc), (3, pt b3)])
    (fun q k H' => k + q = d ∧ J b3 k H' ∧ Cl H' b3 (g.st s (Nat.testBit m) k)) d 0 ⟨by omega, hJs, c0⟩ ⟨rfl, rfl, rfl, trivial⟩ ?_
  rintro q k H5 ⟨hkq, hJ, c⟩
  refine Exists.intro _ (Exists.intro _ (And.intro c.of (And.intro (show _ = some (iv (k : Int)) from rfl) ?_)))
  refine Exists.intro _ (Exists.intro _ (And.intro (hJe b3 k H5 hJ).1.of (And.intro (show _ = some (iv (d : Int)) from rfl) ?_)))
  refine And.intro (fun hlt => ?_) (fun hge => ?_)
  · have hlt : k < d := by have := of_decide_eq_true hlt; omega
    refine Exists.intro _ (Exists.intro _ (And.intro c.of (And.intro (show row 7 _ 0 = some (g.st s (Nat.testBit m) k) from rfl) ?_)))
    obtain ⟨H6, f6, own, hj⟩ := step b3 k H5 (by omega) hJ
    refine Exists.intro _ (Exists.intro _ (And.intro f6 ?_))
    refine And.intro rfl (Exists.intro (.bool false) (And.intro rfl ?_))
    refine condF ?_
    have c6 := own _ c
    obtain ⟨r6, hw6, ha6⟩ := hJe b3 (k + 1) H6 hj
    refine Exists.intro _ (Exists.intro _ (And.intro r6.of (And.intro (show row 16 _ 0 = some (crs g s d m) from rfl) ?_)))
    refine Exists.intro _ (Exists.intro _ (And.intro c6.of (And.intro (show row 7 _ 0 = some (g.st s (Nat.testBit m) k) from rfl) ?_)))
    have hn6 := hJn _ _ _ hj
    obtain ⟨H7, f7, k7⟩ := day_ok (kn := kn) (lo := lo) (H := H6) (s := s) (d := d) (m := m) v (k := k) (by omega) hw6 ha6 (by omega)
    refine Exists.intro _ (Exists.intro _ (And.intro (callX_args f7) ?_))
    have c7 := k7.cl c6 (by simp)
    obtain ⟨_, e8, l8, g8⟩ := id c7
    refine Exists.intro _ (Exists.intro _ (Exists.intro _ (And.intro g8 (And.intro (by omega) (And.intro rfl (And.intro rfl (And.intro (by simp) ?_)))))))
    intro H8 hH8; obtain ⟨k8, n8, c8⟩ := up_facts c7 hH8; clear hH8
    have c8 : Cl H8 b3 (g.st s (Nat.testBit m) (k + 1)) := c8
    exact ⟨q - 1, k + 1, by omega, ⟨by omega, hJk _ _ _ _ (hJm _ _ _ _ hj k7) k8, c8⟩, rfl, rfl, rfl, trivial⟩
  · have hge : ¬ k < d := by have := of_decide_eq_false hge; omega
    have e : k = d := by omega
    subst e
    refine Exists.intro _ (Exists.intro _ (And.intro c.of (And.intro (show row 7 _ 0 = some (g.st s (Nat.testBit m) k) from rfl) ?_)))
    obtain ⟨H6, f6, own, hj⟩ := step b3 k H5 (Nat.le_refl _) hJ
    refine Exists.intro _ (Exists.intro _ (And.intro f6 ?_))
    exact And.intro trivial (Exists.intro _ (And.intro rfl ⟨rfl, b3, hb3, hj⟩))
theorem ox_round {X : OX} {H0 : Hp} (G : OG X lo H0) (v : X.g.Vd) (hsd : X.s + X.d ≤ X.g.wn) (fw : ∀ b, X.g.wa = some ⟨b, 0, none⟩ → b < H0.next) (fa : ∀ b, X.g.aa = some ⟨b, 0, none⟩ → b < H0.next) {b k : Nat} (hkd : k ≤ X.d) (j : OJ X lo H0 b k H) :
    ∃ H', CallsX Try.prog kn lo (.fn (.yield (X.r + 1)) #[]) [.agg (X.g.st X.s (Nat.testBit X.m) k).toArray] H (.bool true) H' ∧ (∀ cs, Cl H b cs → Cl H' b cs) ∧ OJ X lo H0 b (k + 1) H' := by
  have L1 : low Try.prog 37 asg17 = some R17x1 := N17 ▸ L17x1
  have L2 : low Try.prog 37 body17 = some R17x2 := N17 ▸ L17x2
  obtain ⟨o0, ol, o1, o2⟩ := G
  have hn40 := v.n40
  have key := yield_ok (kn := kn) (P := Try.prog) (lo := lo) (S1 := (27, .agg (X.g.st X.s (Nat.testBit X.m) k).toArray) :: [(12, pt X.b12)]) (args := [.agg (X.g.st X.s (Nat.testBit X.m) k).toArray]) (Q := fun t H' => t = true ∧ (∀ cs, Cl H b cs → Cl H' b cs) ∧ OJ X lo H0 b (k + 1) H') j.lp (by omega) (by rfl) rfl (wC_sound true _ L1 ?_)
  · obtain ⟨t, H', h, rfl, q⟩ := key; exact ⟨H', h, q⟩
  have ll := j.ll
  have lb := j.lb
  intro H1 hH1; obtain ⟨k1, n1, c1⟩ := new_facts hH1; clear hH1
  obtain ⟨_, e2, l2, g2⟩ := id c1
  refine Exists.intro _ (Exists.intro _ (Exists.intro _ (And.intro g2 (And.intro (by have := j.kp.1; omega) (And.intro rfl (And.intro rfl (And.intro (by simp) ?_)))))))
  intro H2 hH2; obtain ⟨k2, n2, c2⟩ := up_facts c1 hH2; clear hH2
  have c2 : Cl H2 H.next (X.g.st X.s (Nat.testBit X.m) k) := c2
  have k02 : Keep H H2 [] := k1.new k2 (fun b hb => .inr (by simp at hb; omega))
  have m02 := k02.1
  have lp2 := j.lp.keep k02 (by omega) (by simp)
  refine And.intro trivial (And.intro lp2 ?_)
  intro H4 s4
  have k4 := s4.keep
  have lp4 := s4.lp lp2
  have hn4 : H4.next = H2.next := s4.1
  have nl : ∀ x, x < X.r + 1 → x ∉ [X.r + 1] := fun x hx => by simp; omega
  have k04 : Keep H H4 [X.r + 1] := (k02.mono (by simp)).trans k4
  obtain ⟨wv, d12, acc⟩ := j.c12
  have d12 := k04.cl d12 (nl _ (by omega))
  have db := k04.rd j.cb (nl _ (by omega))
  have dw := k04.sl j.hw (fun b e => nl _ (by have := fw b e; omega))
  have da := k04.sl j.ha (fun b e => nl _ (by have := fa b e; omega))
  have c4 := k4.cl c2 (by simp; omega)
  have ddf : H4.t.get X.r = some (.dfr (some [])) := by rw [k04.2 X.r (by omega) (nl _ (by omega))]; exact j.dfr
  have kp4 : Keep H0 H4 [] := j.kp.new k04 (fun b hb => .inr (by simp at hb; omega))
  have acc := acc.other k04 (by intro b hb; simp at hb; omega)
  refine wC_sound true _ L2 ?_
  refine Exists.intro _ (Exists.intro _ (And.intro c4.of (And.intro (show _ = some (iv (k : Int)) from rfl) ?_)))
  rcases Nat.eq_zero_or_pos k with h0 | h0
  · subst h0
    refine condF ?_
    refine And.intro lp4 ?_
    intro H7 s7
    have k7 := s7.keep
    have hn7 : H7.next = H4.next := s7.1
    have k47 : Keep H H7 [X.r + 1] := k04.trans k7
    exact ⟨rfl, fun cs c => k47.cl c (by simp; omega), ⟨⟨wv, k7.cl d12 (nl _ (by omega)), acc.other k7 (by intro b hb; simp at hb; omega)⟩, k7.rd db (nl _ (by omega)), k7.sl dw (fun b e => nl _ (by have := fw b e; omega)), k7.sl da (fun b e => nl _ (by have := fa b e; omega)), s7.lp lp4, lb, by omega, by rw [k7.2 X.r (by omega) (nl _ (by omega))]; exact ddf, kp4.new k7 (fun b hb => .inr (by simp at hb; omega))⟩⟩
  · have hg : decide ((k : Int) > 0) = true := decide_eq_true (by omega)
    refine And.intro (fun _ => ?_) (fun h => by rw [hg] at h; cases h)
    refine wD_dreg ?_
    refine wD_ld (v := wv) rfl d12.rd rfl ?_
    refine wD_lda rfl c4.rd (show row 7 _ 0 = some (X.g.st X.s (Nat.testBit X.m) k) from rfl) ?_
    obtain ⟨H5, f5, k5⟩ := span42_ok (kn := kn) (lo := H4.next) (H := H4) (n := (k : Int)) (a := X.g.wl X.s k) (b := X.g.wh X.s k) (l := X.g.lo X.s (Nat.testBit X.m) k) (p := X.g.sl X.s (Nat.testBit X.m) k) (h := X.g.hi X.s (Nat.testBit X.m) k) (q := X.g.sm X.s (Nat.testBit X.m) k) (Nat.le_refl _)
    refine wD_callh (vs := [.agg (X.g.st X.s (Nat.testBit X.m) k).toArray]) rfl (by kernel_rfl) (callX_args f5) ?_
    have m5 := k5.1
    obtain ⟨H6, hH6⟩ : ∃ H6, H5.new (.cells [iv (X.g.lo X.s (Nat.testBit X.m) k), iv (X.g.hi X.s (Nat.testBit X.m) k)] 24 false) = H6 := ⟨_, rfl⟩
    refine wD_memh (H' := H6) (k := .heavy) rfl (by kernel_rfl) ((heap_build1 (v := spv (X.g.lo X.s (Nat.testBit X.m) k) (X.g.hi X.s (Nat.testBit X.m) k)) se22 z24 rfl rfl rfl (by decide)).trans (by rw [← hH6]; rfl)) (fun b e => by cases e) ?_
    obtain ⟨k6, n6, c6⟩ := new_facts hH6; clear hH6
    have m6 := k6.1
    have k46 := k5.trans k6
    obtain ⟨H7, kd7, e7, d7, a7, kb7⟩ := heap_append_below (P := Try.prog) (lo := lo) (k := k - 1) (t1 := 22) se22 u22 (c6.sl (Nat.le_refl 1)) rfl (by decide) rfl (by rw [spc_len, Lt.ox_len]) (by omega) (acc.keep k46) (by have := j.kp.1; omega) (by omega)
    refine wD_memh (k := kd7) rfl (by cases wv <;> kernel_rfl) (e7 _ _ _ _ _ _ _ rfl rfl) (reg_ok d7 _) ?_
    have m7 := kb7.1
    have e12 := kb7.cl (k46.cl d12 (by simp)) (by omega)
    refine wD_st (b := X.b12) (o := 0) rfl rfl e12 ol rfl rfl (by simp) ?_
    intro H8 k8 n8 c8
    have c8 : Cl H8 X.b12 [.slice (some ⟨H6.next, 0, none⟩) (k - 1 + 1) (k - 1 + 1)] := c8
    refine wD_end (by rcases d7 with rfl | ⟨b7, rfl, hb7⟩ <;> repeat' first | exact True.intro | exact (fun h => h) | refine And.intro ?_ ?_ | (intro h; have h : (_ : Nat) = _ := h; omega)) ?_
    have n12 : ∀ x, x ≠ X.b12 → x ∉ [X.b12] := fun x hx => by simpa using hx
    have lp5 : Lp Try.prog H8 (X.r + 1) .busy none 37 [(12, pt X.b12)] [27] asg17 body17 X.r := by
      obtain ⟨fn, T, q1, q2, q3⟩ := lp4.keep k46 (by omega) (by simp)
      exact ⟨fn, T, by rw [k8.2 (X.r + 1) (by omega) (n12 _ (by omega)), kb7.2 (X.r + 1) (by omega)]; exact q1, q2, q3⟩
    refine And.intro lp5 ?_
    intro H9 s9
    have k9 := s9.keep
    have hn9 : H9.next = H8.next := s9.1
    have ek : k - 1 + 1 = k := by omega
    have eox : spc (X.g.ox X.s (Nat.testBit X.m) (k + 1 - 1)) = spc (X.g.ox X.s (Nat.testBit X.m) (k - 1)) ++ [iv (X.g.lo X.s (Nat.testBit X.m) k), iv (X.g.hi X.s (Nat.testBit X.m) k)] := by
      have e : k + 1 - 1 = (k - 1) + 1 := by omega
      rw [e, Lt.ox_succ, ek]; simp [spc]
    have accN : Acc lo (b + 1) 24 H9 (.slice (some ⟨H6.next, 0, none⟩) (k - 1 + 1) (k - 1 + 1)) (k + 1 - 1) (spc (X.g.ox X.s (Nat.testBit X.m) (k + 1 - 1))) := by
      rw [eox, show k + 1 - 1 = k - 1 + 1 by omega]
      exact (a7.other k8 (by intro x hx; simp at hx; omega)).other k9 (by intro x hx; simp at hx; omega)
    have kpN : Keep H0 H9 [] := ((kb7.keep (kp4.trans k46) (by have := j.kp.1; omega)).new k8 (fun x hx => .inr (by simp at hx; omega))).new k9 (fun x hx => .inr (by simp at hx; omega))
    refine ⟨rfl, fun cs c => ?_, ⟨⟨_, k9.cl c8 (nl _ (by omega)), accN⟩, k9.rd (k8.rd (kb7.rd (k46.rd db (by simp)) (by omega)) (n12 _ (by omega))) (nl _ (by omega)), ?_, ?_, s9.lp lp5, lb, by omega, ?_, kpN⟩⟩
    · exact k9.cl (k8.cl (kb7.cl (k46.cl (k04.cl c (by simp; omega)) (by simp)) (by omega)) (n12 _ (by omega))) (by simp; omega)
    · exact k9.sl (k8.sl (kb7.sl (k46.sl0 dw) (fun x e => by have := fw x e; omega)) (fun x e => n12 _ (by have := fw x e; omega))) (fun x e => nl _ (by have := fw x e; omega))
    · exact k9.sl (k8.sl (kb7.sl (k46.sl0 da) (fun x e => by have := fa x e; omega)) (fun x e => n12 _ (by have := fa x e; omega))) (fun x e => nl _ (by have := fa x e; omega))
    · rw [k9.2 X.r (by omega) (nl _ (by omega)), k8.2 X.r (by omega) (n12 _ (by omega)), kb7.2 X.r (by omega), k46.2 X.r (by omega) (by simp)]; exact ddf
/-- what Oxygen answers -/
def Lt.Ox (g : Lt) (a b : Int) (us : List Int) (H : Hp) (w : Value) (H' : Hp) : Prop :=
  (g.ok = false ∧ w = .tuple #[.slice none 0 0, iv 1]) ∨ (g.ok = true ∧ (flB g a b && setB a (a + b) us) = false ∧ w = .tuple #[.slice none 0 0, iv 2]) ∨
  (g.ok = true ∧ ∃ s d : Nat, a = s ∧ b = d ∧ s + d ≤ g.wn ∧ setB s (s + d) us = true ∧ ∃ oa oc, w = .tuple #[.slice oa d oc, iv 0] ∧ Sl H' oa d oc (spc (g.ox s (Nat.testBit (dayMask us)) d)) ∧ ∀ x, oa = some ⟨x, 0, none⟩ → H.next ≤ x)
theorem oxygen_ok {g : Lt} {a b : Int} (hw : Sl H g.wa g.wn g.wcap (spc g.ws)) (ha : Sl H g.aa g.an g.acap (spc g.as)) (hwl : g.ws.length = g.wn) (hal : g.as.length = g.an) (hwn : g.wn ≤ 1000) (han : g.an ≤ 1000) {la : Option Addr} {n cap : Nat} {us : List Int} (hl : Sl H la n cap (ints us)) (hul : us.length = n) (hn : n ≤ 1000) (hlo : lo ≤ H.next) :
    ∃ w H', FnX Try.prog kn lo 17 [.agg g.v.toArray, iv a, iv b, .slice la n cap] H w H' ∧ Keep H H' [] ∧ g.Ox a b us H w H' := by
  refine fnX_lowR (kn := kn) (lo := lo) (H := H) (args := [.agg g.v.toArray, iv a, iv b, .slice la n cap]) (Q := fun w H' => Keep H H' [] ∧ g.Ox a b us H w H') Try.func17 B17 N17 Z17 L17 (by simp) ?_
  have fw : ∀ b, g.wa = some ⟨b, 0, none⟩ → b < H.next := hw.old
  have fa : ∀ b, g.aa = some ⟨b, 0, none⟩ → b < H.next := ha.old
  intro y hy
  refine TriR.lowR hy ?_
  intro H1 hH1; obtain ⟨k1, n1, c1⟩ := new_facts hH1; clear hH1
  have c1 : Cl H1 H.next g.v := c1
  intro y hy
  refine TriR.lowR hy ?_
  refine Exists.intro _ (Exists.intro _ (And.intro c1.of (And.intro (show row 13 g.v 0 = some g.v from rfl) ?_)))
  obtain ⟨w, H2, f2, k2, hc⟩ := course_ok (kn := kn) (lo := lo) (H := H1) (g := g) (a := a) (b := b) (us := us) (k1.sl0 hw) (k1.sl0 ha) hwl hal hwn han (k1.sl0 hl) hul hn (by omega)
  have k02 := k1.trans k2
  have m2 := k2.1
  refine Exists.intro _ (Exists.intro _ (And.intro (callX_args f2) ?_))
  have bad : ∀ (e : Int), e ≠ 0 → w = .tuple #[.agg zeroC.toArray, iv e] → True := fun _ _ _ => trivial
  clear bad
  rcases hc with ⟨hok, rfl⟩ | ⟨hok, hfl, rfl⟩ | ⟨hok, s, d, rfl, rfl, hsd, hset, rfl⟩
  · refine And.intro rfl (Exists.intro (.agg zeroC.toArray) (And.intro (by kernel_rfl) ?_))
    refine And.intro rfl (Exists.intro (iv 1) (And.intro (by kernel_rfl) ?_))
    intro H3 hH3; obtain ⟨k3, n3, c3⟩ := new_facts hH3; clear hH3
    have c3 : Cl H3 H2.next zeroC := c3
    obtain ⟨_, e4, l4, g4⟩ := id c3
    refine Exists.intro _ (Exists.intro _ (Exists.intro _ (And.intro g4 (And.intro (by omega) (And.intro rfl (And.intro rfl (And.intro (by simp) ?_)))))))
    intro H4 hH4; obtain ⟨k4, n4, c4⟩ := up_facts c3 hH4; clear hH4
    have k24 : Keep H2 H4 [] := k3.new k4 (fun b hb => .inr (by simp at hb; omega))
    intro y hy
    refine TriR.lowR hy ?_
    refine condT ?_
    exact And.intro trivial (Or.inl ⟨rfl, _, rfl, k02.trans k24, Or.inl ⟨hok, rfl⟩⟩)
  · refine And.intro rfl (Exists.intro (.agg zeroC.toArray) (And.intro (by kernel_rfl) ?_))
    refine And.intro rfl (Exists.intro (iv 2) (And.intro (by kernel_rfl) ?_))
    intro H3 hH3; obtain ⟨k3, n3, c3⟩ := new_facts hH3; clear hH3
    have c3 : Cl H3 H2.next zeroC := c3
    obtain ⟨_, e4, l4, g4⟩ := id c3
    refine Exists.intro _ (Exists.intro _ (Exists.intro _ (And.intro g4 (And.intro (by omega) (And.intro rfl (And.intro rfl (And.intro (by simp) ?_)))))))
    intro H4 hH4; obtain ⟨k4, n4, c4⟩ := up_facts c3 hH4; clear hH4
    have k24 : Keep H2 H4 [] := k3.new k4 (fun b hb => .inr (by simp at hb; omega))
    intro y hy
    refine TriR.lowR hy ?_
    refine condT ?_
    exact And.intro trivial (Or.inl ⟨rfl, _, rfl, k02.trans k24, Or.inr (Or.inl ⟨hok, hfl, rfl⟩)⟩)
  have v := Lt.vd hok hwl hal
  have hn40 := v.n40
  refine And.intro rfl (Exists.intro (.agg (crs g s d (dayMask us)).toArray) (And.intro (by kernel_rfl) ?_))
  refine And.intro rfl (Exists.intro (iv 0) (And.intro (by kernel_rfl) ?_))
  intro H3 hH3; obtain ⟨k3, n3, c3⟩ := new_facts hH3; clear hH3
  have c3 : Cl H3 H2.next zeroC := c3
  obtain ⟨_, e4, l4, g4⟩ := id c3
  refine Exists.intro _ (Exists.intro _ (Exists.intro _ (And.intro g4 (And.intro (by omega) (And.intro rfl (And.intro rfl (And.intro (by simp) ?_)))))))
  intro H4 hH4; obtain ⟨k4, n4, c4⟩ := up_facts c3 hH4; clear hH4
  have c4 : Cl H4 H2.next (crs g s d (dayMask us)) := c4
  have k24 : Keep H2 H4 [] := k3.new k4 (fun b hb => .inr (by simp at hb; omega))
  have k04 := k02.trans k24
  have m4 := k24.1
  intro y hy
  refine TriR.lowR hy ?_
  refine condF ?_
  intro y hy
  refine TriR.lowR hy ?_
  intro H5 hH5; obtain ⟨k5, n5, c5⟩ := new_facts hH5; clear hH5
  have c5 : Cl H5 H4.next [.slice none 0 0] := c5
  have d4 := k5.cl c4 (by simp)
  have k05 := k04.trans k5
  intro y hy
  refine TriR.lowL hy ?_
  intro z hz
  refine TriR.lowR hz ?_
  refine Exists.intro _ (Exists.intro _ (And.intro d4.of (And.intro (show row 16 _ 0 = some (crs g s d (dayMask us)) from rfl) ?_)))
  obtain ⟨bc, H6, f6, k6, hbc, rb⟩ := states_ok (kn := kn) (lo := lo) (H := H5) (g := g) (s := s) (d := d) (m := dayMask us)
  refine Exists.intro _ (Exists.intro _ (And.intro (callX_args f6) ?_))
  intro y hy
  refine TriR.lowB hy ?_
  rw [E17_1]
  refine TriR.range rfl ?_
  intro H7 k7 n7 hd hlp
  have k57 := k6.trans k7
  have k07 := k05.trans k57
  have lbc := rb.lt
  have m6 := k6.1
  let X : OX := ⟨g, s, d, dayMask us, H4.next, bc, H6.next⟩
  have G : OG X lo H := ⟨by show H.next ≤ H4.next; omega, by show lo ≤ H4.next; omega, by show H4.next < bc; omega, by show bc < H6.next; omega⟩
  have e5 := k57.cl c5 (by simp)
  have eb := k7.rd rb (by simp)
  have lp7 : Lp Try.prog H7 (H6.next + 1) .ready none 37 [(12, pt H4.next)] [27] asg17 body17 H6.next := hlp.weak ⟨rfl, trivial⟩
  have fin : ∀ (b k : Nat) (H8 H9 : Hp), OJ X lo H b k H8 → Keep H8 H9 [b] → OJ X lo H b k H9 := fun b k H8 H9 j kk => by
    have lb := j.lb; have ll := j.ll
    have lb : H6.next + 1 < b := lb
    have ll : b < H8.next := ll
    have hl4 : H4.next < H6.next := by omega
    have ne : ∀ x, x < b → x ∉ [b] := fun x h => by simp; omega
    obtain ⟨wv, q1, q2⟩ := j.c12
    have q1 : Cl H8 H4.next [wv] := q1
    exact ⟨⟨wv, (show Cl H9 H4.next [wv] from kk.cl q1 (ne _ (by omega))), q2.other kk (by intro x hx; simp at hx; omega)⟩, kk.rd j.cb (ne _ (by show bc < b; omega)), kk.sl j.hw (fun x e => ne _ (by have := fw x e; omega)), kk.sl j.ha (fun x e => ne _ (by have := fa x e; omega)), j.lp.keep kk (by show H6.next + 1 < H8.next; omega) (ne _ lb), lb, Nat.lt_of_lt_of_le ll kk.1, by rw [kk.2 X.r (by show H6.next < H8.next; omega) (ne _ (by show H6.next < b; omega))]; exact j.dfr, j.kp.new kk (fun x hx => .inr (by simp at hx; omega))⟩
  obtain ⟨b, H8, h8, hb8, j⟩ := iter_ok2 (kn := kn) (lo := lo) (H := H7) (l := H6.next + 1) (bc := bc) v hsd (fun b k H' => OJ X lo H b k H') (by omega) eb
    (fun b H1' kk hb hb2 => ⟨⟨_, kk.cl e5 (by simp), .inl ⟨rfl, rfl, rfl⟩⟩, kk.rd eb (by simp), kk.sl0 (k07.sl0 hw), kk.sl0 (k07.sl0 ha), lp7.keep kk (by omega) (by simp), by show H6.next + 1 < b; omega, hb2, by rw [kk.2 X.r (by show H6.next < H7.next; omega) (by simp)]; exact hd, k07.trans kk⟩)
    (fun b k H' j => ⟨j.cb, j.hw, j.ha⟩) fin (fun b k H' j => by have h1 := j.ll; have h2 : H6.next + 1 < b := j.lb; omega) (fun b k H' hk j => ox_round G v hsd fw fa hk j)
  refine Exists.intro _ (Exists.intro H8 (And.intro (callX_func rfl (by simpa using h8)) ?_))
  refine ⟨.ready, none, _, j.lp, by simp, ?_⟩
  intro H9 s9
  have k9 := s9.keep
  have hn9 : H9.next = H8.next := s9.1
  have ll := j.ll
  have lb : H6.next + 1 < b := j.lb
  have kH : Keep H H9 [] := j.kp.new k9 (fun b hb => .inr (by simp at hb; omega))
  obtain ⟨wv, q12, acc⟩ := j.c12
  have q12 : Cl H8 H4.next [wv] := q12
  have q12 := k9.cl q12 (by simp; omega)
  have acc := acc.other k9 (by intro x hx; simp at hx; omega)
  have dj : H9.t.get H6.next = some (.dfr (some [])) := by
    rw [k9.2 H6.next (by omega) (by simp)]; exact j.dfr
  have acc : Acc lo (b + 1) 24 H9 wv d (spc (g.ox s (Nat.testBit (dayMask us)) d)) := acc
  refine Exists.intro _ (Exists.intro _ (And.intro q12.of (And.intro (show _ = some wv from rfl) ?_)))
  refine And.intro trivial (Or.inr ⟨H6.next, rfl, by omega, dj, fun H10 hn10 hs10 => ?_⟩)
  have k10 : Keep H9 H10 [H6.next] := ⟨by omega, fun b _ hb => hs10 b (by simpa using hb)⟩
  obtain ⟨oa, oc, rfl, hsl, hge⟩ := (acc.other k10 (by intro x hx; simp at hx; omega)).sl
  exact ⟨_, rfl, kH.new k10 (fun b hb => .inr (by simp at hb; omega)), Or.inr (Or.inr ⟨hok, s, d, rfl, rfl, hsd, hset, oa, oc, rfl, hsl, fun x e => by have := hge x e; omega⟩)⟩
end
end Go.Ax

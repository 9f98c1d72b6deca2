import Derived.Test.YtpdoogfafjjdkaaMb
import Derived.Test.YtpdoogfafjjdkaaAxW9
import Derived.Test.YtpdoogfafjjdkaaChecked
import Derived.Test.YtpdoogfafjjdkaaAxW10
import Derived.Test.YtpdoogfafjjdkaaAxO
import Derived.Deep.Slices
import Derived.Deep.Fields
import Derived.ChangeSame
set_option linter.all false
/-
  Late: what a law looks at (13), the document's validity (49, 56, 33, 34), what is true (35) (written by program).
-/
namespace Go.Ax
open Go Go.RowKit Go.Proofs

section
variable {kn : FuncId → Option Bool} {lo : Nat} {H : Hp}
theorem great_ok {g : Lt} {la : Option Addr} {n cap : Nat} : ∃ H', FnX Try.prog kn lo 13 [.agg g.v.toArray, .slice la n cap] H (.bool (decide (g.wn > 45) || decide (g.an > 45) || decide (n > 45))) H' ∧ Keep H H' [] := by
  have key := fnX_low (kn := kn) (lo := lo) (H := H) (args := [.agg g.v.toArray, .slice la n cap]) (Q := fun w H' => w = .bool (decide (g.wn > 45) || decide (g.an > 45) || decide (n > 45)) ∧ Keep H H' []) Try.func13 B13 N13 Z13 L13 (by simp) ?_
  · obtain ⟨w, H', h, rfl, q⟩ := key; exact ⟨H', h, q⟩
  have hk := Keep.refl H []
  intro H1 hH1; obtain ⟨kH1, nH1, c1⟩ := new_facts hH1; clear hH1
  have mH1 := kH1.1
  have hk := hk.trans kH1
  have c1 : Cl H1 H.next [.slice g.wa g.wn g.wcap, .slice g.aa g.an g.acap, iv g.r1, iv g.r2, iv g.f1, iv g.f2, iv g.g1, iv g.g2, iv g.full, iv g.base, iv g.kill, iv g.need, iv g.bear] := c1
  refine Exists.intro _ (Exists.intro _ (And.intro c1.of (And.intro (show _ = some (.slice g.wa g.wn g.wcap) from rfl) ?_)))
  intro t1 g1; cases t1
  · have g1 : ¬ ((g.wn : Int) > 45) := of_decide_eq_false g1
    refine Exists.intro _ (Exists.intro _ (And.intro c1.of (And.intro (show _ = some (.slice g.aa g.an g.acap) from rfl) ?_)))
    intro t2 g2; cases t2
    · have g2 : ¬ ((g.an : Int) > 45) := of_decide_eq_false g2
      refine And.intro rfl (Exists.intro (.bool false) (And.intro rfl ?_))
      intro t3 g3; cases t3
      · have g3 : ¬ ((n : Int) > 45) := of_decide_eq_false g3
        refine And.intro rfl (Exists.intro (.bool false) (And.intro rfl ?_))
        exact And.intro trivial (Exists.intro _ (And.intro rfl ⟨by show Value.bool false = _; congr 1; symm; simp; omega, hk⟩))
      · have g3 : (n : Int) > 45 := of_decide_eq_true g3
        refine And.intro rfl (Exists.intro (.bool true) (And.intro rfl ?_))
        exact And.intro trivial (Exists.intro _ (And.intro rfl ⟨by show Value.bool true = _; congr 1; symm; simp; omega, hk⟩))
    · have g2 : (g.an : Int) > 45 := of_decide_eq_true g2
      refine And.intro rfl (Exists.intro (.bool true) (And.intro rfl ?_))
      refine And.intro rfl (Exists.intro (.bool true) (And.intro rfl ?_))
      exact And.intro trivial (Exists.intro _ (And.intro rfl ⟨by show Value.bool true = _; congr 1; symm; simp; omega, hk⟩))
  · have g1 : (g.wn : Int) > 45 := of_decide_eq_true g1
    refine And.intro rfl (Exists.intro (.bool true) (And.intro rfl ?_))
    refine And.intro rfl (Exists.intro (.bool true) (And.intro rfl ?_))
    exact And.intro trivial (Exists.intro _ (And.intro rfl ⟨by show Value.bool true = _; congr 1; symm; simp; omega, hk⟩))
end
end Go.Ax

/-
  Late: what is true of a flood, by remainders (35) (written by program).
-/
namespace Go.Ax
open Go Go.RowKit Go.Proofs

theorem se27 : sliceElem Try.prog 27 = some (3, 1) := by kernel_rfl
theorem z3 : zeroOf Try.prog 3 = some (.int .i64 0) := by kernel_rfl
theorem u27 : Try.prog.underlying 27 = some (.slice 3) := by kernel_rfl
section
variable {kn : FuncId → Option Bool} {lo : Nat} {H : Hp}
end
end Go.Ax

/-
  Late: the law LateTrue, whatever the input (written by program).
-/
namespace Go.Ax
open Go Go.RowKit Go.Proofs

theorem flB_of {g : Lt} {s d : Nat} (h : s + d ≤ g.wn) : flB g s d = true := by
  unfold flB inB
  simp only [Bool.and_eq_true, decide_eq_true_eq]
  omega
theorem Lt.Tl.c0 {g : Lt} {a b : Int} {us : List Int} {w : Value} (h : g.Tl a b us w) (hok : g.ok = false) : w = .tuple #[iv 0, iv 0, iv 1] := by
  rcases h with ⟨_, h⟩ | ⟨h, _⟩ | ⟨h, _⟩
  · exact h
  · rw [hok] at h; cases h
  · rw [hok] at h; cases h
theorem Lt.Tl.c1 {g : Lt} {a b : Int} {us : List Int} {w : Value} (h : g.Tl a b us w) (hok : g.ok = true) (hf : (flB g a b && setB a (a + b) us) = false) : w = .tuple #[iv 0, iv 0, iv 2] := by
  rcases h with ⟨h, _⟩ | ⟨_, _, h⟩ | ⟨_, s, d, rfl, rfl, h1, h2, _⟩
  · rw [hok] at h; cases h
  · exact h
  · rw [flB_of h1, h2] at hf; exact absurd hf (by decide)
theorem Lt.Tl.c2 {g : Lt} {s d : Nat} {us : List Int} {w : Value} (h : g.Tl s d us w) (hok : g.ok = true) (hsd : s + d ≤ g.wn) (hset : setB s (s + d) us = true) : w = .tuple #[iv (sureV (decide (g.wl s d ≥ g.kill)) (decide (g.wh s d ≥ g.kill))), iv (sureV (decide (g.sm s (Nat.testBit (dayMask us)) d > g.bear)) (decide (g.sl s (Nat.testBit (dayMask us)) d > g.bear))), iv 0] := by
  rcases h with ⟨h, _⟩ | ⟨_, h, _⟩ | ⟨_, s', d', e1, e2, _, _, h⟩
  · rw [hok] at h; cases h
  · rw [flB_of hsd, hset] at h; exact absurd h (by decide)
  · obtain rfl : s = s' := by omega
    obtain rfl : d = d' := by omega
    exact h
theorem Lt.Wm.any {g : Lt} {a b : Int} {w : Value} (h : g.Wm a b w) : ∃ p q e : Int, w = .tuple #[spv p q, iv e] := by
  rcases h with ⟨_, h⟩ | ⟨_, _, h⟩ | ⟨_, _, _, _, _, _, h⟩ <;> exact ⟨_, _, _, h⟩
theorem Lt.Wm.c2 {g : Lt} {s d : Nat} {w : Value} (h : g.Wm s d w) (hok : g.ok = true) (hsd : s + d ≤ g.wn) : w = .tuple #[spv (g.wl s d) (g.wh s d), iv 0] := by
  rcases h with ⟨h, _⟩ | ⟨_, h, _⟩ | ⟨_, s', d', e1, e2, _, h⟩
  · rw [hok] at h; cases h
  · rw [flB_of hsd] at h; cases h
  · obtain rfl : s = s' := by omega
    obtain rfl : d = d' := by omega
    exact h
section
variable {P : Program} {kn : FuncId → Option Bool} {lo n : Nat} {masks : List Nat} {r : List RO} {ks : List Kd} {S : Rg} {H : Hp} {K : Rg → Hp → Prop} {d : Option Nat} {x y : Operand} {a b : Int}
end
section
variable {kn : FuncId → Option Bool} {lo : Nat} {H : Hp}
end
end Go.Ax

/-! What 'low' makes of more functions of late (written by program). -/
namespace Go.Ax
open Go Go.RowKit Go.Proofs
theorem N21 : Try.f21.ntmps = 26 := by kernel_rfl
theorem Z21 : Try.f21.results.toList = ((List.toArray [(.tmp 4)]) : Array ResultVar).toList := by kernel_rfl
theorem B21 : Try.f21.body = some (at_ Try.f21 []) := by kernel_rfl
noncomputable def R21 : RC := (.seq (.reg [⟨(some 4), none, (.mov (.const (.bool false)))⟩])
  (.seq (.seq (.reg [⟨(some 6), none, (.mov (.tmp 0))⟩, ⟨(some 7), none, (.len (.tmp 6))⟩, ⟨(some 8), none, (.mov (.tmp 1))⟩, ⟨(some 9), none, (.len (.tmp 8))⟩, ⟨(some 10), none, (.cmp .neq (.tmp 7) (.tmp 9))⟩])
  (.cond (.tmp 10) (.seq (.reg [⟨(some 4), none, (.mov (.const (.bool false)))⟩])
  .ret)
  .skip))
  (.seq (.seq (.reg [⟨(some 5), none, (.mov (.const (.int .i64 0)))⟩])
  (.block 0 (.other (at_ Try.f21 [1, 1, 0, 1, 0]))))
  (.seq (.reg [⟨(some 4), none, (.mov (.const (.bool true)))⟩])
  .ret))))
theorem L21 : low Try.prog Try.f21.ntmps (at_ Try.f21 []) = some R21 := by kernel_rfl
theorem E21_1 : at_ Try.f21 [1, 1, 0, 1, 0] = .loop (at_ Try.f21 [1, 1, 0, 1, 0, 0]) := by kernel_rfl
noncomputable def R21x1 : RC := (.seq (.seq (.reg [⟨(some 11), none, (.mov (.tmp 5))⟩, ⟨(some 12), none, (.mov (.tmp 0))⟩, ⟨(some 13), none, (.len (.tmp 12))⟩, ⟨(some 14), none, (.cmp .lss (.tmp 11) (.tmp 13))⟩])
  (.cond (.tmp 14) .skip
  (.exit 0)))
  (.seq (.block 1 (.seq (.dreg [⟨(some 17), none, (.mov (.tmp 0))⟩, ⟨(some 18), none, (.mov (.tmp 5))⟩, ⟨(some 19), none, (.idx (.tmp 17) (.tmp 18) 2)⟩, ⟨(some 20), none, (.lda (.tmp 19) 2)⟩, ⟨(some 21), none, (.mov (.tmp 1))⟩, ⟨(some 22), none, (.mov (.tmp 5))⟩, ⟨(some 23), none, (.idx (.tmp 21) (.tmp 22) 2)⟩, ⟨(some 24), none, (.lda (.tmp 23) 2)⟩, ⟨(some 25), none, (.pur ⟨(some 25), (.binOp .neq 24 (.tmp 20) (.tmp 24) 24), 4, "", (List.toArray []), none⟩)⟩] [255, 112, 48, 0, 0, 7, 3, 0, 0])
  (.cond (.tmp 25) (.seq (.reg [⟨(some 4), none, (.mov (.const (.bool false)))⟩])
  .ret)
  .skip)))
  (.reg [⟨(some 15), none, (.mov (.tmp 5))⟩, ⟨(some 16), none, (.ari .add (.tmp 15) (.const (.int .i64 1)))⟩, ⟨(some 5), none, (.mov (.tmp 16))⟩])))
theorem L21x1 : low Try.prog Try.f21.ntmps (at_ Try.f21 [1, 1, 0, 1, 0, 0]) = some R21x1 := by kernel_rfl
end Go.Ax

/-
  Late: the document's functions: spans compared, what is used, sureness, the warmth (21, 67, 68, 40) (written by program).
-/
namespace Go.Ax
open Go Go.RowKit Go.Proofs

theorem prun_bind {P : Program} {α β : Type} (f : α → Sem β) : ∀ (x : Sem α), prun P (x >>= f) = match prun P x with | some a => prun P (f a) | none => none := by
  intro x
  induction x with
  | pure a => rfl
  | program k ih => exact ih P
  | _ => rfl
theorem prun_pure {P : Program} {α : Type} (a : α) : prun P (pure a) = some a := rfl
theorem prun_und : prun Try.prog (underlying 3) = some (.int .i64) := by kernel_rfl
theorem prun_eqi (d : Nat) (a b : Int) : prun Try.prog (Op.equalIn (d + 1) 3 (iv a) (iv b)) = some (a == b) := by
  rw [Op.equalIn]
  rw [prun_bind, prun_und]
  rfl
theorem prun_und24 : prun Try.prog (underlying 24) = some (.struct #[⟨"Lo", 3, 0, false, "", "", 0⟩, ⟨"Hi", 3, 1, false, "", "", 8⟩]) := by kernel_rfl
theorem st24 : Try.prog.stoodInHeld 24 = false := by kernel_rfl
theorem prun_part0 (a b : Int) : prun Try.prog (part 3 #[iv a, iv b] 0) = some (iv a) := by kernel_rfl
theorem prun_part1 (a b : Int) : prun Try.prog (part 3 #[iv a, iv b] 1) = some (iv b) := by kernel_rfl
theorem prun_eq24 (d : Nat) (a b c e : Int) : prun Try.prog (Op.equalIn (d + 2) 24 (.agg #[iv a, iv b]) (.agg #[iv c, iv e])) = some (a == c && b == e) := by
  rw [Op.equalIn]
  rw [prun_bind, prun_und24]
  simp only []
  rw [prun_bind]
  rw [show prun Try.prog program = some Try.prog from rfl]
  simp only [st24]
  simp only [Bool.false_eq_true, if_false, ↓reduceIte]
  rw [← Array.forIn_toList]
  simp only [List.forIn_cons, List.forIn_nil]
  rw [if_pos (by decide), if_pos (by decide)]
  simp only [prun_bind, prun_part0, prun_part1, prun_eqi]
  generalize (a == c) = u
  cases u
  · simp only [Bool.not_false, ↓reduceIte, prun_pure, Bool.false_and]
  · simp only [Bool.not_true, Bool.false_eq_true, ↓reduceIte, prun_pure, prun_bind, prun_part0, prun_part1, prun_eqi, Bool.true_and]
    generalize (b == e) = w
    cases w
    · simp only [Bool.not_false, ↓reduceIte, prun_pure]
    · simp only [Bool.not_true, Bool.false_eq_true, ↓reduceIte, prun_pure]
theorem md : Op.maxDepth = 9998 + 2 := by decide
/-- two spans, whether they are other ones -/
theorem pure_neq24 {n : Nat} {S : Rg} {d : Option Tmp} {x y : Operand} {p : String} {a b c e : Int} (hx : evS S x = some (.agg #[iv a, iv b])) (hy : evS S y = some (.agg #[iv c, iv e])) :
    pureOp Try.prog (frS n S) ⟨d, .binOp .neq 24 x y 24, 4, p, #[], none⟩ = some (.bool (!(a == c && b == e))) := by
  have key : prun Try.prog (do eqGuard .neq 24 x y (.agg #[iv a, iv b]) (.agg #[iv c, iv e]); binOp .neq 24 (.agg #[iv a, iv b]) (.agg #[iv c, iv e])) = some (.bool (!(a == c && b == e))) := by
    rw [prun_bind]
    have hg : prun Try.prog (eqGuard .neq 24 x y (.agg #[iv a, iv b]) (.agg #[iv c, iv e])) = some () := by kernel_rfl
    rw [hg]
    clear hg
    have hb : binOp .neq 24 (.agg #[iv a, iv b]) (.agg #[iv c, iv e]) = (Op.equal 24 (.agg #[iv a, iv b]) (.agg #[iv c, iv e]) >>= fun r => pure (.bool (!r))) := by kernel_rfl
    simp only [hb]
    rw [prun_bind]
    have heq : Op.equal 24 (.agg #[iv a, iv b]) (.agg #[iv c, iv e]) = Op.equalIn (9998 + 2) 24 (.agg #[iv a, iv b]) (.agg #[iv c, iv e]) := congrArg (fun n => Op.equalIn n 24 (.agg #[iv a, iv b]) (.agg #[iv c, iv e])) md
    rw [heq, prun_eq24]
    rfl
  unfold pureOp
  simp only [ev_frS, hx, hy]
  rw [show (flat (.agg #[iv a, iv b]) && flat (.agg #[iv c, iv e])) = true from rfl, cond_true, key]
  rfl
theorem flB_get {g : Lt} {a b : Int} (h : flB g a b = true) : ∃ s d : Nat, a = s ∧ b = d ∧ s + d ≤ g.wn := by
  simp only [flB, inB, Bool.and_eq_true, decide_eq_true_eq] at h
  exact ⟨a.toNat, b.toNat, by omega, by omega, by omega⟩
section
variable {kn : FuncId → Option Bool} {lo : Nat} {H : Hp}
theorem same_ok {a1 a2 : Option Addr} {n c1 c2 : Nat} {ss : List (Int × Int)} (h1 : Sl H a1 n c1 (spc ss)) (h2 : Sl H a2 n c2 (spc ss)) (hl : ss.length = n) (hn : n ≤ 1000) :
    ∃ H', FnX Try.prog kn lo 21 [.slice a1 n c1, .slice a2 n c2] H (.bool true) H' ∧ Keep H H' [] := by
  have key := fnX_low (kn := kn) (lo := lo) (H := H) (args := [.slice a1 n c1, .slice a2 n c2]) (Q := fun w H' => w = .bool true ∧ Keep H H' []) Try.func21 B21 N21 Z21 L21 (by simp) ?_
  · obtain ⟨w, H', h, rfl, q⟩ := key; exact ⟨H', h, q⟩
  have hne : ((n : Int) != (n : Int)) = false := by simp
  refine And.intro (fun h => by rw [hne] at h; cases h) (fun _ => ?_)
  refine loop_low (fn := Try.f21) E21_1 N21 L21x1 (fun i : Nat => [(0, .slice a1 n c1), (1, .slice a2 n c2), (5, iv (i : Int))])
    (fun k i H' => i + k = n ∧ Keep H H' []) n 0 ⟨by omega, Keep.refl _ _⟩ ⟨rfl, rfl, rfl, trivial⟩ ?_
  rintro kk i H5 ⟨hik, hki⟩
  refine And.intro (fun hlt => ?_) (fun hge => ?_)
  · have hi : i < n := by simpa using hlt
    obtain ⟨p, hp⟩ := get_some (l := ss) (i := i) (by omega)
    rcases h1 with ⟨_, h0, _⟩ | ⟨x1, rfl, q1, _⟩
    · omega
    rcases h2 with ⟨_, h0, _⟩ | ⟨x2, rfl, q2, _⟩
    · omega
    have q1 := hki.rd q1 (by simp)
    have q2 := hki.rd q2 (by simp)
    refine wD_seq ?_
    refine wD_mov (v := .slice (some ⟨x1, 0, none⟩) n c1) rfl ?_
    refine wD_mov (v := iv (i : Int)) rfl ?_
    refine wD_idx (b := x1) (o := 0) (k := i) (j := (i : Int)) rfl rfl rfl hi ?_
    refine wD_lda (b := x1) (o := 0 + i * 2) rfl q1 (spc_row hp) ?_
    refine wD_mov (v := .slice (some ⟨x2, 0, none⟩) n c2) rfl ?_
    refine wD_mov (v := iv (i : Int)) rfl ?_
    refine wD_idx (b := x2) (o := 0) (k := i) (j := (i : Int)) rfl rfl rfl hi ?_
    refine wD_lda (b := x2) (o := 0 + i * 2) rfl q2 (spc_row hp) ?_
    refine wD_pur (v := .bool false) rfl ((pure_neq24 (a := p.1) (b := p.2) (c := p.1) (e := p.2) rfl rfl).trans (by simp)) ?_
    refine wD_end (by repeat' first | exact True.intro | exact (fun h => h) | refine And.intro ?_ ?_ | (intro h; have h : (_ : Nat) = _ := h; omega)) ?_
    refine condF ?_
    refine And.intro ⟨by omega, by omega⟩ ?_
    exact ⟨kk - 1, i + 1, by omega, ⟨by omega, hki⟩, rfl, rfl, rfl, trivial⟩
  · exact And.intro trivial (Exists.intro _ (And.intro rfl ⟨rfl, hki⟩))
end
end Go.Ax

/-
  Late: the document's functions: the oxygen (43) (written by program).
-/
namespace Go.Ax
open Go Go.RowKit Go.Proofs

section
variable {kn : FuncId → Option Bool} {lo : Nat} {H : Hp}
end
end Go.Ax

/-
  Late: the document's Warmth, Oxygen and Tells (45, 16, 18, 20) (written by program).
-/
namespace Go.Ax
open Go Go.RowKit Go.Proofs

theorem Lt.Tl.any {g : Lt} {a b : Int} {us : List Int} {w : Value} (h : g.Tl a b us w) : ∃ x y e : Int, w = .tuple #[iv x, iv y, iv e] := by
  rcases h with ⟨_, h⟩ | ⟨_, _, h⟩ | ⟨_, _, _, _, _, _, _, h⟩ <;> exact ⟨_, _, _, h⟩
section
variable {kn : FuncId → Option Bool} {lo : Nat} {H : Hp}
end
end Go.Ax

/-
  Late: the law LateFloods, whatever the input (written by program).
-/
namespace Go.Ax
open Go Go.RowKit Go.Proofs

section
variable {kn : FuncId → Option Bool} {lo : Nat} {H : Hp}
end
end Go.Ax

/-! What 'low' makes of more functions of late (written by program). -/
namespace Go.Ax
open Go Go.RowKit Go.Proofs
theorem N46 : Try.f46.ntmps = 16 := by kernel_rfl
theorem Z46 : Try.f46.results.toList = ((List.toArray [(.cell 4 65), (.tmp 5)]) : Array ResultVar).toList := by kernel_rfl
theorem B46 : Try.f46.body = some (at_ Try.f46 []) := by kernel_rfl
theorem N26 : Try.f26.ntmps = 56 := by kernel_rfl
theorem Z26 : Try.f26.results.toList = ((List.toArray [(.tmp 2), (.tmp 3), (.tmp 4)]) : Array ResultVar).toList := by kernel_rfl
theorem B26 : Try.f26.body = some (at_ Try.f26 []) := by kernel_rfl
noncomputable def R26 : RC := (.seq (.reg [⟨(some 1), none, (.box 26 (.tmp 0))⟩, ⟨(some 2), none, (.mov (.const (.int .i64 0)))⟩, ⟨(some 3), none, (.mov (.const (.int .i64 0)))⟩, ⟨(some 4), none, (.mov (.const (.int .i64 0)))⟩])
  (.seq (.seq (.reg [⟨(some 10), none, (.lda (.tmp 1) 13)⟩, ⟨(some 11), none, (.call ⟨(.value (.func 51)), (List.toArray [(.tmp 10)]), (List.toArray [26])⟩ true)⟩, ⟨(some 12), none, (.pur ⟨(some 12), (.unOp .not 4 (.tmp 11)), 4, "", (List.toArray []), none⟩)⟩])
  (.cond (.tmp 12) (.seq (.reg [⟨(some 2), none, (.mov (.const (.int .i64 0)))⟩, ⟨(some 3), none, (.mov (.const (.int .i64 0)))⟩, ⟨(some 4), none, (.mov (.const (.int .i64 1)))⟩])
  .ret)
  .skip))
  (.seq (.reg [⟨(some 13), none, (.call ⟨(.value (.func 48)), (List.toArray []), (List.toArray [])⟩ true)⟩, ⟨(some 5), none, (.alc 72 [(.int .i64 0), (.int .i64 0), (.int .i64 0), (.int .i64 0), (.int .i64 0), (.int .i64 0), (.int .i64 0)])⟩, ⟨none, none, (.sta (.tmp 5) (.tmp 13) 7)⟩])
  (.seq (.seq (.reg [⟨(some 14), none, (.addo (.tmp 1) 0)⟩, ⟨(some 15), none, (.ld (.tmp 14) 1)⟩, ⟨(some 16), none, (.len (.tmp 15))⟩, ⟨(some 17), none, (.ari .add (.tmp 16) (.const (.int .i64 1)))⟩, ⟨(some 18), none, (.mov (.const (.int .i64 0)))⟩])
  (.block 0 (.other (at_ Try.f26 [1, 1, 1, 0, 1, 0]))))
  (.seq (.seq (.dreg [⟨(some 50), none, (.lda (.tmp 5) 7)⟩, ⟨(some 51), none, (.call ⟨(.value (.func 48)), (List.toArray []), (List.toArray [])⟩ false)⟩, ⟨(some 52), none, (.pur ⟨(some 52), (.binOp .eql 72 (.tmp 50) (.tmp 51) 72), 4, "", (List.toArray []), none⟩)⟩] [3, 0, 0])
  (.cond (.tmp 52) (.seq (.reg [⟨(some 2), none, (.mov (.const (.int .i64 0)))⟩, ⟨(some 3), none, (.mov (.const (.int .i64 0)))⟩, ⟨(some 4), none, (.mov (.const (.int .i64 4)))⟩])
  .ret)
  .skip))
  (.seq (.dreg [⟨(some 53), none, (.mov (.tmp 2))⟩, ⟨(some 54), none, (.addo (.tmp 5) 0)⟩, ⟨(some 55), none, (.ld (.tmp 54) 1)⟩, ⟨(some 2), none, (.mov (.tmp 53))⟩, ⟨(some 3), none, (.mov (.tmp 55))⟩, ⟨(some 4), none, (.mov (.const (.int .i64 0)))⟩] [31, 15, 1, 2, 0, 0])
  .ret))))))
theorem L26 : low Try.prog Try.f26.ntmps (at_ Try.f26 []) = some R26 := by kernel_rfl
theorem E26_1 : at_ Try.f26 [1, 1, 1, 0, 1, 0] = .loop (at_ Try.f26 [1, 1, 1, 0, 1, 0, 0]) := by kernel_rfl
noncomputable def R26x1 : RC := (.seq (.reg [⟨(some 19), none, (.cmp .lss (.tmp 18) (.tmp 17))⟩])
  (.seq (.cond (.tmp 19) .skip
  (.exit 0))
  (.seq (.block 1 (.seq (.reg [⟨(some 20), none, (.mov (.tmp 18))⟩, ⟨(some 6), none, (.mov (.tmp 20))⟩])
  (.seq (.reg [⟨(some 22), none, (.lda (.tmp 1) 13)⟩, ⟨(some 23), none, (.mov (.tmp 6))⟩, ⟨(some 24), none, (.call ⟨(.value (.func 46)), (List.toArray [(.tmp 22), (.tmp 23)]), (List.toArray [26, 3])⟩ true)⟩, ⟨(some 21), none, (.mov (.tmp 24))⟩, ⟨(some 25), none, (.pur ⟨(some 25), (.extract (.tmp 21) 0), 65, "", (List.toArray []), none⟩)⟩, ⟨(some 26), none, (.pur ⟨(some 26), (.extract (.tmp 21) 1), 30, "", (List.toArray []), none⟩)⟩, ⟨(some 7), none, (.alc 65 [(.slice none 0 0), (.slice none 0 0), (.int .i64 0), (.int .i64 0), (.int .i64 0), (.int .i64 0), (.int .i64 0), (.int .i64 0), (.int .i64 0), (.int .i64 0), (.int .i64 0), (.int .i64 0), (.int .i64 0), (.int .i64 0), (.int .i64 0), (.int .u64 0)])⟩, ⟨none, none, (.sta (.tmp 7) (.tmp 25) 16)⟩, ⟨(some 8), none, (.mov (.tmp 26))⟩])
  (.seq (.reg [⟨(some 27), none, (.lda (.tmp 7) 16)⟩, ⟨(some 28), none, (.call ⟨(.value (.func 47)), (List.toArray [(.tmp 27)]), (List.toArray [65])⟩ true)⟩, ⟨(some 9), none, (.alc 72 [(.int .i64 0), (.int .i64 0), (.int .i64 0), (.int .i64 0), (.int .i64 0), (.int .i64 0), (.int .i64 0)])⟩, ⟨none, none, (.sta (.tmp 9) (.tmp 28) 7)⟩])
  (.seq (.seq (.dreg [⟨(some 29), none, (.lda (.tmp 9) 7)⟩, ⟨(some 30), none, (.call ⟨(.value (.func 48)), (List.toArray []), (List.toArray [])⟩ false)⟩, ⟨(some 31), none, (.pur ⟨(some 31), (.binOp .eql 72 (.tmp 29) (.tmp 30) 72), 4, "", (List.toArray []), none⟩)⟩, ⟨(some 32), none, (.mov (.tmp 31))⟩, ⟨(some 33), (some (32, false)), (.lda (.tmp 7) 16)⟩, ⟨(some 34), (some (32, false)), (.lda (.tmp 9) 7)⟩, ⟨(some 35), (some (32, false)), (.call ⟨(.value (.func 52)), (List.toArray [(.tmp 33), (.tmp 34)]), (List.toArray [65, 72])⟩ true)⟩, ⟨(some 36), none, (.pur ⟨(some 36), (.pick (.tmp 32) (.const (.bool true)) (.tmp 35)), 4, "", (List.toArray []), none⟩)⟩] [127, 63, 15, 15, 7, 3, 0, 0])
  (.cond (.tmp 36) (.exit 1)
  .skip))
  (.seq (.dreg [⟨(some 37), none, (.lda (.tmp 5) 7)⟩, ⟨(some 38), none, (.call ⟨(.value (.func 48)), (List.toArray []), (List.toArray [])⟩ false)⟩, ⟨(some 39), none, (.pur ⟨(some 39), (.binOp .eql 72 (.tmp 37) (.tmp 38) 72), 4, "", (List.toArray []), none⟩)⟩, ⟨(some 40), none, (.mov (.tmp 39))⟩, ⟨(some 41), (some (40, false)), (.addo (.tmp 9) 0)⟩, ⟨(some 42), (some (40, false)), (.ld (.tmp 41) 1)⟩, ⟨(some 43), (some (40, false)), (.addo (.tmp 5) 0)⟩, ⟨(some 44), (some (40, false)), (.ld (.tmp 43) 1)⟩, ⟨(some 45), (some (40, false)), (.cmpb .lss (.tmp 42) (.tmp 44))⟩, ⟨(some 46), none, (.pur ⟨(some 46), (.pick (.tmp 40) (.const (.bool true)) (.tmp 45)), 4, "", (List.toArray []), none⟩)⟩] [511, 255, 79, 15, 31, 15, 7, 3, 0, 0])
  (.cond (.tmp 46) (.dreg [⟨(some 47), none, (.mov (.tmp 6))⟩, ⟨(some 48), none, (.lda (.tmp 9) 7)⟩, ⟨(some 2), none, (.mov (.tmp 47))⟩, ⟨none, none, (.sta (.tmp 5) (.tmp 48) 7)⟩] [7, 1, 0, 0])
  .skip)))))))
  (.reg [⟨(some 49), none, (.ari .add (.tmp 18) (.const (.int .i64 1)))⟩, ⟨(some 18), none, (.mov (.tmp 49))⟩]))))
theorem L26x1 : low Try.prog Try.f26.ntmps (at_ Try.f26 [1, 1, 1, 0, 1, 0, 0]) = some R26x1 := by kernel_rfl
end Go.Ax

/-
  Late: the longest course; Drowned, Bears (46, 22, 24) (written by program).
-/
namespace Go.Ax
open Go Go.RowKit Go.Proofs

noncomputable def R46v : RC := (.seq (.reg [⟨(some 2), none, (.box 26 (.tmp 0))⟩, ⟨(some 4), none, (.alc 65 [(.slice none 0 0), (.slice none 0 0), (.int .i64 0), (.int .i64 0), (.int .i64 0), (.int .i64 0), (.int .i64 0), (.int .i64 0), (.int .i64 0), (.int .i64 0), (.int .i64 0), (.int .i64 0), (.int .i64 0), (.int .i64 0), (.int .i64 0), (.int .u64 0)])⟩, ⟨(some 5), none, (.mov (.const (.int .i64 0)))⟩])
  (.seq (.other (at_ Try.f46 [1, 0]))
  .ret))
theorem V46 : LV Try.prog 16 (at_ Try.f46 []) R46v := by
  have e : (at_ Try.f46 []) = (.seq (at_ Try.f46 [0]) (.seq (at_ Try.f46 [1, 0]) (at_ Try.f46 [1, 1]))) := by kernel_rfl
  rw [e]
  exact (.seq (.low (by kernel_rfl)) (.seq (.other _) (.low (by kernel_rfl))))
theorem D46p : at_ Try.f46 [1, 0] = .region 1 (opsOf (at_ Try.f46 [1, 0])) false := by kernel_rfl
noncomputable def R46p : List RO := [⟨(some 6), none, (.lda (.tmp 2) 13)⟩, ⟨(some 7), none, (.mov (.tmp 1))⟩, ⟨(some 8), none, (.addo (.tmp 2) 0)⟩, ⟨(some 9), none, (.ld (.tmp 8) 1)⟩, ⟨(some 10), none, (.len (.tmp 9))⟩, ⟨(some 11), none, (.mov (.tmp 1))⟩, ⟨(some 12), none, (.pur ⟨(some 12), (.binOp .sub 3 (.tmp 10) (.tmp 11) 3), 3, "", (List.toArray []), none⟩)⟩, ⟨(some 13), none, (.call ⟨(.value (.func 38)), (List.toArray [(.tmp 6), (.tmp 7), (.tmp 12), (.const (.slice none 0 0))]), (List.toArray [26, 3, 3, 27])⟩ true)⟩, ⟨(some 14), none, (.pur ⟨(some 14), (.extract (.tmp 13) 0), 65, "", (List.toArray []), none⟩)⟩, ⟨(some 15), none, (.pur ⟨(some 15), (.extract (.tmp 13) 1), 30, "", (List.toArray []), none⟩)⟩, ⟨none, none, (.sta (.tmp 4) (.tmp 14) 16)⟩, ⟨(some 5), none, (.mov (.tmp 15))⟩]
theorem P46p : lowROsV Try.prog 16 (opsOf (at_ Try.f46 [1, 0])).toList [6] (opsOf (at_ Try.f46 [1, 0])).toList 0 = some R46p := by kernel_rfl
theorem pure_sub {n : Nat} {S : Rg} {d : Option Tmp} {x y : Operand} {p : String} {a b : Int} (hx : evS S x = some (iv a)) (hy : evS S y = some (iv b)) : pureOp Try.prog (frS n S) ⟨d, .binOp .sub 3 x y 3, 3, p, #[], none⟩ = some (iv (IntKind.i64.wrap (a - b))) := by
  unfold pureOp; simp only [ev_frS, hx, hy]; rfl
theorem prun_und72 : prun Try.prog (underlying 72) = some (.struct #[⟨"days", 3, 0, false, "", "fenberry/late", 0⟩, ⟨"warmth", 24, 1, false, "", "fenberry/late", 8⟩, ⟨"least", 69, 3, false, "", "fenberry/late", 24⟩, ⟨"most", 70, 5, false, "", "fenberry/late", 40⟩]) := by kernel_rfl
theorem st72 : Try.prog.stoodInHeld 72 = false := by kernel_rfl
/-- a state, whether it is the one that a search returns that finds nothing -/
theorem prun_eq72 (d : Nat) {a : Int} {v1 v2 v3 v4 v5 v6 : Value} (h : a ≠ -1) : prun Try.prog (Op.equalIn (d + 2) 72 (.agg #[iv a, v1, v2, v3, v4, v5, v6]) (.agg noneS.toArray)) = some false := by
  rw [Op.equalIn]
  rw [prun_bind, prun_und72]
  simp only []
  rw [prun_bind]
  rw [show prun Try.prog program = some Try.prog from rfl]
  simp only [st72]
  simp only [Bool.false_eq_true, if_false, ↓reduceIte]
  rw [← Array.forIn_toList]
  simp only [List.forIn_cons, List.forIn_nil]
  rw [if_pos (by decide)]
  have e0 : prun Try.prog (part 3 #[iv a, v1, v2, v3, v4, v5, v6] 0) = some (iv a) := by kernel_rfl
  have e1 : prun Try.prog (part 3 noneS.toArray 0) = some (iv (-1)) := by kernel_rfl
  have e2 : (a == -1) = false := by simpa using h
  simp only [prun_bind, e0, e1, prun_eqi, e2, Bool.not_false, ↓reduceIte, prun_pure]
theorem pure_eq72 {n : Nat} {S : Rg} {d : Option Tmp} {x y : Operand} {p : String} {a : Int} {v1 v2 v3 v4 v5 v6 : Value} (hx : evS S x = some (.agg #[iv a, v1, v2, v3, v4, v5, v6])) (hy : evS S y = some (.agg noneS.toArray)) (hv : flat (.agg #[iv a, v1, v2, v3, v4, v5, v6]) = true) (h : a ≠ -1) :
    pureOp Try.prog (frS n S) ⟨d, .binOp .eql 72 x y 72, 4, p, #[], none⟩ = some (.bool false) := by
  have key : prun Try.prog (do eqGuard .eql 72 x y (.agg #[iv a, v1, v2, v3, v4, v5, v6]) (.agg noneS.toArray); binOp .eql 72 (.agg #[iv a, v1, v2, v3, v4, v5, v6]) (.agg noneS.toArray)) = some (.bool false) := by
    rw [prun_bind]
    have hg : prun Try.prog (eqGuard .eql 72 x y (.agg #[iv a, v1, v2, v3, v4, v5, v6]) (.agg noneS.toArray)) = some () := by kernel_rfl
    rw [hg]
    clear hg
    have hb : binOp .eql 72 (.agg #[iv a, v1, v2, v3, v4, v5, v6]) (.agg noneS.toArray) = (Op.equal 72 (.agg #[iv a, v1, v2, v3, v4, v5, v6]) (.agg noneS.toArray) >>= fun r => pure (.bool r)) := by kernel_rfl
    simp only [hb]
    rw [prun_bind]
    have heq : Op.equal 72 (.agg #[iv a, v1, v2, v3, v4, v5, v6]) (.agg noneS.toArray) = Op.equalIn (9998 + 2) 72 (.agg #[iv a, v1, v2, v3, v4, v5, v6]) (.agg noneS.toArray) := congrArg (fun n => Op.equalIn n 72 (.agg #[iv a, v1, v2, v3, v4, v5, v6]) (.agg noneS.toArray)) md
    rw [heq, prun_eq72 _ h]
    rfl
  unfold pureOp
  simp only [ev_frS, hx, hy]
  rw [show (flat (.agg #[iv a, v1, v2, v3, v4, v5, v6]) && flat (.agg noneS.toArray)) = true by rw [hv]; rfl, cond_true, key]
  rfl
theorem pure_eq72n {n : Nat} {S : Rg} {d : Option Tmp} {x y : Operand} {p : String} (hx : evS S x = some (.agg noneS.toArray)) (hy : evS S y = some (.agg noneS.toArray)) :
    pureOp Try.prog (frS n S) ⟨d, .binOp .eql 72 x y 72, 4, p, #[], none⟩ = some (.bool true) := by
  unfold pureOp
  simp only [ev_frS, hx, hy]
  kernel_rfl
theorem res_lc {S : Rg} {H : Hp} {x : Nat} {cs : List Value} {v : Value} (ha : lk S 4 = some (.pointer (some ⟨x, 0, none⟩))) (hb : lk S 5 = some v) (hl : cs.length = 16) (h : Cl H x cs) : resS Try.prog S H [.cell 4 65, .tmp 5] = some [.agg cs.toArray, v] := by
  simp only [resS, ha, hb, load_agg a65 i65s h.rd hl]
/-- what longestCourse answers -/
def Lt.Lc (g : Lt) (a : Int) (w : Value) : Prop :=
  (g.ok = false ∧ w = .tuple #[.agg zeroC.toArray, iv 1]) ∨ (g.ok = true ∧ inB a 0 g.wn = false ∧ w = .tuple #[.agg zeroC.toArray, iv 2]) ∨
  (g.ok = true ∧ ∃ s d : Nat, a = s ∧ s + d = g.wn ∧ w = .tuple #[.agg (crs g s d 0).toArray, iv 0])
theorem Lt.Nc.lc {g : Lt} {a : Int} (hwn : g.wn ≤ 1000) {w : Value} (h : g.Nc a (IntKind.i64.wrap (g.wn - a)) [] w) : g.Lc a w := by
  rcases h with ⟨h1, rfl⟩ | ⟨h1, h2, rfl⟩ | ⟨h1, s, d, rfl, e, h3, _, rfl⟩
  · exact .inl ⟨h1, rfl⟩
  · refine .inr (.inl ⟨h1, ?_, rfl⟩)
    cases hb : inB a 0 g.wn with
    | false => rfl
    | true =>
      have hx := hb
      simp only [inB, Bool.and_eq_true, decide_eq_true_eq] at hx
      rw [wrap_i64 ⟨by omega, by omega⟩] at h2
      simp only [flB, hb, setB, Bool.and_true, Bool.true_and, inB, Bool.and_eq_false_iff, decide_eq_false_iff_not] at h2
      omega
  · have h4 : (s : Int) ≤ g.wn := by omega
    rw [wrap_i64 ⟨by omega, by omega⟩] at e
    exact .inr (.inr ⟨h1, s, d, rfl, by omega, rfl⟩)
/-- what Drowned answers -/
def Lt.Dr (g : Lt) (a : Int) (w : Value) : Prop :=
  (g.ok = false ∧ w = .tuple #[iv 0, iv 1]) ∨ (g.ok = true ∧ inB a 0 g.wn = false ∧ w = .tuple #[iv 0, iv 2]) ∨
  (g.ok = true ∧ ∃ s d : Nat, a = s ∧ s + d = g.wn ∧ ((∃ k, k ≤ d ∧ g.kill ≤ g.wl s k ∧ (∀ j, j < k → g.wl s j < g.kill) ∧ w = .tuple #[iv (k : Int), iv 0]) ∨ ((∀ j, j ≤ d → g.wl s j < g.kill) ∧ w = .tuple #[iv 0, iv 4])))
/-- what Bears answers -/
def Lt.Br (g : Lt) (a : Int) (w : Value) : Prop :=
  (g.ok = false ∧ w = .tuple #[iv 0, iv 1]) ∨ (g.ok = true ∧ inB a 0 g.wn = false ∧ w = .tuple #[iv 0, iv 2]) ∨
  (g.ok = true ∧ ∃ s d m : Nat, a = s ∧ s + d = g.wn ∧ m ≤ d ∧ (∀ j, j ≤ m → g.sl s (Nat.testBit 0) j ≤ g.bear) ∧ (m = d ∨ g.bear < g.sl s (Nat.testBit 0) (m + 1)) ∧ w = .tuple #[iv (m : Int), iv 0])
section
variable {kn : FuncId → Option Bool} {lo : Nat} {H : Hp}
theorem longest_ok {g : Lt} {a : Int} (hw : Sl H g.wa g.wn g.wcap (spc g.ws)) (ha : Sl H g.aa g.an g.acap (spc g.as)) (hwl : g.ws.length = g.wn) (hal : g.as.length = g.an) (hwn : g.wn ≤ 1000) (han : g.an ≤ 1000) (hlo : lo ≤ H.next) :
    ∃ w H', FnX Try.prog kn lo 46 [.agg g.v.toArray, iv a] H w H' ∧ Keep H H' [] ∧ g.Lc a w := by
  refine fnX_lv (P := Try.prog) (kn := kn) (lo := lo) (H := H) (args := [.agg g.v.toArray, iv a]) (Q := fun w H' => Keep H H' [] ∧ g.Lc a w) Try.func46 B46 N46 Z46 V46 (by simp) ?_
  intro H1 hH1; obtain ⟨k1, n1, c1⟩ := new_facts hH1; clear hH1
  have c1 : Cl H1 H.next g.v := c1
  intro H2 hH2; obtain ⟨k2, n2, c2⟩ := new_facts hH2; clear hH2
  have c2 : Cl H2 H1.next zeroC := c2
  have k02 := k1.trans k2
  have d1 := k2.cl c1 (by simp)
  refine tri_regV D46p P46p ?_
  refine Exists.intro _ (Exists.intro _ (And.intro d1.of (And.intro (show row 13 g.v 0 = some g.v from rfl) ?_)))
  refine Exists.intro _ (Exists.intro _ (And.intro d1.of (And.intro (show _ = some (.slice g.wa g.wn g.wcap) from rfl) ?_)))
  refine And.intro rfl (Exists.intro (iv (IntKind.i64.wrap (g.wn - a))) (And.intro (pure_sub rfl rfl) ?_))
  obtain ⟨w, H3, f3, k3, hc⟩ := course_ok (kn := kn) (lo := lo) (H := H2) (g := g) (a := a) (b := IntKind.i64.wrap (g.wn - a)) (us := []) (k02.sl0 hw) (k02.sl0 ha) hwl hal hwn han (la := none) (n := 0) (cap := 0) (.inl ⟨.inl rfl, rfl, rfl, rfl⟩) rfl (by decide) (by omega)
  refine Exists.intro _ (Exists.intro _ (And.intro (callX_args f3) ?_))
  have d2 := k3.cl c2 (by simp)
  have m3 := k3.1
  have hl := hc.lc hwn
  obtain ⟨cs, e, hcl, hone, rfl⟩ : ∃ (cs : List Value) (e : Int), cs.length = 16 ∧ cs.all one = true ∧ w = .tuple #[.agg cs.toArray, iv e] := by
    rcases hc with ⟨_, rfl⟩ | ⟨_, _, rfl⟩ | ⟨_, s, d, _, _, _, _, rfl⟩
    · exact ⟨_, _, rfl, rfl, rfl⟩
    · exact ⟨_, _, rfl, rfl, rfl⟩
    · exact ⟨_, _, rfl, rfl, rfl⟩
  refine And.intro rfl (Exists.intro (.agg cs.toArray) (And.intro (by kernel_rfl) ?_))
  refine And.intro rfl (Exists.intro (iv e) (And.intro (by kernel_rfl) ?_))
  obtain ⟨_, e4, l4, g4⟩ := id d2
  refine Exists.intro _ (Exists.intro _ (Exists.intro _ (And.intro g4 (And.intro (by omega) (And.intro hcl (And.intro hone (And.intro (by simp) ?_)))))))
  intro H4 hH4; obtain ⟨k4, n4, c4⟩ := up_facts d2 hH4; clear hH4
  have c4 : Cl H4 H1.next cs := by
    have e := putRow_all zeroC cs [] (by rw [hcl]; rfl)
    simp only [List.nil_append, List.length_nil] at e
    rw [← e]; exact c4
  have kk := (k02.trans k3).new k4 (fun x hx => .inr (by simp at hx; omega))
  exact And.intro trivial (Exists.intro _ (And.intro (res_lc rfl rfl hcl c4) ⟨kk, hl⟩))
end
end Go.Ax

/-
  Late: Best (26) (written by program).
-/
namespace Go.Ax
open Go Go.RowKit Go.Proofs

/-- a flood without fresh days in which both is sure -/
def Lt.fine (g : Lt) (s d : Nat) : Prop := g.kill ≤ g.wl s d ∧ g.sl s (Nat.testBit 0) d ≤ g.bear
theorem Lt.sl_le {g : Lt} {s : Nat} {F : Nat → Bool} : ∀ {j k : Nat}, j ≤ k → g.sl s F j ≤ g.sl s F k
  | j, 0, h => by have : j = 0 := by omega
                  subst this; exact Int.le_refl _
  | j, k + 1, h => by
    rcases Nat.lt_or_ge k j with q | q
    · have : j = k + 1 := by omega
      subst this; exact Int.le_refl _
    · have := Lt.sl_le (g := g) (s := s) (F := F) q
      rw [Lt.sl]; cases decide (g.lo s F (k + 1) < g.need) <;> simp only [cond_true, cond_false] <;> omega
/-- the best flood of those that start ahead of a day -/
def Lt.bst (g : Lt) (i : Nat) : Option (Nat × Nat) → Prop
  | none => ∀ s d, s < i → s + d ≤ g.wn → ¬ g.fine s d
  | some (a, b) => a < i ∧ a + b ≤ g.wn ∧ g.fine a b ∧ ∀ s d, s < i → s + d ≤ g.wn → g.fine s d → b < d ∨ (b = d ∧ a ≤ s)
theorem Lt.bst_none {g : Lt} {i : Nat} {o : Option (Nat × Nat)} (h : g.bst i o) (hn : ∀ d, i + d ≤ g.wn → ¬ g.fine i d) : g.bst (i + 1) o := by
  have hn' : ∀ s d, s < i + 1 → s + d ≤ g.wn → g.fine s d → s < i := fun s d h1 h2 h3 => by
    rcases Nat.lt_or_ge s i with q | q
    · exact q
    · have : s = i := by omega
      subst this; exact absurd h3 (hn d h2)
  rcases o with _ | ⟨a, b⟩
  · exact fun s d h1 h2 h3 => h s d (hn' s d h1 h2 h3) h2 h3
  · obtain ⟨h1, h2, h3, h4⟩ := h
    exact ⟨by omega, h2, h3, fun s d q1 q2 q3 => h4 s d (hn' s d q1 q2 q3) q2 q3⟩
theorem Lt.first {g : Lt} {s k : Nat} (h3 : ∀ j, j < k → g.wl s j < g.kill) {d : Nat} (h : g.fine s d) : k ≤ d := by
  rcases Nat.lt_or_ge d k with q | q
  · have := h3 d q; have := h.1; omega
  · exact q
theorem Lt.bst_keep {g : Lt} {i a b k : Nat} (h : g.bst i (some (a, b))) (h3 : ∀ j, j < k → g.wl i j < g.kill) (hb : b ≤ k) : g.bst (i + 1) (some (a, b)) := by
  obtain ⟨q1, q2, q3, q4⟩ := h
  refine ⟨by omega, q2, q3, fun s d r1 r2 r3 => ?_⟩
  rcases Nat.lt_or_ge s i with q | q
  · exact q4 s d q r2 r3
  · have : s = i := by omega
    subst this
    have := Lt.first h3 r3
    omega
theorem Lt.bst_take {g : Lt} {i k : Nat} {o : Option (Nat × Nat)} (h : g.bst i o) (h3 : ∀ j, j < k → g.wl i j < g.kill) (hk : i + k ≤ g.wn) (hf : g.fine i k) (ho : ∀ a b, o = some (a, b) → k < b) : g.bst (i + 1) (some (i, k)) := by
  refine ⟨by omega, hk, hf, fun s d r1 r2 r3 => ?_⟩
  rcases Nat.lt_or_ge s i with q | q
  · rcases o with _ | ⟨a, b⟩
    · exact absurd r3 (h s d q r2)
    · have := h.2.2.2 s d q r2 r3
      have := ho a b rfl
      omega
  · have : s = i := by omega
    subst this
    have := Lt.first h3 r3
    omega
abbrev Lt.bc (g : Lt) : Option (Nat × Nat) → List Value
  | none => noneS
  | some (a, b) => g.st a (Nat.testBit 0) b
def bsA : Option (Nat × Nat) → Int
  | none => 0
  | some (a, _) => (a : Int)
/-- what Best answers -/
def Lt.Bs (g : Lt) (w : Value) : Prop :=
  (g.ok = false ∧ w = .tuple #[iv 0, iv 0, iv 1]) ∨ (g.ok = true ∧ (∀ s d, s + d ≤ g.wn → ¬ g.fine s d) ∧ w = .tuple #[iv 0, iv 0, iv 4]) ∨
  (g.ok = true ∧ ∃ a b : Nat, a + b ≤ g.wn ∧ g.fine a b ∧ (∀ s d, s + d ≤ g.wn → g.fine s d → b < d ∨ (b = d ∧ a ≤ s)) ∧ w = .tuple #[iv (a : Int), iv (b : Int), iv 0])
section
variable {kn : FuncId → Option Bool} {lo : Nat} {H : Hp}
theorem best_ok (h48 : kn 48 = none) {g : Lt} (hw : Sl H g.wa g.wn g.wcap (spc g.ws)) (ha : Sl H g.aa g.an g.acap (spc g.as)) (hwl : g.ws.length = g.wn) (hal : g.as.length = g.an) (hwn : g.wn ≤ 1000) (han : g.an ≤ 1000) (hlo : lo ≤ H.next) :
    ∃ w H', FnX Try.prog kn lo 26 [.agg g.v.toArray] H w H' ∧ Keep H H' [] ∧ g.Bs w := by
  refine fnX_low (kn := kn) (lo := lo) (H := H) (args := [.agg g.v.toArray]) (Q := fun w H' => Keep H H' [] ∧ g.Bs w) Try.func26 B26 N26 Z26 L26 (by simp) ?_
  have hk := Keep.refl H []
  have fw := hw.old; have fa := ha.old
  intro H1 hH1; obtain ⟨kH1, nH1, c1⟩ := new_facts hH1; clear hH1
  have mH1 := kH1.1
  have hk := hk.trans kH1
  have hw := kH1.sl0 hw
  have ha := kH1.sl0 ha
  have c1 : Cl H1 H.next [.slice g.wa g.wn g.wcap, .slice g.aa g.an g.acap, iv g.r1, iv g.r2, iv g.f1, iv g.f2, iv g.g1, iv g.g2, iv g.full, iv g.base, iv g.kill, iv g.need, iv g.bear] := c1
  refine Exists.intro _ (Exists.intro _ (And.intro c1.of (And.intro (show row 13 _ _ = some [.slice g.wa g.wn g.wcap, .slice g.aa g.an g.acap, iv g.r1, iv g.r2, iv g.f1, iv g.f2, iv g.g1, iv g.g2, iv g.full, iv g.base, iv g.kill, iv g.need, iv g.bear] from rfl) ?_)))
  refine callB (valid_ok hw ha hwl hal) ?_
  intro tH2 H2 hH2 kH2
  have mH2 := kH2.1
  have hk := hk.trans kH2
  have hw := kH2.sl0 hw
  have ha := kH2.sl0 ha
  have c1 := kH2.cl c1 (by simp)
  cases tH2
  · have hok := hH2
    refine And.intro rfl (Exists.intro (.bool true) (And.intro rfl ?_))
    refine condT ?_
    exact And.intro trivial (Exists.intro _ (And.intro rfl ⟨hk, Or.inl ⟨hok, rfl⟩⟩))
  · have hok := hH2; have v := Lt.vd hok hwl hal; have hn40 := v.n40
    refine And.intro rfl (Exists.intro (.bool false) (And.intro rfl ?_))
    refine condF ?_
    obtain ⟨H3, fH3, kH3⟩ := none48_ok (kn := kn) (lo := lo) (H := H2) (by omega)
    have mH3 := kH3.1
    have hk := hk.trans kH3
    have hw := kH3.sl0 hw
    have ha := kH3.sl0 ha
    have c1 := kH3.cl c1 (by simp)
    refine Exists.intro _ (Exists.intro _ (And.intro (callX_func (by simp [kcall, h48]) (by simpa using fH3)) ?_))
    intro H4 hH4; obtain ⟨kH4, nH4, c4⟩ := new_facts hH4; clear hH4
    have c4 : Cl H4 H3.next [iv 0, iv 0, iv 0, iv 0, iv 0, iv 0, iv 0] := c4
    have mH4 := kH4.1
    have hk := hk.trans kH4
    have hw := kH4.sl0 hw
    have ha := kH4.sl0 ha
    have c1 := kH4.cl c1 (by simp)
    obtain ⟨_, eH5, lH5, gH5⟩ := id c4
    refine Exists.intro _ (Exists.intro _ (Exists.intro _ (And.intro gH5 (And.intro (by omega) (And.intro rfl (And.intro rfl (And.intro (by simp) ?_)))))))
    intro H5 hH5; obtain ⟨kH5, nH5, sH5⟩ := up_facts c4 hH5; clear hH5
    have mH5 := kH5.1
    have hk := hk.new kH5 (fun b hb => by simp at hb ⊢; omega)
    have hw := kH5.sl hw (fun b e => by have := fw b e; first | (simp; done) | (simp; omega))
    have ha := kH5.sl ha (fun b e => by have := fa b e; first | (simp; done) | (simp; omega))
    have c1 := kH5.cl c1 (by first | (simp; done) | (simp; omega))
    have c4 : Cl H5 H3.next [iv (-1), iv 0, iv 0, iv 0, iv 0, iv 0, iv 0] := sH5
    refine Exists.intro _ (Exists.intro _ (And.intro c1.of (And.intro (show _ = some (.slice g.wa g.wn g.wcap) from rfl) ?_)))
    refine And.intro ⟨by omega, by omega⟩ ?_
    obtain ⟨z0, hz0⟩ : ∃ z, z = H.next := ⟨_, rfl⟩
    obtain ⟨z1, hz1⟩ : ∃ z, z = H3.next := ⟨_, rfl⟩
    have b36 : z0 < z1 ∧ H.next ≤ z0 := by omega
    rw [← hz0] at c1
    rw [← hz1] at c4
    rw [← hz0, ← hz1]
    clear hz0 hz1
    refine loop_low (fn := Try.f26) E26_1 N26 L26x1 (fun x : Nat × Option (Nat × Nat) => [(1, pt z0), (2, iv (bsA x.2)), (5, pt z1), (17, iv ((g.wn : Int) + 1)), (18, iv (x.1 : Int))])
      (fun q x H' => x.1 + q = g.wn + 1 ∧ Keep H H' [] ∧ Sl H' g.wa g.wn g.wcap (spc g.ws) ∧ Sl H' g.aa g.an g.acap (spc g.as) ∧ Cl H' z0 g.v ∧ Cl H' z1 (g.bc x.2) ∧ g.bst x.1 x.2) (g.wn + 1) (0, none) ⟨by show 0 + (g.wn + 1) = g.wn + 1; omega, hk, hw, ha, c1, c4, fun s d h => by omega⟩ ⟨rfl, rfl, rfl, rfl, rfl, trivial⟩ ?_
    rintro q ⟨i, o⟩ L1 ⟨hik, hk, hw, ha, c1, c5, hst⟩
    simp only at hik hst c5
    have hm := hk.1
    have l1 := c1.lt
    have l5 := c5.lt
    refine And.intro (fun q1 => ?_) (fun q1 => ?_)
    · have q1 : (i : Int) < ((g.wn : Int) + 1) := of_decide_eq_true q1
      have hiw : i < g.wn + 1 := by omega
      obtain ⟨d, hid⟩ : ∃ d, i + d = g.wn := ⟨g.wn - i, by omega⟩
      refine Exists.intro _ (Exists.intro _ (And.intro c1.of (And.intro (show row 13 _ _ = some [.slice g.wa g.wn g.wcap, .slice g.aa g.an g.acap, iv g.r1, iv g.r2, iv g.f1, iv g.f2, iv g.g1, iv g.g2, iv g.full, iv g.base, iv g.kill, iv g.need, iv g.bear] from rfl) ?_)))
      obtain ⟨wH6, H6, fH6, kH6, hc⟩ := longest_ok (kn := kn) (lo := lo) (H := L1) (g := g) (a := (i : Int)) hw ha hwl hal hwn han (by omega)
      have mH6 := kH6.1
      have hk := hk.trans kH6
      have hw := kH6.sl0 hw
      have ha := kH6.sl0 ha
      have c1 := kH6.cl c1 (by simp)
      have c5 := kH6.cl c5 (by simp)
      obtain rfl : wH6 = .tuple #[.agg (crs g i d 0).toArray, iv 0] := by
        rcases hc with ⟨h, _⟩ | ⟨_, h, _⟩ | ⟨_, s, e, h1, h2, h3⟩
        · rw [hok] at h; cases h
        · simp only [inB, Bool.and_eq_false_iff, decide_eq_false_iff_not] at h; omega
        · obtain rfl : s = i := by omega
          obtain rfl : e = d := by omega
          exact h3
      refine Exists.intro _ (Exists.intro _ (And.intro (callX_args fH6) ?_))
      refine And.intro rfl (Exists.intro (.agg (crs g i d 0).toArray) (And.intro (by kernel_rfl) ?_))
      refine And.intro rfl (Exists.intro (iv 0) (And.intro (by kernel_rfl) ?_))
      intro H7 hH7; obtain ⟨kH7, nH7, c7⟩ := new_facts hH7; clear hH7
      have c7 : Cl H7 H6.next [.slice none 0 0, .slice none 0 0, iv 0, iv 0, iv 0, iv 0, iv 0, iv 0, iv 0, iv 0, iv 0, iv 0, iv 0, iv 0, iv 0, .int .u64 0] := c7
      have mH7 := kH7.1
      have hk := hk.trans kH7
      have hw := kH7.sl0 hw
      have ha := kH7.sl0 ha
      have c1 := kH7.cl c1 (by simp)
      have c5 := kH7.cl c5 (by simp)
      obtain ⟨_, eH8, lH8, gH8⟩ := id c7
      refine Exists.intro _ (Exists.intro _ (Exists.intro _ (And.intro gH8 (And.intro (by omega) (And.intro rfl (And.intro rfl (And.intro (by simp) ?_)))))))
      intro H8 hH8; obtain ⟨kH8, nH8, sH8⟩ := up_facts c7 hH8; clear hH8
      have mH8 := kH8.1
      have hk := hk.new kH8 (fun b hb => by simp at hb ⊢; omega)
      have hw := kH8.sl hw (fun b e => by have := fw b e; first | (simp; done) | (simp; omega))
      have ha := kH8.sl ha (fun b e => by have := fa b e; first | (simp; done) | (simp; omega))
      have c1 := kH8.cl c1 (by first | (simp; done) | (simp; omega))
      have c5 := kH8.cl c5 (by first | (simp; done) | (simp; omega))
      have c7 : Cl H8 H6.next [.slice g.wa g.wn g.wcap, .slice g.aa g.an g.acap, iv g.r1, iv g.r2, iv g.f1, iv g.f2, iv g.g1, iv g.g2, iv g.full, iv g.base, iv g.kill, iv g.need, iv g.bear, iv (i : Int), iv (d : Int), .int .u64 (0 : Int)] := sH8
      refine Exists.intro _ (Exists.intro _ (And.intro c7.of (And.intro (show row 16 _ _ = some [.slice g.wa g.wn g.wcap, .slice g.aa g.an g.acap, iv g.r1, iv g.r2, iv g.f1, iv g.f2, iv g.g1, iv g.g2, iv g.full, iv g.base, iv g.kill, iv g.need, iv g.bear, iv (i : Int), iv (d : Int), .int .u64 (0 : Int)] from rfl) ?_)))
      obtain ⟨wH9, H9, fH9, kH9, hres⟩ := drowned_ok (kn := kn) (lo := lo) (H := H8) (m := 0) h48 v (show i + d ≤ g.wn by omega) hw ha (by omega)
      have mH9 := kH9.1
      have hk := hk.trans kH9
      have hw := kH9.sl0 hw
      have ha := kH9.sl0 ha
      have c1 := kH9.cl c1 (by simp)
      have c5 := kH9.cl c5 (by simp)
      have c7 := kH9.cl c7 (by simp)
      rcases hres with ⟨k, hk1, hk2, hk3, rfl⟩ | ⟨hall, rfl⟩ <;> rcases o with _ | ⟨s0, k0⟩
      · have c5 : Cl H9 z1 [iv (-1), iv 0, iv 0, iv 0, iv 0, iv 0, iv 0] := c5
        have hk2 : ¬ g.wl i k < g.kill := of_decide_eq_false hk2
        have hk3 : ∀ j, j < k → g.wl i j < g.kill := fun j hj => of_decide_eq_true (hk3 j hj)
        refine Exists.intro _ (Exists.intro _ (And.intro (callX_args fH9) ?_))
        intro H10 hH10; obtain ⟨kH10, nH10, c10⟩ := new_facts hH10; clear hH10
        have c10 : Cl H10 H9.next [iv 0, iv 0, iv 0, iv 0, iv 0, iv 0, iv 0] := c10
        have mH10 := kH10.1
        have hk := hk.trans kH10
        have hw := kH10.sl0 hw
        have ha := kH10.sl0 ha
        have c1 := kH10.cl c1 (by simp)
        have c5 := kH10.cl c5 (by simp)
        have c7 := kH10.cl c7 (by simp)
        obtain ⟨_, eH11, lH11, gH11⟩ := id c10
        refine Exists.intro _ (Exists.intro _ (Exists.intro _ (And.intro gH11 (And.intro (by omega) (And.intro rfl (And.intro rfl (And.intro (by simp) ?_)))))))
        intro H11 hH11; obtain ⟨kH11, nH11, sH11⟩ := up_facts c10 hH11; clear hH11
        have mH11 := kH11.1
        have hk := hk.new kH11 (fun b hb => by simp at hb ⊢; omega)
        have hw := kH11.sl hw (fun b e => by have := fw b e; first | (simp; done) | (simp; omega))
        have ha := kH11.sl ha (fun b e => by have := fa b e; first | (simp; done) | (simp; omega))
        have c1 := kH11.cl c1 (by first | (simp; done) | (simp; omega))
        have c5 := kH11.cl c5 (by first | (simp; done) | (simp; omega))
        have c7 := kH11.cl c7 (by first | (simp; done) | (simp; omega))
        have c10 : Cl H11 H9.next [iv (k : Int), iv (g.wl i k), iv (g.wh i k), iv (g.lo i (Nat.testBit 0) k), iv (g.sl i (Nat.testBit 0) k), iv (g.hi i (Nat.testBit 0) k), iv (g.sm i (Nat.testBit 0) k)] := sH11
        refine wD_seq ?_
        refine wD_lda (b := H9.next) (o := 0) rfl c10.rd (show row 7 _ _ = some [iv (k : Int), iv (g.wl i k), iv (g.wh i k), iv (g.lo i (Nat.testBit 0) k), iv (g.sl i (Nat.testBit 0) k), iv (g.hi i (Nat.testBit 0) k), iv (g.sm i (Nat.testBit 0) k)] from rfl) ?_
        obtain ⟨H12, fH12, kH12⟩ := none48_ok (kn := kn) (lo := H11.next) (H := H11) (Nat.le_refl _)
        refine wD_callh (vs := []) rfl (by kernel_rfl) (callX_func (by simp [kcall, h48]) (by simpa using fH12)) ?_
        have mH12 := kH12.1
        have hk := hk.trans kH12
        have hw := kH12.sl0 hw
        have ha := kH12.sl0 ha
        have c1 := kH12.cl c1 (by simp)
        have c5 := kH12.cl c5 (by simp)
        have c7 := kH12.cl c7 (by simp)
        have c10 := kH12.cl c10 (by simp)
        refine wD_pur (v := .bool false) rfl (pure_eq72 rfl rfl rfl (by omega)) ?_
        refine wD_mov (v := .bool false) rfl ?_
        refine wD_g rfl (wD_lda (b := H6.next) (o := 0) rfl c7.rd (show row 16 _ _ = some [.slice g.wa g.wn g.wcap, .slice g.aa g.an g.acap, iv g.r1, iv g.r2, iv g.f1, iv g.f2, iv g.g1, iv g.g2, iv g.full, iv g.base, iv g.kill, iv g.need, iv g.bear, iv (i : Int), iv (d : Int), .int .u64 (0 : Int)] from rfl) ?_)
        refine wD_g rfl (wD_lda (b := H9.next) (o := 0) rfl c10.rd (show row 7 _ _ = some [iv (k : Int), iv (g.wl i k), iv (g.wh i k), iv (g.lo i (Nat.testBit 0) k), iv (g.sl i (Nat.testBit 0) k), iv (g.hi i (Nat.testBit 0) k), iv (g.sm i (Nat.testBit 0) k)] from rfl) ?_)
        obtain ⟨H13, fH13, kH13⟩ := hurts_ok (kn := kn) (lo := lo) (H := H12) (g := g) (s := i) (d := d) (m := 0) (k := k)
        generalize hh : decide (g.sl i (Nat.testBit 0) k > g.bear) = t at fH13
        refine wD_g rfl (wD_callf (vs := [.agg (crs g i d 0).toArray, .agg (g.st i (Nat.testBit 0) k).toArray]) rfl (callX_args fH13) ?_)
        have mH13 := kH13.1
        have hk := hk.trans kH13
        have hw := kH13.sl0 hw
        have ha := kH13.sl0 ha
        have c1 := kH13.cl c1 (by simp)
        have c5 := kH13.cl c5 (by simp)
        have c7 := kH13.cl c7 (by simp)
        have c10 := kH13.cl c10 (by simp)
        cases t
        · have hh : ¬ (g.sl i (Nat.testBit 0) k > g.bear) := of_decide_eq_false hh
          refine wD_pur (v := .bool false) rfl rfl ?_
          refine wD_end (by repeat' first | exact True.intro | exact (fun h => h) | refine And.intro ?_ ?_ | (intro h; have h : (_ : Nat) = _ := h; omega)) ?_
          refine condF ?_
          refine wD_seq ?_
          refine wD_lda (b := z1) (o := 0) rfl c5.rd (show row 7 _ _ = some [iv (-1), iv 0, iv 0, iv 0, iv 0, iv 0, iv 0] from rfl) ?_
          obtain ⟨H14, fH14, kH14⟩ := none48_ok (kn := kn) (lo := H13.next) (H := H13) (Nat.le_refl _)
          refine wD_callh (vs := []) rfl (by kernel_rfl) (callX_func (by simp [kcall, h48]) (by simpa using fH14)) ?_
          have mH14 := kH14.1
          have hk := hk.trans kH14
          have hw := kH14.sl0 hw
          have ha := kH14.sl0 ha
          have c1 := kH14.cl c1 (by simp)
          have c5 := kH14.cl c5 (by simp)
          have c7 := kH14.cl c7 (by simp)
          have c10 := kH14.cl c10 (by simp)
          refine wD_pur (v := .bool true) rfl (pure_eq72n rfl rfl) ?_
          refine wD_mov (v := .bool true) rfl ?_
          refine wD_gs rfl ?_
          refine wD_gs rfl ?_
          refine wD_gs rfl ?_
          refine wD_gs rfl ?_
          refine wD_gs rfl ?_
          refine wD_pur (v := .bool true) rfl rfl ?_
          refine wD_end (by repeat' first | exact True.intro | exact (fun h => h) | refine And.intro ?_ ?_ | (intro h; have h : (_ : Nat) = _ := h; omega)) ?_
          refine condT ?_
          have hnew : g.bst (i + 1) (some (i, k)) := Lt.bst_take hst hk3 (by omega) ⟨by omega, by omega⟩ (fun a b e => by cases e)
          refine wD_dreg ?_
          refine wD_mov (v := iv (i : Int)) rfl ?_
          refine wD_lda (b := H9.next) (o := 0) rfl c10.rd (show row 7 _ _ = some [iv (k : Int), iv (g.wl i k), iv (g.wh i k), iv (g.lo i (Nat.testBit 0) k), iv (g.sl i (Nat.testBit 0) k), iv (g.hi i (Nat.testBit 0) k), iv (g.sm i (Nat.testBit 0) k)] from rfl) ?_
          refine wD_mov (v := iv (i : Int)) rfl ?_
          refine wD_sta (b := z1) (o := 0) rfl rfl c5 (by omega) rfl rfl (by simp) ?_
          intro H15 kH15 nH15 sH15
          have mH15 := kH15.1
          have hk := hk.new kH15 (fun b hb => by simp at hb ⊢; omega)
          have hw := kH15.sl hw (fun b e => by have := fw b e; first | (simp; done) | (simp; omega))
          have ha := kH15.sl ha (fun b e => by have := fa b e; first | (simp; done) | (simp; omega))
          have c1 := kH15.cl c1 (by first | (simp; done) | (simp; omega))
          have c7 := kH15.cl c7 (by first | (simp; done) | (simp; omega))
          have c10 := kH15.cl c10 (by first | (simp; done) | (simp; omega))
          have c5 : Cl H15 z1 [iv (k : Int), iv (g.wl i k), iv (g.wh i k), iv (g.lo i (Nat.testBit 0) k), iv (g.sl i (Nat.testBit 0) k), iv (g.hi i (Nat.testBit 0) k), iv (g.sm i (Nat.testBit 0) k)] := sH15
          refine wD_end (by repeat' first | exact True.intro | exact (fun h => h) | refine And.intro ?_ ?_ | (intro h; have h : (_ : Nat) = _ := h; omega)) ?_
          refine And.intro (show InR ((i : Int) + 1) from ⟨by omega, by omega⟩) ?_
          have c5 : Cl H15 z1 (g.bc (some (i, k))) := c5
          exact ⟨q - 1, (i + 1, (some (i, k))), by omega, ⟨by show i + 1 + (q - 1) = g.wn + 1; omega, hk, hw, ha, c1, c5, hnew⟩, rfl, rfl, rfl, rfl, rfl, trivial⟩
        · have hh : (g.sl i (Nat.testBit 0) k > g.bear) := of_decide_eq_true hh
          refine wD_pur (v := .bool true) rfl rfl ?_
          refine wD_end (by repeat' first | exact True.intro | exact (fun h => h) | refine And.intro ?_ ?_ | (intro h; have h : (_ : Nat) = _ := h; omega)) ?_
          refine condT ?_
          have hnew : g.bst (i + 1) none := Lt.bst_none hst (fun e he hf => by
            have h1 := Lt.first hk3 hf; have h2 := Lt.sl_le (g := g) (s := i) (F := Nat.testBit 0) h1; have h3 := hf.2; omega)
          refine And.intro (show InR ((i : Int) + 1) from ⟨by omega, by omega⟩) ?_
          have c5 : Cl H13 z1 (g.bc none) := c5
          exact ⟨q - 1, (i + 1, none), by omega, ⟨by show i + 1 + (q - 1) = g.wn + 1; omega, hk, hw, ha, c1, c5, hnew⟩, rfl, rfl, rfl, rfl, rfl, trivial⟩
      · have c5 : Cl H9 z1 [iv (k0 : Int), iv (g.wl s0 k0), iv (g.wh s0 k0), iv (g.lo s0 (Nat.testBit 0) k0), iv (g.sl s0 (Nat.testBit 0) k0), iv (g.hi s0 (Nat.testBit 0) k0), iv (g.sm s0 (Nat.testBit 0) k0)] := c5
        have hk2 : ¬ g.wl i k < g.kill := of_decide_eq_false hk2
        have hk3 : ∀ j, j < k → g.wl i j < g.kill := fun j hj => of_decide_eq_true (hk3 j hj)
        refine Exists.intro _ (Exists.intro _ (And.intro (callX_args fH9) ?_))
        intro H16 hH16; obtain ⟨kH16, nH16, c16⟩ := new_facts hH16; clear hH16
        have c16 : Cl H16 H9.next [iv 0, iv 0, iv 0, iv 0, iv 0, iv 0, iv 0] := c16
        have mH16 := kH16.1
        have hk := hk.trans kH16
        have hw := kH16.sl0 hw
        have ha := kH16.sl0 ha
        have c1 := kH16.cl c1 (by simp)
        have c5 := kH16.cl c5 (by simp)
        have c7 := kH16.cl c7 (by simp)
        obtain ⟨_, eH17, lH17, gH17⟩ := id c16
        refine Exists.intro _ (Exists.intro _ (Exists.intro _ (And.intro gH17 (And.intro (by omega) (And.intro rfl (And.intro rfl (And.intro (by simp) ?_)))))))
        intro H17 hH17; obtain ⟨kH17, nH17, sH17⟩ := up_facts c16 hH17; clear hH17
        have mH17 := kH17.1
        have hk := hk.new kH17 (fun b hb => by simp at hb ⊢; omega)
        have hw := kH17.sl hw (fun b e => by have := fw b e; first | (simp; done) | (simp; omega))
        have ha := kH17.sl ha (fun b e => by have := fa b e; first | (simp; done) | (simp; omega))
        have c1 := kH17.cl c1 (by first | (simp; done) | (simp; omega))
        have c5 := kH17.cl c5 (by first | (simp; done) | (simp; omega))
        have c7 := kH17.cl c7 (by first | (simp; done) | (simp; omega))
        have c16 : Cl H17 H9.next [iv (k : Int), iv (g.wl i k), iv (g.wh i k), iv (g.lo i (Nat.testBit 0) k), iv (g.sl i (Nat.testBit 0) k), iv (g.hi i (Nat.testBit 0) k), iv (g.sm i (Nat.testBit 0) k)] := sH17
        refine wD_seq ?_
        refine wD_lda (b := H9.next) (o := 0) rfl c16.rd (show row 7 _ _ = some [iv (k : Int), iv (g.wl i k), iv (g.wh i k), iv (g.lo i (Nat.testBit 0) k), iv (g.sl i (Nat.testBit 0) k), iv (g.hi i (Nat.testBit 0) k), iv (g.sm i (Nat.testBit 0) k)] from rfl) ?_
        obtain ⟨H18, fH18, kH18⟩ := none48_ok (kn := kn) (lo := H17.next) (H := H17) (Nat.le_refl _)
        refine wD_callh (vs := []) rfl (by kernel_rfl) (callX_func (by simp [kcall, h48]) (by simpa using fH18)) ?_
        have mH18 := kH18.1
        have hk := hk.trans kH18
        have hw := kH18.sl0 hw
        have ha := kH18.sl0 ha
        have c1 := kH18.cl c1 (by simp)
        have c5 := kH18.cl c5 (by simp)
        have c7 := kH18.cl c7 (by simp)
        have c16 := kH18.cl c16 (by simp)
        refine wD_pur (v := .bool false) rfl (pure_eq72 rfl rfl rfl (by omega)) ?_
        refine wD_mov (v := .bool false) rfl ?_
        refine wD_g rfl (wD_lda (b := H6.next) (o := 0) rfl c7.rd (show row 16 _ _ = some [.slice g.wa g.wn g.wcap, .slice g.aa g.an g.acap, iv g.r1, iv g.r2, iv g.f1, iv g.f2, iv g.g1, iv g.g2, iv g.full, iv g.base, iv g.kill, iv g.need, iv g.bear, iv (i : Int), iv (d : Int), .int .u64 (0 : Int)] from rfl) ?_)
        refine wD_g rfl (wD_lda (b := H9.next) (o := 0) rfl c16.rd (show row 7 _ _ = some [iv (k : Int), iv (g.wl i k), iv (g.wh i k), iv (g.lo i (Nat.testBit 0) k), iv (g.sl i (Nat.testBit 0) k), iv (g.hi i (Nat.testBit 0) k), iv (g.sm i (Nat.testBit 0) k)] from rfl) ?_)
        obtain ⟨H19, fH19, kH19⟩ := hurts_ok (kn := kn) (lo := lo) (H := H18) (g := g) (s := i) (d := d) (m := 0) (k := k)
        generalize hh : decide (g.sl i (Nat.testBit 0) k > g.bear) = t at fH19
        refine wD_g rfl (wD_callf (vs := [.agg (crs g i d 0).toArray, .agg (g.st i (Nat.testBit 0) k).toArray]) rfl (callX_args fH19) ?_)
        have mH19 := kH19.1
        have hk := hk.trans kH19
        have hw := kH19.sl0 hw
        have ha := kH19.sl0 ha
        have c1 := kH19.cl c1 (by simp)
        have c5 := kH19.cl c5 (by simp)
        have c7 := kH19.cl c7 (by simp)
        have c16 := kH19.cl c16 (by simp)
        cases t
        · have hh : ¬ (g.sl i (Nat.testBit 0) k > g.bear) := of_decide_eq_false hh
          refine wD_pur (v := .bool false) rfl rfl ?_
          refine wD_end (by repeat' first | exact True.intro | exact (fun h => h) | refine And.intro ?_ ?_ | (intro h; have h : (_ : Nat) = _ := h; omega)) ?_
          refine condF ?_
          refine wD_seq ?_
          refine wD_lda (b := z1) (o := 0) rfl c5.rd (show row 7 _ _ = some [iv (k0 : Int), iv (g.wl s0 k0), iv (g.wh s0 k0), iv (g.lo s0 (Nat.testBit 0) k0), iv (g.sl s0 (Nat.testBit 0) k0), iv (g.hi s0 (Nat.testBit 0) k0), iv (g.sm s0 (Nat.testBit 0) k0)] from rfl) ?_
          obtain ⟨H20, fH20, kH20⟩ := none48_ok (kn := kn) (lo := H19.next) (H := H19) (Nat.le_refl _)
          refine wD_callh (vs := []) rfl (by kernel_rfl) (callX_func (by simp [kcall, h48]) (by simpa using fH20)) ?_
          have mH20 := kH20.1
          have hk := hk.trans kH20
          have hw := kH20.sl0 hw
          have ha := kH20.sl0 ha
          have c1 := kH20.cl c1 (by simp)
          have c5 := kH20.cl c5 (by simp)
          have c7 := kH20.cl c7 (by simp)
          have c16 := kH20.cl c16 (by simp)
          refine wD_pur (v := .bool false) rfl (pure_eq72 rfl rfl rfl (by omega)) ?_
          refine wD_mov (v := .bool false) rfl ?_
          refine wD_g rfl (wD_addo (b := H9.next) (o := 0) rfl ?_)
          refine wD_g rfl (wD_ld (b := H9.next) (o := 0) (v := iv (k : Int)) rfl c16.rd rfl ?_)
          refine wD_g rfl (wD_addo (b := z1) (o := 0) rfl ?_)
          refine wD_g rfl (wD_ld (b := z1) (o := 0) (v := iv (k0 : Int)) rfl c5.rd rfl ?_)
          refine wD_g rfl (wD_b_lss (a := (k : Int)) (b := (k0 : Int)) rfl rfl ?_)
          intro t2 g2; cases t2
          · have g2 : ¬ ((k : Int) < (k0 : Int)) := of_decide_eq_false g2
            refine wD_pur (v := .bool false) rfl rfl ?_
            refine wD_end (by repeat' first | exact True.intro | exact (fun h => h) | refine And.intro ?_ ?_ | (intro h; have h : (_ : Nat) = _ := h; omega)) ?_
            refine condF ?_
            have hnew : g.bst (i + 1) (some (s0, k0)) := Lt.bst_keep hst hk3 (by omega)
            refine And.intro (show InR ((i : Int) + 1) from ⟨by omega, by omega⟩) ?_
            have c5 : Cl H20 z1 (g.bc (some (s0, k0))) := c5
            exact ⟨q - 1, (i + 1, (some (s0, k0))), by omega, ⟨by show i + 1 + (q - 1) = g.wn + 1; omega, hk, hw, ha, c1, c5, hnew⟩, rfl, rfl, rfl, rfl, rfl, trivial⟩
          · have g2 : (k : Int) < (k0 : Int) := of_decide_eq_true g2
            refine wD_pur (v := .bool true) rfl rfl ?_
            refine wD_end (by repeat' first | exact True.intro | exact (fun h => h) | refine And.intro ?_ ?_ | (intro h; have h : (_ : Nat) = _ := h; omega)) ?_
            refine condT ?_
            have hnew : g.bst (i + 1) (some (i, k)) := Lt.bst_take hst hk3 (by omega) ⟨by omega, by omega⟩ (fun a b e => by cases e; omega)
            refine wD_dreg ?_
            refine wD_mov (v := iv (i : Int)) rfl ?_
            refine wD_lda (b := H9.next) (o := 0) rfl c16.rd (show row 7 _ _ = some [iv (k : Int), iv (g.wl i k), iv (g.wh i k), iv (g.lo i (Nat.testBit 0) k), iv (g.sl i (Nat.testBit 0) k), iv (g.hi i (Nat.testBit 0) k), iv (g.sm i (Nat.testBit 0) k)] from rfl) ?_
            refine wD_mov (v := iv (i : Int)) rfl ?_
            refine wD_sta (b := z1) (o := 0) rfl rfl c5 (by omega) rfl rfl (by simp) ?_
            intro H21 kH21 nH21 sH21
            have mH21 := kH21.1
            have hk := hk.new kH21 (fun b hb => by simp at hb ⊢; omega)
            have hw := kH21.sl hw (fun b e => by have := fw b e; first | (simp; done) | (simp; omega))
            have ha := kH21.sl ha (fun b e => by have := fa b e; first | (simp; done) | (simp; omega))
            have c1 := kH21.cl c1 (by first | (simp; done) | (simp; omega))
            have c7 := kH21.cl c7 (by first | (simp; done) | (simp; omega))
            have c16 := kH21.cl c16 (by first | (simp; done) | (simp; omega))
            have c5 : Cl H21 z1 [iv (k : Int), iv (g.wl i k), iv (g.wh i k), iv (g.lo i (Nat.testBit 0) k), iv (g.sl i (Nat.testBit 0) k), iv (g.hi i (Nat.testBit 0) k), iv (g.sm i (Nat.testBit 0) k)] := sH21
            refine wD_end (by repeat' first | exact True.intro | exact (fun h => h) | refine And.intro ?_ ?_ | (intro h; have h : (_ : Nat) = _ := h; omega)) ?_
            refine And.intro (show InR ((i : Int) + 1) from ⟨by omega, by omega⟩) ?_
            have c5 : Cl H21 z1 (g.bc (some (i, k))) := c5
            exact ⟨q - 1, (i + 1, (some (i, k))), by omega, ⟨by show i + 1 + (q - 1) = g.wn + 1; omega, hk, hw, ha, c1, c5, hnew⟩, rfl, rfl, rfl, rfl, rfl, trivial⟩
        · have hh : (g.sl i (Nat.testBit 0) k > g.bear) := of_decide_eq_true hh
          refine wD_pur (v := .bool true) rfl rfl ?_
          refine wD_end (by repeat' first | exact True.intro | exact (fun h => h) | refine And.intro ?_ ?_ | (intro h; have h : (_ : Nat) = _ := h; omega)) ?_
          refine condT ?_
          have hnew : g.bst (i + 1) (some (s0, k0)) := Lt.bst_none hst (fun e he hf => by
            have h1 := Lt.first hk3 hf; have h2 := Lt.sl_le (g := g) (s := i) (F := Nat.testBit 0) h1; have h3 := hf.2; omega)
          refine And.intro (show InR ((i : Int) + 1) from ⟨by omega, by omega⟩) ?_
          have c5 : Cl H19 z1 (g.bc (some (s0, k0))) := c5
          exact ⟨q - 1, (i + 1, (some (s0, k0))), by omega, ⟨by show i + 1 + (q - 1) = g.wn + 1; omega, hk, hw, ha, c1, c5, hnew⟩, rfl, rfl, rfl, rfl, rfl, trivial⟩
      · have c5 : Cl H9 z1 [iv (-1), iv 0, iv 0, iv 0, iv 0, iv 0, iv 0] := c5
        refine Exists.intro _ (Exists.intro _ (And.intro (callX_args fH9) ?_))
        intro H22 hH22; obtain ⟨kH22, nH22, c22⟩ := new_facts hH22; clear hH22
        have c22 : Cl H22 H9.next [iv 0, iv 0, iv 0, iv 0, iv 0, iv 0, iv 0] := c22
        have mH22 := kH22.1
        have hk := hk.trans kH22
        have hw := kH22.sl0 hw
        have ha := kH22.sl0 ha
        have c1 := kH22.cl c1 (by simp)
        have c5 := kH22.cl c5 (by simp)
        have c7 := kH22.cl c7 (by simp)
        obtain ⟨_, eH23, lH23, gH23⟩ := id c22
        refine Exists.intro _ (Exists.intro _ (Exists.intro _ (And.intro gH23 (And.intro (by omega) (And.intro rfl (And.intro rfl (And.intro (by simp) ?_)))))))
        intro H23 hH23; obtain ⟨kH23, nH23, sH23⟩ := up_facts c22 hH23; clear hH23
        have mH23 := kH23.1
        have hk := hk.new kH23 (fun b hb => by simp at hb ⊢; omega)
        have hw := kH23.sl hw (fun b e => by have := fw b e; first | (simp; done) | (simp; omega))
        have ha := kH23.sl ha (fun b e => by have := fa b e; first | (simp; done) | (simp; omega))
        have c1 := kH23.cl c1 (by first | (simp; done) | (simp; omega))
        have c5 := kH23.cl c5 (by first | (simp; done) | (simp; omega))
        have c7 := kH23.cl c7 (by first | (simp; done) | (simp; omega))
        have c22 : Cl H23 H9.next [iv (-1), iv 0, iv 0, iv 0, iv 0, iv 0, iv 0] := sH23
        refine wD_seq ?_
        refine wD_lda (b := H9.next) (o := 0) rfl c22.rd (show row 7 _ _ = some [iv (-1), iv 0, iv 0, iv 0, iv 0, iv 0, iv 0] from rfl) ?_
        obtain ⟨H24, fH24, kH24⟩ := none48_ok (kn := kn) (lo := H23.next) (H := H23) (Nat.le_refl _)
        refine wD_callh (vs := []) rfl (by kernel_rfl) (callX_func (by simp [kcall, h48]) (by simpa using fH24)) ?_
        have mH24 := kH24.1
        have hk := hk.trans kH24
        have hw := kH24.sl0 hw
        have ha := kH24.sl0 ha
        have c1 := kH24.cl c1 (by simp)
        have c5 := kH24.cl c5 (by simp)
        have c7 := kH24.cl c7 (by simp)
        have c22 := kH24.cl c22 (by simp)
        refine wD_pur (v := .bool true) rfl (pure_eq72n rfl rfl) ?_
        refine wD_mov (v := .bool true) rfl ?_
        refine wD_gs rfl ?_
        refine wD_gs rfl ?_
        refine wD_gs rfl ?_
        refine wD_pur (v := .bool true) rfl rfl ?_
        refine wD_end (by repeat' first | exact True.intro | exact (fun h => h) | refine And.intro ?_ ?_ | (intro h; have h : (_ : Nat) = _ := h; omega)) ?_
        refine condT ?_
        have hnew : g.bst (i + 1) none := Lt.bst_none hst (fun e he hf => by
          have h1 := of_decide_eq_true (hall e (by omega)); have h3 := hf.1; omega)
        refine And.intro (show InR ((i : Int) + 1) from ⟨by omega, by omega⟩) ?_
        have c5 : Cl H24 z1 (g.bc none) := c5
        exact ⟨q - 1, (i + 1, none), by omega, ⟨by show i + 1 + (q - 1) = g.wn + 1; omega, hk, hw, ha, c1, c5, hnew⟩, rfl, rfl, rfl, rfl, rfl, trivial⟩
      · have c5 : Cl H9 z1 [iv (k0 : Int), iv (g.wl s0 k0), iv (g.wh s0 k0), iv (g.lo s0 (Nat.testBit 0) k0), iv (g.sl s0 (Nat.testBit 0) k0), iv (g.hi s0 (Nat.testBit 0) k0), iv (g.sm s0 (Nat.testBit 0) k0)] := c5
        refine Exists.intro _ (Exists.intro _ (And.intro (callX_args fH9) ?_))
        intro H25 hH25; obtain ⟨kH25, nH25, c25⟩ := new_facts hH25; clear hH25
        have c25 : Cl H25 H9.next [iv 0, iv 0, iv 0, iv 0, iv 0, iv 0, iv 0] := c25
        have mH25 := kH25.1
        have hk := hk.trans kH25
        have hw := kH25.sl0 hw
        have ha := kH25.sl0 ha
        have c1 := kH25.cl c1 (by simp)
        have c5 := kH25.cl c5 (by simp)
        have c7 := kH25.cl c7 (by simp)
        obtain ⟨_, eH26, lH26, gH26⟩ := id c25
        refine Exists.intro _ (Exists.intro _ (Exists.intro _ (And.intro gH26 (And.intro (by omega) (And.intro rfl (And.intro rfl (And.intro (by simp) ?_)))))))
        intro H26 hH26; obtain ⟨kH26, nH26, sH26⟩ := up_facts c25 hH26; clear hH26
        have mH26 := kH26.1
        have hk := hk.new kH26 (fun b hb => by simp at hb ⊢; omega)
        have hw := kH26.sl hw (fun b e => by have := fw b e; first | (simp; done) | (simp; omega))
        have ha := kH26.sl ha (fun b e => by have := fa b e; first | (simp; done) | (simp; omega))
        have c1 := kH26.cl c1 (by first | (simp; done) | (simp; omega))
        have c5 := kH26.cl c5 (by first | (simp; done) | (simp; omega))
        have c7 := kH26.cl c7 (by first | (simp; done) | (simp; omega))
        have c25 : Cl H26 H9.next [iv (-1), iv 0, iv 0, iv 0, iv 0, iv 0, iv 0] := sH26
        refine wD_seq ?_
        refine wD_lda (b := H9.next) (o := 0) rfl c25.rd (show row 7 _ _ = some [iv (-1), iv 0, iv 0, iv 0, iv 0, iv 0, iv 0] from rfl) ?_
        obtain ⟨H27, fH27, kH27⟩ := none48_ok (kn := kn) (lo := H26.next) (H := H26) (Nat.le_refl _)
        refine wD_callh (vs := []) rfl (by kernel_rfl) (callX_func (by simp [kcall, h48]) (by simpa using fH27)) ?_
        have mH27 := kH27.1
        have hk := hk.trans kH27
        have hw := kH27.sl0 hw
        have ha := kH27.sl0 ha
        have c1 := kH27.cl c1 (by simp)
        have c5 := kH27.cl c5 (by simp)
        have c7 := kH27.cl c7 (by simp)
        have c25 := kH27.cl c25 (by simp)
        refine wD_pur (v := .bool true) rfl (pure_eq72n rfl rfl) ?_
        refine wD_mov (v := .bool true) rfl ?_
        refine wD_gs rfl ?_
        refine wD_gs rfl ?_
        refine wD_gs rfl ?_
        refine wD_pur (v := .bool true) rfl rfl ?_
        refine wD_end (by repeat' first | exact True.intro | exact (fun h => h) | refine And.intro ?_ ?_ | (intro h; have h : (_ : Nat) = _ := h; omega)) ?_
        refine condT ?_
        have hnew : g.bst (i + 1) (some (s0, k0)) := Lt.bst_none hst (fun e he hf => by
          have h1 := of_decide_eq_true (hall e (by omega)); have h3 := hf.1; omega)
        refine And.intro (show InR ((i : Int) + 1) from ⟨by omega, by omega⟩) ?_
        have c5 : Cl H27 z1 (g.bc (some (s0, k0))) := c5
        exact ⟨q - 1, (i + 1, (some (s0, k0))), by omega, ⟨by show i + 1 + (q - 1) = g.wn + 1; omega, hk, hw, ha, c1, c5, hnew⟩, rfl, rfl, rfl, rfl, rfl, trivial⟩
    · have q1 : ¬ ((i : Int) < ((g.wn : Int) + 1)) := of_decide_eq_false q1
      have hi : i = g.wn + 1 := by omega
      subst hi
      rcases o with _ | ⟨s0, k0⟩
      · have c5 : Cl L1 z1 [iv (-1), iv 0, iv 0, iv 0, iv 0, iv 0, iv 0] := c5
        refine wD_seq ?_
        refine wD_lda (b := z1) (o := 0) rfl c5.rd (show row 7 _ _ = some [iv (-1), iv 0, iv 0, iv 0, iv 0, iv 0, iv 0] from rfl) ?_
        obtain ⟨H28, fH28, kH28⟩ := none48_ok (kn := kn) (lo := L1.next) (H := L1) (Nat.le_refl _)
        refine wD_callh (vs := []) rfl (by kernel_rfl) (callX_func (by simp [kcall, h48]) (by simpa using fH28)) ?_
        have mH28 := kH28.1
        have hk := hk.trans kH28
        have hw := kH28.sl0 hw
        have ha := kH28.sl0 ha
        have c1 := kH28.cl c1 (by simp)
        have c5 := kH28.cl c5 (by simp)
        refine wD_pur (v := .bool true) rfl (pure_eq72n rfl rfl) ?_
        refine wD_end (by repeat' first | exact True.intro | exact (fun h => h) | refine And.intro ?_ ?_ | (intro h; have h : (_ : Nat) = _ := h; omega)) ?_
        refine condT ?_
        exact And.intro trivial (Exists.intro _ (And.intro rfl ⟨hk, Or.inr (Or.inl ⟨hok, fun s d h => hst s d (by omega) h, rfl⟩)⟩))
      · have c5 : Cl L1 z1 [iv (k0 : Int), iv (g.wl s0 k0), iv (g.wh s0 k0), iv (g.lo s0 (Nat.testBit 0) k0), iv (g.sl s0 (Nat.testBit 0) k0), iv (g.hi s0 (Nat.testBit 0) k0), iv (g.sm s0 (Nat.testBit 0) k0)] := c5
        refine wD_seq ?_
        refine wD_lda (b := z1) (o := 0) rfl c5.rd (show row 7 _ _ = some [iv (k0 : Int), iv (g.wl s0 k0), iv (g.wh s0 k0), iv (g.lo s0 (Nat.testBit 0) k0), iv (g.sl s0 (Nat.testBit 0) k0), iv (g.hi s0 (Nat.testBit 0) k0), iv (g.sm s0 (Nat.testBit 0) k0)] from rfl) ?_
        obtain ⟨H29, fH29, kH29⟩ := none48_ok (kn := kn) (lo := L1.next) (H := L1) (Nat.le_refl _)
        refine wD_callh (vs := []) rfl (by kernel_rfl) (callX_func (by simp [kcall, h48]) (by simpa using fH29)) ?_
        have mH29 := kH29.1
        have hk := hk.trans kH29
        have hw := kH29.sl0 hw
        have ha := kH29.sl0 ha
        have c1 := kH29.cl c1 (by simp)
        have c5 := kH29.cl c5 (by simp)
        refine wD_pur (v := .bool false) rfl (pure_eq72 rfl rfl rfl (by omega)) ?_
        refine wD_end (by repeat' first | exact True.intro | exact (fun h => h) | refine And.intro ?_ ?_ | (intro h; have h : (_ : Nat) = _ := h; omega)) ?_
        refine condF ?_
        refine wD_seq ?_
        refine wD_mov (v := iv (s0 : Int)) rfl ?_
        refine wD_addo (b := z1) (o := 0) rfl ?_
        refine wD_ld (b := z1) (o := 0) (v := iv (k0 : Int)) rfl c5.rd rfl ?_
        refine wD_mov (v := iv (s0 : Int)) rfl ?_
        refine wD_mov (v := iv (k0 : Int)) rfl ?_
        refine wD_mov (v := iv 0) rfl ?_
        refine wD_end (by repeat' first | exact True.intro | exact (fun h => h) | refine And.intro ?_ ?_ | (intro h; have h : (_ : Nat) = _ := h; omega)) ?_
        exact And.intro trivial (Exists.intro _ (And.intro rfl ⟨hk, Or.inr (Or.inr ⟨hok, s0, k0, hst.2.1, hst.2.2.1, fun s d h => hst.2.2.2 s d (by omega) h, rfl⟩)⟩))
end
end Go.Ax

/-! What 'low' makes of more functions of late (written by program). -/
namespace Go.Ax
open Go Go.RowKit Go.Proofs
end Go.Ax

/-
  Late: the law LateFewest, whatever the input (written by program).
-/
namespace Go.Ax
open Go Go.RowKit Go.Proofs

section
variable {kn : FuncId → Option Bool} {lo : Nat} {H : Hp}
end
end Go.Ax

/-
  Late: the document's Drowned, Bears, Best (23, 25, 27); the law LateBests, whatever the input (written by program).
-/
namespace Go.Ax
open Go Go.RowKit Go.Proofs

section
variable {kn : FuncId → Option Bool} {lo : Nat} {H : Hp}
end
theorem Lt.Dr.any {g : Lt} {a : Int} {w : Value} (h : g.Dr a w) : ∃ x e : Int, w = .tuple #[iv x, iv e] := by
  rcases h with ⟨_, h⟩ | ⟨_, _, h⟩ | ⟨_, _, _, _, _, ⟨_, _, _, _, h⟩ | ⟨_, h⟩⟩ <;> exact ⟨_, _, h⟩
theorem Lt.Br.any {g : Lt} {a : Int} {w : Value} (h : g.Br a w) : ∃ x e : Int, w = .tuple #[iv x, iv e] := by
  rcases h with ⟨_, h⟩ | ⟨_, _, h⟩ | ⟨_, _, _, _, _, _, _, _, _, h⟩ <;> exact ⟨_, _, h⟩
theorem Lt.Bs.any {g : Lt} {w : Value} (h : g.Bs w) : ∃ x y e : Int, w = .tuple #[iv x, iv y, iv e] := by
  rcases h with ⟨_, h⟩ | ⟨_, _, h⟩ | ⟨_, _, _, _, _, _, h⟩ <;> exact ⟨_, _, _, h⟩
section
variable {kn : FuncId → Option Bool} {lo : Nat} {H : Hp}
end
end Go.Ax

/-! What 'low' makes of more functions of late (written by program). -/
namespace Go.Ax
open Go Go.RowKit Go.Proofs
theorem N12 : Try.f12.ntmps = 92 := by kernel_rfl
theorem Z12 : Try.f12.results.toList = ((List.toArray [(.tmp 8)]) : Array ResultVar).toList := by kernel_rfl
theorem B12 : Try.f12.body = some (at_ Try.f12 []) := by kernel_rfl
noncomputable def R12 : RC := (.seq (.reg [⟨(some 4), none, (.box 26 (.tmp 0))⟩, ⟨(some 8), none, (.mov (.const (.bool false)))⟩])
  (.seq (.seq (.reg [⟨(some 18), none, (.lda (.tmp 4) 13)⟩, ⟨(some 19), none, (.mov (.tmp 3))⟩, ⟨(some 20), none, (.call ⟨(.value (.func 13)), (List.toArray [(.tmp 18), (.tmp 19)]), (List.toArray [26, 27])⟩ true)⟩])
  (.cond (.tmp 20) (.seq (.reg [⟨(some 21), none, (.call ⟨(.value (.func 14)), (List.toArray []), (List.toArray [])⟩ true)⟩, ⟨(some 8), none, (.mov (.tmp 21))⟩])
  .ret)
  .skip))
  (.seq (.dreg [⟨(some 22), none, (.mem ⟨(some 22), (.buildSlice 22 0 (List.toArray [])), 22, "", (List.toArray []), none⟩)⟩, ⟨(some 23), none, (.addo (.tmp 4) 0)⟩, ⟨(some 24), none, (.ld (.tmp 23) 1)⟩, ⟨(some 25), none, (.mem ⟨(some 25), (.call ⟨(.builtin .append), (List.toArray [(.tmp 22), (.tmp 24)]), (List.toArray [22, 22])⟩), 22, "", (List.toArray []), none⟩)⟩, ⟨(some 26), none, (.mem ⟨(some 26), (.buildSlice 22 0 (List.toArray [])), 22, "", (List.toArray []), none⟩)⟩, ⟨(some 27), none, (.addo (.tmp 4) 1)⟩, ⟨(some 28), none, (.ld (.tmp 27) 1)⟩, ⟨(some 29), none, (.mem ⟨(some 29), (.call ⟨(.builtin .append), (List.toArray [(.tmp 26), (.tmp 28)]), (List.toArray [22, 22])⟩), 22, "", (List.toArray []), none⟩)⟩, ⟨(some 30), none, (.mem ⟨(some 30), (.buildSlice 27 0 (List.toArray [])), 27, "", (List.toArray []), none⟩)⟩, ⟨(some 31), none, (.mov (.tmp 3))⟩, ⟨(some 32), none, (.mem ⟨(some 32), (.call ⟨(.builtin .append), (List.toArray [(.tmp 30), (.tmp 31)]), (List.toArray [27, 27])⟩), 27, "", (List.toArray []), none⟩)⟩, ⟨(some 9), none, (.mov (.tmp 25))⟩, ⟨(some 10), none, (.mov (.tmp 29))⟩, ⟨(some 11), none, (.mov (.tmp 32))⟩] [8191, 4095, 2047, 1023, 0, 0, 127, 32, 0, 0, 7, 2, 0, 0])
  (.seq (.reg [⟨(some 34), none, (.lda (.tmp 4) 13)⟩, ⟨(some 35), none, (.mov (.tmp 1))⟩, ⟨(some 36), none, (.mov (.tmp 2))⟩, ⟨(some 37), none, (.mov (.tmp 3))⟩, ⟨(some 38), none, (.call ⟨(.value (.func 17)), (List.toArray [(.tmp 34), (.tmp 35), (.tmp 36), (.tmp 37)]), (List.toArray [26, 3, 3, 27])⟩ true)⟩, ⟨(some 33), none, (.mov (.tmp 38))⟩, ⟨(some 39), none, (.pur ⟨(some 39), (.extract (.tmp 33) 0), 22, "", (List.toArray []), none⟩)⟩, ⟨(some 40), none, (.pur ⟨(some 40), (.extract (.tmp 33) 1), 30, "", (List.toArray []), none⟩)⟩, ⟨(some 12), none, (.mov (.tmp 39))⟩, ⟨(some 13), none, (.mov (.tmp 40))⟩])
  (.seq (.reg [⟨(some 41), none, (.mem ⟨(some 41), (.buildSlice 22 0 (List.toArray [])), 22, "", (List.toArray []), none⟩)⟩, ⟨(some 42), none, (.mov (.tmp 12))⟩, ⟨(some 43), none, (.mem ⟨(some 43), (.call ⟨(.builtin .append), (List.toArray [(.tmp 41), (.tmp 42)]), (List.toArray [22, 22])⟩), 22, "", (List.toArray []), none⟩)⟩, ⟨(some 14), none, (.mov (.tmp 43))⟩])
  (.seq (.seq (.reg [⟨(some 44), none, (.mov (.tmp 12))⟩, ⟨(some 45), none, (.len (.tmp 44))⟩, ⟨(some 46), none, (.mov (.const (.int .i64 0)))⟩])
  (.block 0 (.other (at_ Try.f12 [1, 1, 1, 1, 1, 0, 1, 0]))))
  (.seq (.reg [⟨(some 54), none, (.lda (.tmp 4) 13)⟩, ⟨(some 55), none, (.call ⟨(.value (.func 26)), (List.toArray [(.tmp 54)]), (List.toArray [26])⟩ true)⟩])
  (.seq (.reg [⟨(some 57), none, (.lda (.tmp 4) 13)⟩, ⟨(some 58), none, (.mov (.tmp 1))⟩, ⟨(some 59), none, (.mov (.tmp 2))⟩, ⟨(some 60), none, (.mov (.tmp 3))⟩, ⟨(some 61), none, (.call ⟨(.value (.func 17)), (List.toArray [(.tmp 57), (.tmp 58), (.tmp 59), (.tmp 60)]), (List.toArray [26, 3, 3, 27])⟩ true)⟩, ⟨(some 56), none, (.mov (.tmp 61))⟩, ⟨(some 62), none, (.pur ⟨(some 62), (.extract (.tmp 56) 0), 22, "", (List.toArray []), none⟩)⟩, ⟨(some 63), none, (.pur ⟨(some 63), (.extract (.tmp 56) 1), 30, "", (List.toArray []), none⟩)⟩, ⟨(some 16), none, (.mov (.tmp 62))⟩, ⟨(some 17), none, (.mov (.tmp 63))⟩])
  (.seq (.reg [⟨(some 64), none, (.mov (.tmp 9))⟩, ⟨(some 65), none, (.addo (.tmp 4) 0)⟩, ⟨(some 66), none, (.ld (.tmp 65) 1)⟩, ⟨(some 67), none, (.call ⟨(.value (.func 21)), (List.toArray [(.tmp 64), (.tmp 66)]), (List.toArray [22, 22])⟩ true)⟩, ⟨(some 68), none, (.mov (.tmp 67))⟩, ⟨(some 69), (some (68, true)), (.mov (.tmp 10))⟩, ⟨(some 70), (some (68, true)), (.addo (.tmp 4) 1)⟩, ⟨(some 71), (some (68, true)), (.ld (.tmp 70) 1)⟩, ⟨(some 72), (some (68, true)), (.call ⟨(.value (.func 21)), (List.toArray [(.tmp 69), (.tmp 71)]), (List.toArray [22, 22])⟩ true)⟩, ⟨(some 73), none, (.pur ⟨(some 73), (.pick (.tmp 68) (.tmp 72) (.const (.bool false))), 4, "", (List.toArray []), none⟩)⟩, ⟨(some 74), none, (.mov (.tmp 73))⟩, ⟨(some 75), (some (74, true)), (.mov (.tmp 11))⟩, ⟨(some 76), (some (74, true)), (.mov (.tmp 3))⟩, ⟨(some 77), (some (74, true)), (.call ⟨(.value (.func 30)), (List.toArray [(.tmp 75), (.tmp 76)]), (List.toArray [27, 27])⟩ true)⟩, ⟨(some 78), none, (.pur ⟨(some 78), (.pick (.tmp 74) (.tmp 77) (.const (.bool false))), 4, "", (List.toArray []), none⟩)⟩, ⟨(some 79), none, (.mov (.tmp 78))⟩, ⟨(some 80), (some (79, true)), (.mov (.tmp 16))⟩, ⟨(some 81), (some (79, true)), (.mov (.tmp 14))⟩, ⟨(some 82), (some (79, true)), (.call ⟨(.value (.func 21)), (List.toArray [(.tmp 80), (.tmp 81)]), (List.toArray [22, 22])⟩ true)⟩, ⟨(some 83), none, (.pur ⟨(some 83), (.pick (.tmp 79) (.tmp 82) (.const (.bool false))), 4, "", (List.toArray []), none⟩)⟩, ⟨(some 84), none, (.mov (.tmp 83))⟩, ⟨(some 85), (some (84, true)), (.mov (.tmp 13))⟩, ⟨(some 86), (some (84, true)), (.mov (.tmp 17))⟩, ⟨(some 87), (some (84, true)), (.cmpb .eql (.tmp 85) (.tmp 86))⟩, ⟨(some 88), none, (.pur ⟨(some 88), (.pick (.tmp 84) (.tmp 87) (.const (.bool false))), 4, "", (List.toArray []), none⟩)⟩, ⟨(some 89), none, (.mov (.tmp 88))⟩, ⟨(some 90), (some (89, true)), (.call ⟨(.value (.func 14)), (List.toArray []), (List.toArray [])⟩ true)⟩, ⟨(some 91), none, (.pur ⟨(some 91), (.pick (.tmp 89) (.tmp 90) (.const (.bool false))), 4, "", (List.toArray []), none⟩)⟩, ⟨(some 8), none, (.mov (.tmp 91))⟩])
  .ret)))))))))
theorem L12 : low Try.prog Try.f12.ntmps (at_ Try.f12 []) = some R12 := by kernel_rfl
theorem E12_1 : at_ Try.f12 [1, 1, 1, 1, 1, 0, 1, 0] = .loop (at_ Try.f12 [1, 1, 1, 1, 1, 0, 1, 0, 0]) := by kernel_rfl
noncomputable def R12x1 : RC := (.seq (.reg [⟨(some 47), none, (.cmp .lss (.tmp 46) (.tmp 45))⟩])
  (.seq (.cond (.tmp 47) .skip
  (.exit 0))
  (.seq (.block 1 (.seq (.reg [⟨(some 48), none, (.mov (.tmp 46))⟩, ⟨(some 15), none, (.mov (.tmp 48))⟩])
  (.reg [⟨(some 49), none, (.mov (.tmp 12))⟩, ⟨(some 50), none, (.mov (.tmp 15))⟩, ⟨(some 51), none, (.idx (.tmp 49) (.tmp 50) 2)⟩, ⟨(some 52), none, (.addo (.tmp 51) 0)⟩, ⟨none, none, (.st (.tmp 52) (.const (.int .i64 (-1))))⟩])))
  (.reg [⟨(some 53), none, (.ari .add (.tmp 46) (.const (.int .i64 1)))⟩, ⟨(some 46), none, (.mov (.tmp 53))⟩]))))
theorem L12x1 : low Try.prog Try.f12.ntmps (at_ Try.f12 [1, 1, 1, 1, 1, 0, 1, 0, 0]) = some R12x1 := by kernel_rfl
end Go.Ax

/-
  Late: for LateMore, LateEnds, LateOwns: more of everything, a fresh day, parts of lists (37, 36, 21, 17) (written by program).
-/
namespace Go.Ax
open Go Go.RowKit Go.Proofs

/-- A block that append has made. -/
def Lz (H : Hp) (b : Nat) (cs : List Value) : Prop := b < H.next ∧ H.t.get b = some (.cells cs 24 true)
theorem Keep.lz {H H1 : Hp} {l : List Nat} (h : Keep H H1 l) {b : Nat} {cs : List Value} (hc : Lz H b cs) (hl : b ∉ l) : Lz H1 b cs :=
  ⟨Nat.lt_of_lt_of_le hc.1 h.1, by rw [h.2 b hc.1 hl]; exact hc.2⟩
theorem KeepB.lz {f : Nat} {H H1 : Hp} {b : Nat} {cs : List Value} (h : KeepB f H H1) (hc : Lz H b cs) (hb : b < f) : Lz H1 b cs :=
  ⟨Nat.lt_of_lt_of_le hc.1 h.1, by rw [h.2 b hb]; exact hc.2⟩
theorem Lz.rd {H : Hp} {b : Nat} {cs : List Value} (h : Lz H b cs) : Rd H b cs := ⟨h.1, by unfold cellsOf; rw [h.2]⟩
theorem Lz.cl {H : Hp} {b : Nat} {cs : List Value} (h : Lz H b cs) : Cl H b cs := ⟨h.1, _, _, h.2⟩
theorem Acc.lz {lo f : Nat} {H : Hp} {v : Value} {n : Nat} {cs : List Value} (h : Acc lo f 24 H v n cs) (h0 : 0 < n) : ∃ b, v = .slice (some ⟨b, 0, none⟩) n n ∧ f ≤ b ∧ lo ≤ b ∧ Lz H b cs := by
  rcases h with ⟨h, _⟩ | ⟨b, e, _, hf, hl, hn, hg⟩
  · omega
  · exact ⟨b, e, hf, hl, hn, hg⟩
theorem Acc.nil {lo f : Nat} {e : TypeId} {H : Hp} {v : Value} {cs : List Value} (h : Acc lo f e H v 0 cs) : v = .slice none 0 0 := by
  rcases h with ⟨_, _, h⟩ | ⟨_, _, h, _⟩
  · exact h
  · omega
section
variable {kn : FuncId → Option Bool} {lo : Nat} {H : Hp}
theorem oxygen_at {g : Lt} (hw : Sl H g.wa g.wn g.wcap (spc g.ws)) (ha : Sl H g.aa g.an g.acap (spc g.as)) (hwl : g.ws.length = g.wn) (hal : g.as.length = g.an) (hwn : g.wn ≤ 1000) (han : g.an ≤ 1000) (hok : g.ok = true) {a b : Int} (s d : Nat) (ea : a = (s : Int)) (eb : b = (d : Int)) (hsd : s + d ≤ g.wn) {la : Option Addr} {n cap : Nat} {us : List Int} (hset : setB s (s + d) us = true) (hl : Sl H la n cap (ints us)) (hul : us.length = n) (hn : n ≤ 1000) (hlo : lo ≤ H.next) :
    ∃ ov H', FnX Try.prog kn lo 17 [.agg g.v.toArray, iv a, iv b, .slice la n cap] H (.tuple #[ov, iv 0]) H' ∧ Keep H H' [] ∧ Acc lo H.next 24 H' ov d (spc (g.ox s (Nat.testBit (dayMask us)) d)) := by
  subst ea; subst eb
  have key := fnX_lowR (kn := kn) (lo := lo) (H := H) (args := [.agg g.v.toArray, iv (s : Int), iv (d : Int), .slice la n cap]) (Q := fun w H' => ∃ ov, w = .tuple #[ov, iv 0] ∧ Keep H H' [] ∧ Acc lo H.next 24 H' ov d (spc (g.ox s (Nat.testBit (dayMask us)) d))) Try.func17 B17 N17 Z17 L17 (by simp) ?_
  · obtain ⟨w, H', h, ov, rfl, q1, q2⟩ := key; exact ⟨ov, H', h, q1, q2⟩
  have fw : ∀ b, g.wa = some ⟨b, 0, none⟩ → b < H.next := hw.old
  have fa : ∀ b, g.aa = some ⟨b, 0, none⟩ → b < H.next := ha.old
  intro y hy
  refine TriR.lowR hy ?_
  intro H1 hH1; obtain ⟨k1, n1, c1⟩ := new_facts hH1; clear hH1
  have c1 : Cl H1 H.next g.v := c1
  intro y hy
  refine TriR.lowR hy ?_
  refine Exists.intro _ (Exists.intro _ (And.intro c1.of (And.intro (show row 13 g.v 0 = some g.v from rfl) ?_)))
  obtain ⟨w, H2, f2, k2, hc⟩ := course_ok (kn := kn) (lo := lo) (H := H1) (g := g) (a := (s : Int)) (b := (d : Int)) (us := us) (k1.sl0 hw) (k1.sl0 ha) hwl hal hwn han (k1.sl0 hl) hul hn (by omega)
  have k02 := k1.trans k2
  have m2 := k2.1
  refine Exists.intro _ (Exists.intro _ (And.intro (callX_args f2) ?_))
  obtain rfl : w = .tuple #[.agg (crs g s d (dayMask us)).toArray, iv 0] := by
    rcases hc with ⟨h, _⟩ | ⟨_, h, _⟩ | ⟨_, s', d', e1, e2, _, _, h⟩
    · rw [hok] at h; cases h
    · rw [flB_of hsd, hset] at h; cases h
    · obtain rfl : s = s' := by omega
      obtain rfl : d = d' := by omega
      exact h
  have v := Lt.vd hok hwl hal
  have hn40 := v.n40
  refine And.intro rfl (Exists.intro (.agg (crs g s d (dayMask us)).toArray) (And.intro (by kernel_rfl) ?_))
  refine And.intro rfl (Exists.intro (iv 0) (And.intro (by kernel_rfl) ?_))
  intro H3 hH3; obtain ⟨k3, n3, c3⟩ := new_facts hH3; clear hH3
  have c3 : Cl H3 H2.next zeroC := c3
  obtain ⟨_, e4, l4, g4⟩ := id c3
  refine Exists.intro _ (Exists.intro _ (Exists.intro _ (And.intro g4 (And.intro (by omega) (And.intro rfl (And.intro rfl (And.intro (by simp) ?_)))))))
  intro H4 hH4; obtain ⟨k4, n4, c4⟩ := up_facts c3 hH4; clear hH4
  have c4 : Cl H4 H2.next (crs g s d (dayMask us)) := c4
  have k24 : Keep H2 H4 [] := k3.new k4 (fun b hb => .inr (by simp at hb; omega))
  have k04 := k02.trans k24
  have m4 := k24.1
  intro y hy
  refine TriR.lowR hy ?_
  refine condF ?_
  intro y hy
  refine TriR.lowR hy ?_
  intro H5 hH5; obtain ⟨k5, n5, c5⟩ := new_facts hH5; clear hH5
  have c5 : Cl H5 H4.next [.slice none 0 0] := c5
  have d4 := k5.cl c4 (by simp)
  have k05 := k04.trans k5
  intro y hy
  refine TriR.lowL hy ?_
  intro z hz
  refine TriR.lowR hz ?_
  refine Exists.intro _ (Exists.intro _ (And.intro d4.of (And.intro (show row 16 _ 0 = some (crs g s d (dayMask us)) from rfl) ?_)))
  obtain ⟨bc, H6, f6, k6, hbc, rb⟩ := states_ok (kn := kn) (lo := lo) (H := H5) (g := g) (s := s) (d := d) (m := dayMask us)
  refine Exists.intro _ (Exists.intro _ (And.intro (callX_args f6) ?_))
  intro y hy
  refine TriR.lowB hy ?_
  rw [E17_1]
  refine TriR.range rfl ?_
  intro H7 k7 n7 hd hlp
  have k57 := k6.trans k7
  have k07 := k05.trans k57
  have lbc := rb.lt
  have m6 := k6.1
  let X : OX := ⟨g, s, d, dayMask us, H4.next, bc, H6.next⟩
  have G : OG X lo H := ⟨by show H.next ≤ H4.next; omega, by show lo ≤ H4.next; omega, by show H4.next < bc; omega, by show bc < H6.next; omega⟩
  have e5 := k57.cl c5 (by simp)
  have eb := k7.rd rb (by simp)
  have lp7 : Lp Try.prog H7 (H6.next + 1) .ready none 37 [(12, pt H4.next)] [27] asg17 body17 H6.next := hlp.weak ⟨rfl, trivial⟩
  have fin : ∀ (b k : Nat) (H8 H9 : Hp), OJ X lo H b k H8 → Keep H8 H9 [b] → OJ X lo H b k H9 := fun b k H8 H9 j kk => by
    have lb := j.lb; have ll := j.ll
    have lb : H6.next + 1 < b := lb
    have ll : b < H8.next := ll
    have hl4 : H4.next < H6.next := by omega
    have ne : ∀ x, x < b → x ∉ [b] := fun x h => by simp; omega
    obtain ⟨wv, q1, q2⟩ := j.c12
    have q1 : Cl H8 H4.next [wv] := q1
    exact ⟨⟨wv, (show Cl H9 H4.next [wv] from kk.cl q1 (ne _ (by omega))), q2.other kk (by intro x hx; simp at hx; omega)⟩, kk.rd j.cb (ne _ (by show bc < b; omega)), kk.sl j.hw (fun x e => ne _ (by have := fw x e; omega)), kk.sl j.ha (fun x e => ne _ (by have := fa x e; omega)), j.lp.keep kk (by show H6.next + 1 < H8.next; omega) (ne _ lb), lb, Nat.lt_of_lt_of_le ll kk.1, by rw [kk.2 X.r (by show H6.next < H8.next; omega) (ne _ (by show H6.next < b; omega))]; exact j.dfr, j.kp.new kk (fun x hx => .inr (by simp at hx; omega))⟩
  obtain ⟨b, H8, h8, hb8, j⟩ := iter_ok2 (kn := kn) (lo := lo) (H := H7) (l := H6.next + 1) (bc := bc) v hsd (fun b k H' => OJ X lo H b k H') (by omega) eb
    (fun b H1' kk hb hb2 => ⟨⟨_, kk.cl e5 (by simp), .inl ⟨rfl, rfl, rfl⟩⟩, kk.rd eb (by simp), kk.sl0 (k07.sl0 hw), kk.sl0 (k07.sl0 ha), lp7.keep kk (by omega) (by simp), by show H6.next + 1 < b; omega, hb2, by rw [kk.2 X.r (by show H6.next < H7.next; omega) (by simp)]; exact hd, k07.trans kk⟩)
    (fun b k H' j => ⟨j.cb, j.hw, j.ha⟩) fin (fun b k H' j => by have h1 := j.ll; have h2 : H6.next + 1 < b := j.lb; omega) (fun b k H' hk j => ox_round G v hsd fw fa hk j)
  refine Exists.intro _ (Exists.intro H8 (And.intro (callX_func rfl (by simpa using h8)) ?_))
  refine ⟨.ready, none, _, j.lp, by simp, ?_⟩
  intro H9 s9
  have k9 := s9.keep
  have hn9 : H9.next = H8.next := s9.1
  have ll := j.ll
  have lb : H6.next + 1 < b := j.lb
  have kH : Keep H H9 [] := j.kp.new k9 (fun b hb => .inr (by simp at hb; omega))
  obtain ⟨wv, q12, acc⟩ := j.c12
  have q12 : Cl H8 H4.next [wv] := q12
  have q12 := k9.cl q12 (by simp; omega)
  have acc := acc.other k9 (by intro x hx; simp at hx; omega)
  have dj : H9.t.get H6.next = some (.dfr (some [])) := by
    rw [k9.2 H6.next (by omega) (by simp)]; exact j.dfr
  have acc : Acc lo (b + 1) 24 H9 wv d (spc (g.ox s (Nat.testBit (dayMask us)) d)) := acc
  refine Exists.intro _ (Exists.intro _ (And.intro q12.of (And.intro (show _ = some wv from rfl) ?_)))
  refine And.intro trivial (Or.inr ⟨H6.next, rfl, by omega, dj, fun H10 hn10 hs10 => ?_⟩)
  have k10 : Keep H9 H10 [H6.next] := ⟨by omega, fun b _ hb => hs10 b (by simpa using hb)⟩
  have acc10 := acc.other k10 (by intro x hx; simp at hx; omega)
  refine ⟨_, rfl, wv, rfl, kH.new k10 (fun b hb => .inr (by simp at hb; omega)), ?_⟩
  rcases acc10 with h | ⟨bb, e1, e2, e3, e4⟩
  · exact .inl h
  · exact .inr ⟨bb, e1, e2, by omega, e4⟩
end
end Go.Ax

/-
  Late: the law LateMore, whatever the input (written by program).
-/
namespace Go.Ax
open Go Go.RowKit Go.Proofs

def Lt.ty (g : Lt) (s d : Nat) : Int := sureV (decide (g.sm s (Nat.testBit 0) d > g.bear)) (decide (g.sl s (Nat.testBit 0) d > g.bear))
section
variable {kn : FuncId → Option Bool} {lo : Nat} {H : Hp}
end
end Go.Ax

/-
  Late: for LateEnds: several lists that append makes side by side; the cold and the hot forecast (written by program).
-/
namespace Go.Ax
open Go Go.RowKit Go.Proofs

def bkv : Value → Option Nat
  | .slice (some ⟨b, _, _⟩) _ _ => some b
  | _ => none
/-- not in the same block -/
def Ap (v w : Value) : Prop := ∀ b c, bkv v = some b → bkv w = some c → b ≠ c
theorem Ap.symm {v w : Value} (h : Ap v w) : Ap w v := fun b c h1 h2 e => h c b h2 h1 e.symm
/-- several lists that append makes, apart from each other -/
def AcL (lo f : Nat) (e : TypeId) (H : Hp) (l : List (Value × Nat × List Value)) : Prop := (∀ x ∈ l, Acc lo f e H x.1 x.2.1 x.2.2) ∧ l.Pairwise fun x y => Ap x.1 y.1
theorem AcL.keep {lo f : Nat} {e : TypeId} {H H1 : Hp} {l : List (Value × Nat × List Value)} (h : AcL lo f e H l) (k : Keep H H1 []) : AcL lo f e H1 l := ⟨fun x hx => (h.1 x hx).keep k, h.2⟩
section
variable {g : Lt} {s : Nat} {F : Nat → Bool} {a1 : Option Addr} {c1 : Nat} {a2 : Option Addr} {c2 : Nat}
end
end Go.Ax

/-
  Late: LateEnds: the regions of its loop (written by program).
-/
namespace Go.Ax
open Go Go.RowKit Go.Proofs

section
variable {kn : FuncId → Option Bool} {lo : Nat} {H : Hp}
end
end Go.Ax

/-
  Late: the law LateEnds, whatever the input (written by program).
-/
namespace Go.Ax
open Go Go.RowKit Go.Proofs

section
variable {kn : FuncId → Option Bool} {lo : Nat} {H : Hp}
end
end Go.Ax

/-! What 'low' makes of more functions of late (written by program). -/
namespace Go.Ax
open Go Go.RowKit Go.Proofs
theorem N30 : Try.f30.ntmps = 26 := by kernel_rfl
theorem Z30 : Try.f30.results.toList = ((List.toArray [(.tmp 4)]) : Array ResultVar).toList := by kernel_rfl
theorem B30 : Try.f30.body = some (at_ Try.f30 []) := by kernel_rfl
noncomputable def R30 : RC := (.seq (.reg [⟨(some 4), none, (.mov (.const (.bool false)))⟩])
  (.seq (.seq (.reg [⟨(some 6), none, (.mov (.tmp 0))⟩, ⟨(some 7), none, (.len (.tmp 6))⟩, ⟨(some 8), none, (.mov (.tmp 1))⟩, ⟨(some 9), none, (.len (.tmp 8))⟩, ⟨(some 10), none, (.cmp .neq (.tmp 7) (.tmp 9))⟩])
  (.cond (.tmp 10) (.seq (.reg [⟨(some 4), none, (.mov (.const (.bool false)))⟩])
  .ret)
  .skip))
  (.seq (.seq (.reg [⟨(some 5), none, (.mov (.const (.int .i64 0)))⟩])
  (.block 0 (.other (at_ Try.f30 [1, 1, 0, 1, 0]))))
  (.seq (.reg [⟨(some 4), none, (.mov (.const (.bool true)))⟩])
  .ret))))
theorem L30 : low Try.prog Try.f30.ntmps (at_ Try.f30 []) = some R30 := by kernel_rfl
theorem E30_1 : at_ Try.f30 [1, 1, 0, 1, 0] = .loop (at_ Try.f30 [1, 1, 0, 1, 0, 0]) := by kernel_rfl
noncomputable def R30x1 : RC := (.seq (.seq (.reg [⟨(some 11), none, (.mov (.tmp 5))⟩, ⟨(some 12), none, (.mov (.tmp 0))⟩, ⟨(some 13), none, (.len (.tmp 12))⟩, ⟨(some 14), none, (.cmp .lss (.tmp 11) (.tmp 13))⟩])
  (.cond (.tmp 14) .skip
  (.exit 0)))
  (.seq (.block 1 (.seq (.dreg [⟨(some 17), none, (.mov (.tmp 0))⟩, ⟨(some 18), none, (.mov (.tmp 5))⟩, ⟨(some 19), none, (.idx (.tmp 17) (.tmp 18) 1)⟩, ⟨(some 20), none, (.ld (.tmp 19) 1)⟩, ⟨(some 21), none, (.mov (.tmp 1))⟩, ⟨(some 22), none, (.mov (.tmp 5))⟩, ⟨(some 23), none, (.idx (.tmp 21) (.tmp 22) 1)⟩, ⟨(some 24), none, (.ld (.tmp 23) 1)⟩, ⟨(some 25), none, (.cmp .neq (.tmp 20) (.tmp 24))⟩] [255, 112, 48, 0, 0, 7, 3, 0, 0])
  (.cond (.tmp 25) (.seq (.reg [⟨(some 4), none, (.mov (.const (.bool false)))⟩])
  .ret)
  .skip)))
  (.reg [⟨(some 15), none, (.mov (.tmp 5))⟩, ⟨(some 16), none, (.ari .add (.tmp 15) (.const (.int .i64 1)))⟩, ⟨(some 5), none, (.mov (.tmp 16))⟩])))
theorem L30x1 : low Try.prog Try.f30.ntmps (at_ Try.f30 [1, 1, 0, 1, 0, 0]) = some R30x1 := by kernel_rfl
end Go.Ax

/-
  Late: the law LateOwns, whatever the input (written by program).
-/
namespace Go.Ax
open Go Go.RowKit Go.Proofs

theorem AccB.rd {b0 lo f : Nat} {e : TypeId} {H : Hp} {v : Value} {n : Nat} {cs : List Value} (h : AccB b0 lo f e H v n cs) (hf : f ≤ b0) : ∃ b, v = .slice (some ⟨b, 0, none⟩) n n ∧ f ≤ b ∧ Rd H b cs := by
  rcases h with ⟨h1, h2, h3, h4, e0, h5⟩ | ⟨b, e1, h0, hb, hl, hn, hg⟩
  · exact ⟨b0, by rw [h3, h1], hf, h4, by unfold cellsOf; rw [h5, h2]⟩
  · exact ⟨b, e1, hb, hn, by unfold cellsOf; rw [hg]⟩
theorem Rd.slI {H : Hp} {b n : Nat} {cs : List Value} (h : Rd H b cs) : Sl H (some ⟨b, 0, none⟩) n n cs := .inr ⟨b, rfl, h, Nat.le_refl _⟩
theorem Lt.Ox.c1 {g : Lt} {a b : Int} {us : List Int} {H H' : Hp} {w : Value} (h : g.Ox a b us H w H') (hok : g.ok = false) : w = .tuple #[.slice none 0 0, iv 1] := by
  rcases h with ⟨_, h⟩ | ⟨h, _⟩ | ⟨h, _⟩
  · exact h
  · rw [hok] at h; cases h
  · rw [hok] at h; cases h
theorem Lt.Ox.c2 {g : Lt} {a b : Int} {us : List Int} {H H' : Hp} {w : Value} (h : g.Ox a b us H w H') (hok : g.ok = true) (hf : (flB g a b && setB a (a + b) us) = false) : w = .tuple #[.slice none 0 0, iv 2] := by
  rcases h with ⟨h, _⟩ | ⟨_, _, h⟩ | ⟨_, s, d, rfl, rfl, h1, h2, _⟩
  · rw [hok] at h; cases h
  · exact h
  · rw [flB_of h1, h2] at hf; cases hf
section
variable {kn : FuncId → Option Bool} {lo : Nat} {H : Hp}
theorem ints30_ok {a1 a2 : Option Addr} {n c1 c2 : Nat} {us : List Int} (h1 : Sl H a1 n c1 (ints us)) (h2 : Sl H a2 n c2 (ints us)) (hl : us.length = n) (hn : n ≤ 1000) :
    ∃ H', FnX Try.prog kn lo 30 [.slice a1 n c1, .slice a2 n c2] H (.bool true) H' ∧ Keep H H' [] := by
  have key := fnX_low (kn := kn) (lo := lo) (H := H) (args := [.slice a1 n c1, .slice a2 n c2]) (Q := fun w H' => w = .bool true ∧ Keep H H' []) Try.func30 B30 N30 Z30 L30 (by simp) ?_
  · obtain ⟨w, H', h, rfl, q⟩ := key; exact ⟨H', h, q⟩
  have hk := Keep.refl H []
  refine And.intro (fun q1 => ?_) (fun q1 => ?_)
  · have q1 : (n : Int) ≠ (n : Int) := by simpa using q1
    exact absurd rfl q1
  · have q1 : ¬ ((n : Int) ≠ (n : Int)) := by simpa using q1
    refine loop_low (fn := Try.f30) E30_1 N30 L30x1 (fun i : Nat => [(0, .slice a1 n c1), (1, .slice a2 n c2), (5, iv (i : Int))])
      (fun k i H' => i + k = n ∧ Keep H H' []) n 0 ⟨by omega, Keep.refl _ _⟩ ⟨rfl, rfl, rfl, trivial⟩ ?_
    rintro k i L1 ⟨hik, hki⟩
    have hm := hki.1
    have hk := hk.trans hki
    have h1 := hki.sl0 h1
    have h2 := hki.sl0 h2
    have kb := hki
    refine And.intro (fun q2 => ?_) (fun q2 => ?_)
    · have q2 : (i : Int) < (n : Int) := of_decide_eq_true q2
      have hi : i < n := by omega
      obtain ⟨x, hx⟩ := get_some (l := us) (i := i) (by omega)
      rcases h1 with ⟨_, h0, _⟩ | ⟨b1, rfl, r1, _⟩
      · omega
      rcases h2 with ⟨_, h0, _⟩ | ⟨b2, rfl, r2, _⟩
      · omega
      refine wD_seq ?_
      refine wD_mov (v := .slice (some ⟨b1, 0, none⟩) n c1) rfl ?_
      refine wD_mov (v := iv (i : Int)) rfl ?_
      refine wD_idx (b := b1) (o := 0) (k := i) (j := (i : Int)) rfl rfl rfl hi ?_
      refine wD_ld (b := b1) (o := 0 + i * 1) (v := iv x) rfl r1 (ints_at hx) ?_
      refine wD_mov (v := .slice (some ⟨b2, 0, none⟩) n c2) rfl ?_
      refine wD_mov (v := iv (i : Int)) rfl ?_
      refine wD_idx (b := b2) (o := 0) (k := i) (j := (i : Int)) rfl rfl rfl hi ?_
      refine wD_ld (b := b2) (o := 0 + i * 1) (v := iv x) rfl r2 (ints_at hx) ?_
      refine wD_c_neq (a := x) (b := x) rfl rfl ?_
      refine wD_end (by repeat' first | exact True.intro | exact (fun h => h) | refine And.intro ?_ ?_ | (intro h; have h : (_ : Nat) = _ := h; omega)) ?_
      refine And.intro (fun q3 => ?_) (fun q3 => ?_)
      · have q3 : x ≠ x := by simpa using q3
        exact absurd rfl q3
      · have q3 : ¬ (x ≠ x) := by simpa using q3
        refine And.intro (show InR ((i : Int) + 1) from ⟨by omega, by omega⟩) ?_
        exact ⟨k - 1, i + 1, by omega, ⟨by omega, kb⟩, rfl, rfl, rfl, trivial⟩
    · have q2 : ¬ ((i : Int) < (n : Int)) := of_decide_eq_false q2
      exact And.intro trivial (Exists.intro _ (And.intro rfl ⟨rfl, hk⟩))
set_option maxRecDepth 100000 in
set_option maxHeartbeats 4000000 in
theorem law_owns (hkn : kn 14 = some true) (h48 : kn 48 = none) {g : Lt} (hw : Sl H g.wa g.wn g.wcap (spc g.ws)) (ha : Sl H g.aa g.an g.acap (spc g.as)) (hwl : g.ws.length = g.wn) (hal : g.as.length = g.an) {a b : Int} {la : Option Addr} {n cap : Nat} {us : List Int} (hl : Sl H la n cap (ints us)) (hul : us.length = n) (hlo : lo ≤ H.next) :
    ∃ H', FnX Try.prog kn lo 12 [.agg g.v.toArray, iv a, iv b, .slice la n cap] H (.bool true) H' := by
  have key := fnX_low (kn := kn) (lo := lo) (H := H) (args := [.agg g.v.toArray, iv a, iv b, .slice la n cap]) (Q := fun w H' => w = .bool true) Try.func12 B12 N12 Z12 L12 (by simp) ?_
  · obtain ⟨w, H', hf, rfl⟩ := key; exact ⟨H', hf⟩
  have al : ∀ (H9 : Hp) (K : Value → Hp → Prop), K (.bool true) H9 → ∃ v H', CallsX Try.prog kn lo (.fn (.func 14) #[]) [] H9 v H' ∧ K v H' := fun H9 K h => ⟨_, _, callX_known hkn, h⟩
  have hk := Keep.refl H []
  have fw := hw.old; have fa := ha.old; have fl := hl.old
  intro H1 hH1; obtain ⟨kH1, nH1, c1⟩ := new_facts hH1; clear hH1
  have mH1 := kH1.1
  have hk := hk.trans kH1
  have hw := kH1.sl0 hw
  have ha := kH1.sl0 ha
  have hl := kH1.sl0 hl
  have c1 : Cl H1 H.next [.slice g.wa g.wn g.wcap, .slice g.aa g.an g.acap, iv g.r1, iv g.r2, iv g.f1, iv g.f2, iv g.g1, iv g.g2, iv g.full, iv g.base, iv g.kill, iv g.need, iv g.bear] := c1
  refine Exists.intro _ (Exists.intro _ (And.intro c1.of (And.intro (show row 13 _ _ = some [.slice g.wa g.wn g.wcap, .slice g.aa g.an g.acap, iv g.r1, iv g.r2, iv g.f1, iv g.f2, iv g.g1, iv g.g2, iv g.full, iv g.base, iv g.kill, iv g.need, iv g.bear] from rfl) ?_)))
  refine callB (great_ok) ?_
  intro tH2 H2 hH2 kH2
  have mH2 := kH2.1
  have hk := hk.trans kH2
  have hw := kH2.sl0 hw
  have ha := kH2.sl0 ha
  have hl := kH2.sl0 hl
  have c1 := kH2.cl c1 (by simp)
  cases tH2
  · have hgr : g.wn ≤ 45 ∧ g.an ≤ 45 ∧ n ≤ 45 := by simp at hH2; omega
    refine condF ?_
    refine wD_seq ?_
    obtain ⟨H3, hH3⟩ : ∃ H3, H2.new (.cells [] 24 false) = H3 := ⟨_, rfl⟩
    refine wD_memh (H' := H3) (k := .heavy) rfl (by kernel_rfl) ((heap_build0 se22 z24).trans (by rw [← hH3])) (fun b e => by cases e) ?_
    have gH3 := new_get hH3
    obtain ⟨kH3, nH3, c3⟩ := new_facts hH3; clear hH3
    have mH3 := kH3.1
    have hk := hk.trans kH3
    have hw := kH3.sl0 hw
    have ha := kH3.sl0 ha
    have hl := kH3.sl0 hl
    have c1 := kH3.cl c1 (by simp)
    refine wD_addo (b := H.next) (o := 0) rfl ?_
    refine wD_ld (b := H.next) (o := 0) (v := .slice g.wa g.wn g.wcap) rfl c1.rd rfl ?_
    obtain ⟨vb1, H4, kdH4, eH4, dH4, aH4, kH4⟩ := heap_append_first (P := Try.prog) (lo := lo) (f := H2.next) (t1 := 22) se22 u22 hw (by rw [spc_len]; omega) (by omega) (by decide) gH3 (by omega) (by omega) (by omega) (Nat.le_refl _)
    refine wD_memh (k := kdH4) rfl (by kernel_rfl) (eH4 _ _ _ _ _ _ _ rfl rfl) (fun b e => by rcases dH4 with h | h <;> exact Kd.noConfusion (h.symm.trans e)) ?_
    have mH4 := kH4.1
    have hk := hk.trans kH4
    have hw := kH4.sl0 hw
    have ha := kH4.sl0 ha
    have hl := kH4.sl0 hl
    have c1 := kH4.cl c1 (by simp)
    obtain ⟨b1, rfl, lb1, rb1⟩ := aH4.rd (Nat.le_refl _)
    have ub1 := rb1.lt
    obtain ⟨H5, hH5⟩ : ∃ H5, H4.new (.cells [] 24 false) = H5 := ⟨_, rfl⟩
    refine wD_memh (H' := H5) (k := .heavy) rfl (by kernel_rfl) ((heap_build0 se22 z24).trans (by rw [← hH5])) (fun b e => by cases e) ?_
    have gH5 := new_get hH5
    obtain ⟨kH5, nH5, c5⟩ := new_facts hH5; clear hH5
    have mH5 := kH5.1
    have hk := hk.trans kH5
    have hw := kH5.sl0 hw
    have ha := kH5.sl0 ha
    have hl := kH5.sl0 hl
    have c1 := kH5.cl c1 (by simp)
    have rb1 := kH5.rd rb1 (by simp)
    refine wD_addo (b := H.next) (o := 0) rfl ?_
    refine wD_ld (b := H.next) (o := 1) (v := .slice g.aa g.an g.acap) rfl c1.rd rfl ?_
    obtain ⟨vb2, H6, kdH6, eH6, dH6, aH6, kH6⟩ := heap_append_first (P := Try.prog) (lo := lo) (f := H4.next) (t1 := 22) se22 u22 ha (by rw [spc_len]; omega) (by omega) (by decide) gH5 (by omega) (by omega) (by omega) (Nat.le_refl _)
    refine wD_memh (k := kdH6) rfl (by kernel_rfl) (eH6 _ _ _ _ _ _ _ rfl rfl) (fun b e => by rcases dH6 with h | h <;> exact Kd.noConfusion (h.symm.trans e)) ?_
    have mH6 := kH6.1
    have hk := hk.trans kH6
    have hw := kH6.sl0 hw
    have ha := kH6.sl0 ha
    have hl := kH6.sl0 hl
    have c1 := kH6.cl c1 (by simp)
    have rb1 := kH6.rd rb1 (by simp)
    obtain ⟨b2, rfl, lb2, rb2⟩ := aH6.rd (Nat.le_refl _)
    have ub2 := rb2.lt
    obtain ⟨H7, hH7⟩ : ∃ H7, H6.new (.cells [] 3 false) = H7 := ⟨_, rfl⟩
    refine wD_memh (H' := H7) (k := .heavy) rfl (by kernel_rfl) ((heap_build0 se27 z3).trans (by rw [← hH7])) (fun b e => by cases e) ?_
    have gH7 := new_get hH7
    obtain ⟨kH7, nH7, c7⟩ := new_facts hH7; clear hH7
    have mH7 := kH7.1
    have hk := hk.trans kH7
    have hw := kH7.sl0 hw
    have ha := kH7.sl0 ha
    have hl := kH7.sl0 hl
    have c1 := kH7.cl c1 (by simp)
    have rb1 := kH7.rd rb1 (by simp)
    have rb2 := kH7.rd rb2 (by simp)
    refine wD_mov (v := .slice la n cap) rfl ?_
    obtain ⟨vb3, H8, kdH8, eH8, dH8, aH8, kH8⟩ := heap_append_first (P := Try.prog) (lo := lo) (f := H6.next) (t1 := 27) se27 u27 hl (by rw [ints_len]; omega) (by omega) (by decide) gH7 (by omega) (by omega) (by omega) (Nat.le_refl _)
    refine wD_memh (k := kdH8) rfl (by kernel_rfl) (eH8 _ _ _ _ _ _ _ rfl rfl) (fun b e => by rcases dH8 with h | h <;> exact Kd.noConfusion (h.symm.trans e)) ?_
    have mH8 := kH8.1
    have hk := hk.trans kH8
    have hw := kH8.sl0 hw
    have ha := kH8.sl0 ha
    have hl := kH8.sl0 hl
    have c1 := kH8.cl c1 (by simp)
    have rb1 := kH8.rd rb1 (by simp)
    have rb2 := kH8.rd rb2 (by simp)
    obtain ⟨b3, rfl, lb3, rb3⟩ := aH8.rd (Nat.le_refl _)
    have ub3 := rb3.lt
    refine wD_mov (v := .slice (some ⟨b1, 0, none⟩) g.wn g.wn) rfl ?_
    refine wD_mov (v := .slice (some ⟨b2, 0, none⟩) g.an g.an) rfl ?_
    refine wD_mov (v := .slice (some ⟨b3, 0, none⟩) n n) rfl ?_
    refine wD_end (by rcases dH4 with rfl | rfl <;> rcases dH6 with rfl | rfl <;> rcases dH8 with rfl | rfl <;> repeat' first | exact True.intro | exact (fun h => h) | refine And.intro ?_ ?_ | (intro h; have h : (_ : Nat) = _ := h; omega)) ?_
    refine Exists.intro _ (Exists.intro _ (And.intro c1.of (And.intro (show row 13 _ _ = some [.slice g.wa g.wn g.wcap, .slice g.aa g.an g.acap, iv g.r1, iv g.r2, iv g.f1, iv g.f2, iv g.g1, iv g.g2, iv g.full, iv g.base, iv g.kill, iv g.need, iv g.bear] from rfl) ?_)))
    cases hok : g.ok
    · obtain ⟨wH9, H9, fH9, kH9, hc⟩ := oxygen_ok (kn := kn) (lo := lo) (H := H8) (g := g) (a := a) (b := b) (us := us) hw ha hwl hal (by omega) (by omega) hl hul (by omega) (by omega)
      have mH9 := kH9.1
      have hk := hk.trans kH9
      have hw := kH9.sl0 hw
      have ha := kH9.sl0 ha
      have hl := kH9.sl0 hl
      have c1 := kH9.cl c1 (by simp)
      have rb1 := kH9.rd rb1 (by simp)
      have rb2 := kH9.rd rb2 (by simp)
      have rb3 := kH9.rd rb3 (by simp)
      obtain rfl := hc.c1 hok
      refine Exists.intro _ (Exists.intro _ (And.intro (callX_args fH9) ?_))
      refine And.intro rfl (Exists.intro (.slice none 0 0) (And.intro (by kernel_rfl) ?_))
      refine And.intro rfl (Exists.intro (iv 1) (And.intro (by kernel_rfl) ?_))
      obtain ⟨H12, hH12⟩ : ∃ H12, H9.new (.cells [] 24 false) = H12 := ⟨_, rfl⟩
      refine And.intro rfl (Or.inr (And.intro (by kernel_rfl) (Exists.intro _ (Exists.intro H12 (Exists.intro _ (And.intro ((heap_build0 se22 z24).trans (by rw [← hH12])) (And.intro (fun b e => by cases e) ?_)))))))
      have gH12 := new_get hH12
      obtain ⟨kH12, nH12, c12⟩ := new_facts hH12; clear hH12
      have mH12 := kH12.1
      have hk := hk.trans kH12
      have hw := kH12.sl0 hw
      have ha := kH12.sl0 ha
      have hl := kH12.sl0 hl
      have c1 := kH12.cl c1 (by simp)
      have rb1 := kH12.rd rb1 (by simp)
      have rb2 := kH12.rd rb2 (by simp)
      have rb3 := kH12.rd rb3 (by simp)
      obtain ⟨vb4, H13, kdH13, eH13, dH13, aH13, kH13⟩ := heap_append_first (P := Try.prog) (lo := lo) (f := H9.next) (t1 := 22) se22 u22 (.inl ⟨.inl rfl, rfl, rfl, rfl⟩ : Sl H12 none 0 0 []) rfl (by omega) (by decide) gH12 (by omega) (by omega) (by omega) (Nat.le_refl _)
      refine And.intro rfl (Or.inr (And.intro (by kernel_rfl) (Exists.intro _ (Exists.intro H13 (Exists.intro _ (And.intro (eH13 _ _ _ _ _ _ _ rfl rfl) (And.intro (fun b e => by rcases dH13 with h | h <;> exact Kd.noConfusion (h.symm.trans e)) ?_)))))))
      have mH13 := kH13.1
      have hk := hk.trans kH13
      have hw := kH13.sl0 hw
      have ha := kH13.sl0 ha
      have hl := kH13.sl0 hl
      have c1 := kH13.cl c1 (by simp)
      have rb1 := kH13.rd rb1 (by simp)
      have rb2 := kH13.rd rb2 (by simp)
      have rb3 := kH13.rd rb3 (by simp)
      obtain ⟨b4, rfl, lb4, rb4⟩ := aH13.rd (Nat.le_refl _)
      have ub4 := rb4.lt
      obtain ⟨z0, hz0⟩ : ∃ z, z = H.next := ⟨_, rfl⟩
      have b36 : z0 < b1 ∧ z0 < b2 ∧ z0 < b3 ∧ H.next ≤ z0 := by omega
      rw [← hz0] at c1
      rw [← hz0]
      clear hz0
      refine loop_low (fn := Try.f12) E12_1 N12 L12x1 (fun i : Nat => [(1, iv a), (2, iv b), (3, .slice la n cap), (4, pt z0), (9, .slice (some ⟨b1, 0, none⟩) g.wn g.wn), (10, .slice (some ⟨b2, 0, none⟩) g.an g.an), (11, .slice (some ⟨b3, 0, none⟩) n n), (12, .slice none 0 0), (13, iv 1), (14, .slice (some ⟨b4, 0, none⟩) 0 0), (45, iv 0), (46, iv (i : Int))])
        (fun k i H' => i + k = 0 ∧ Keep H H' [] ∧ Sl H' g.wa g.wn g.wcap (spc g.ws) ∧ Sl H' g.aa g.an g.acap (spc g.as) ∧ Sl H' la n cap (ints us) ∧ Cl H' z0 g.v ∧ Rd H' b1 (spc g.ws) ∧ Rd H' b2 (spc g.as) ∧ Rd H' b3 (ints us) ∧ Rd H' b4 []) 0 0 ⟨by omega, hk, hw, ha, hl, c1, rb1, rb2, rb3, rb4⟩ ⟨rfl, rfl, rfl, rfl, rfl, rfl, rfl, rfl, rfl, rfl, rfl, rfl, trivial⟩ ?_
      rintro k i L1 ⟨hik, hk, hw, ha, hl, cA, rb1, rb2, rb3, rb4⟩
      have hm := hk.1; have hm4 := rb4.lt
      refine And.intro (fun q1 => ?_) (fun q1 => ?_)
      · have q1 : (i : Int) < 0 := of_decide_eq_true q1
        exfalso; omega
      · have q1 : ¬ ((i : Int) < 0) := of_decide_eq_false q1
        refine Exists.intro _ (Exists.intro _ (And.intro cA.of (And.intro (show row 13 _ _ = some [.slice g.wa g.wn g.wcap, .slice g.aa g.an g.acap, iv g.r1, iv g.r2, iv g.f1, iv g.f2, iv g.g1, iv g.g2, iv g.full, iv g.base, iv g.kill, iv g.need, iv g.bear] from rfl) ?_)))
        obtain ⟨wH14, H14, fH14, kH14, _⟩ := best_ok (kn := kn) (lo := lo) (H := L1) (g := g) h48 hw ha hwl hal (by omega) (by omega) (by omega)
        have mH14 := kH14.1
        have hk := hk.trans kH14
        have hw := kH14.sl0 hw
        have ha := kH14.sl0 ha
        have hl := kH14.sl0 hl
        have cA := kH14.cl cA (by simp)
        have rb1 := kH14.rd rb1 (by simp)
        have rb2 := kH14.rd rb2 (by simp)
        have rb3 := kH14.rd rb3 (by simp)
        have rb4 := kH14.rd rb4 (by simp)
        refine Exists.intro _ (Exists.intro _ (And.intro (callX_args fH14) ?_))
        refine Exists.intro _ (Exists.intro _ (And.intro cA.of (And.intro (show row 13 _ _ = some [.slice g.wa g.wn g.wcap, .slice g.aa g.an g.acap, iv g.r1, iv g.r2, iv g.f1, iv g.f2, iv g.g1, iv g.g2, iv g.full, iv g.base, iv g.kill, iv g.need, iv g.bear] from rfl) ?_)))
        obtain ⟨wH15, H15, fH15, kH15, hc2⟩ := oxygen_ok (kn := kn) (lo := lo) (H := H14) (g := g) (a := a) (b := b) (us := us) hw ha hwl hal (by omega) (by omega) hl hul (by omega) (by omega)
        have mH15 := kH15.1
        have hk := hk.trans kH15
        have hw := kH15.sl0 hw
        have ha := kH15.sl0 ha
        have hl := kH15.sl0 hl
        have cA := kH15.cl cA (by simp)
        have rb1 := kH15.rd rb1 (by simp)
        have rb2 := kH15.rd rb2 (by simp)
        have rb3 := kH15.rd rb3 (by simp)
        have rb4 := kH15.rd rb4 (by simp)
        obtain rfl := hc2.c1 hok
        refine Exists.intro _ (Exists.intro _ (And.intro (callX_args fH15) ?_))
        refine And.intro rfl (Exists.intro (.slice none 0 0) (And.intro (by kernel_rfl) ?_))
        refine And.intro rfl (Exists.intro (iv 1) (And.intro (by kernel_rfl) ?_))
        refine Exists.intro _ (Exists.intro _ (And.intro cA.of (And.intro (show _ = some (.slice g.wa g.wn g.wcap) from rfl) ?_)))
        refine callB (same_ok rb1.slI hw (by omega) (by omega)) ?_
        intro tH16 H16 hH16 kH16
        subst hH16
        have mH16 := kH16.1
        have hk := hk.trans kH16
        have hw := kH16.sl0 hw
        have ha := kH16.sl0 ha
        have hl := kH16.sl0 hl
        have cA := kH16.cl cA (by simp)
        have rb1 := kH16.rd rb1 (by simp)
        have rb2 := kH16.rd rb2 (by simp)
        have rb3 := kH16.rd rb3 (by simp)
        have rb4 := kH16.rd rb4 (by simp)
        refine Exists.intro _ (Exists.intro _ (And.intro cA.of (And.intro (show _ = some (.slice g.aa g.an g.acap) from rfl) ?_)))
        refine callB (same_ok rb2.slI ha (by omega) (by omega)) ?_
        intro tH17 H17 hH17 kH17
        subst hH17
        have mH17 := kH17.1
        have hk := hk.trans kH17
        have hw := kH17.sl0 hw
        have ha := kH17.sl0 ha
        have hl := kH17.sl0 hl
        have cA := kH17.cl cA (by simp)
        have rb1 := kH17.rd rb1 (by simp)
        have rb2 := kH17.rd rb2 (by simp)
        have rb3 := kH17.rd rb3 (by simp)
        have rb4 := kH17.rd rb4 (by simp)
        refine And.intro rfl (Exists.intro (.bool true) (And.intro rfl ?_))
        refine callB (ints30_ok rb3.slI hl hul (by omega)) ?_
        intro tH18 H18 hH18 kH18
        subst hH18
        have mH18 := kH18.1
        have hk := hk.trans kH18
        have hw := kH18.sl0 hw
        have ha := kH18.sl0 ha
        have hl := kH18.sl0 hl
        have cA := kH18.cl cA (by simp)
        have rb1 := kH18.rd rb1 (by simp)
        have rb2 := kH18.rd rb2 (by simp)
        have rb3 := kH18.rd rb3 (by simp)
        have rb4 := kH18.rd rb4 (by simp)
        refine And.intro rfl (Exists.intro (.bool true) (And.intro rfl ?_))
        refine callB (same_ok (ss := []) (.inl ⟨.inl rfl, rfl, rfl, rfl⟩) rb4.slI rfl (by omega)) ?_
        intro tH19 H19 hH19 kH19
        subst hH19
        have mH19 := kH19.1
        have hk := hk.trans kH19
        have hw := kH19.sl0 hw
        have ha := kH19.sl0 ha
        have hl := kH19.sl0 hl
        have cA := kH19.cl cA (by simp)
        have rb1 := kH19.rd rb1 (by simp)
        have rb2 := kH19.rd rb2 (by simp)
        have rb3 := kH19.rd rb3 (by simp)
        have rb4 := kH19.rd rb4 (by simp)
        refine And.intro rfl (Exists.intro (.bool true) (And.intro rfl ?_))
        intro t2 g2; obtain rfl : t2 = true := by rw [← g2]; rfl
        refine And.intro rfl (Exists.intro (.bool true) (And.intro rfl ?_))
        refine al _ _ ?_
        refine And.intro rfl (Exists.intro (.bool true) (And.intro rfl ?_))
        exact And.intro trivial (Exists.intro _ (And.intro rfl rfl))
    · have v := Lt.vd hok hwl hal; have hn40 := v.n40
      rcases hfs : (flB g a b && setB a (a + b) us) with _ | _
      · obtain ⟨wH10, H10, fH10, kH10, hc⟩ := oxygen_ok (kn := kn) (lo := lo) (H := H8) (g := g) (a := a) (b := b) (us := us) hw ha hwl hal (by omega) (by omega) hl hul (by omega) (by omega)
        have mH10 := kH10.1
        have hk := hk.trans kH10
        have hw := kH10.sl0 hw
        have ha := kH10.sl0 ha
        have hl := kH10.sl0 hl
        have c1 := kH10.cl c1 (by simp)
        have rb1 := kH10.rd rb1 (by simp)
        have rb2 := kH10.rd rb2 (by simp)
        have rb3 := kH10.rd rb3 (by simp)
        obtain rfl := hc.c2 hok hfs
        refine Exists.intro _ (Exists.intro _ (And.intro (callX_args fH10) ?_))
        refine And.intro rfl (Exists.intro (.slice none 0 0) (And.intro (by kernel_rfl) ?_))
        refine And.intro rfl (Exists.intro (iv 2) (And.intro (by kernel_rfl) ?_))
        obtain ⟨H20, hH20⟩ : ∃ H20, H10.new (.cells [] 24 false) = H20 := ⟨_, rfl⟩
        refine And.intro rfl (Or.inr (And.intro (by kernel_rfl) (Exists.intro _ (Exists.intro H20 (Exists.intro _ (And.intro ((heap_build0 se22 z24).trans (by rw [← hH20])) (And.intro (fun b e => by cases e) ?_)))))))
        have gH20 := new_get hH20
        obtain ⟨kH20, nH20, c20⟩ := new_facts hH20; clear hH20
        have mH20 := kH20.1
        have hk := hk.trans kH20
        have hw := kH20.sl0 hw
        have ha := kH20.sl0 ha
        have hl := kH20.sl0 hl
        have c1 := kH20.cl c1 (by simp)
        have rb1 := kH20.rd rb1 (by simp)
        have rb2 := kH20.rd rb2 (by simp)
        have rb3 := kH20.rd rb3 (by simp)
        obtain ⟨vb4, H21, kdH21, eH21, dH21, aH21, kH21⟩ := heap_append_first (P := Try.prog) (lo := lo) (f := H10.next) (t1 := 22) se22 u22 (.inl ⟨.inl rfl, rfl, rfl, rfl⟩ : Sl H20 none 0 0 []) rfl (by omega) (by decide) gH20 (by omega) (by omega) (by omega) (Nat.le_refl _)
        refine And.intro rfl (Or.inr (And.intro (by kernel_rfl) (Exists.intro _ (Exists.intro H21 (Exists.intro _ (And.intro (eH21 _ _ _ _ _ _ _ rfl rfl) (And.intro (fun b e => by rcases dH21 with h | h <;> exact Kd.noConfusion (h.symm.trans e)) ?_)))))))
        have mH21 := kH21.1
        have hk := hk.trans kH21
        have hw := kH21.sl0 hw
        have ha := kH21.sl0 ha
        have hl := kH21.sl0 hl
        have c1 := kH21.cl c1 (by simp)
        have rb1 := kH21.rd rb1 (by simp)
        have rb2 := kH21.rd rb2 (by simp)
        have rb3 := kH21.rd rb3 (by simp)
        obtain ⟨b4, rfl, lb4, rb4⟩ := aH21.rd (Nat.le_refl _)
        have ub4 := rb4.lt
        obtain ⟨z0, hz0⟩ : ∃ z, z = H.next := ⟨_, rfl⟩
        have b36 : z0 < b1 ∧ z0 < b2 ∧ z0 < b3 ∧ H.next ≤ z0 := by omega
        rw [← hz0] at c1
        rw [← hz0]
        clear hz0
        refine loop_low (fn := Try.f12) E12_1 N12 L12x1 (fun i : Nat => [(1, iv a), (2, iv b), (3, .slice la n cap), (4, pt z0), (9, .slice (some ⟨b1, 0, none⟩) g.wn g.wn), (10, .slice (some ⟨b2, 0, none⟩) g.an g.an), (11, .slice (some ⟨b3, 0, none⟩) n n), (12, .slice none 0 0), (13, iv 2), (14, .slice (some ⟨b4, 0, none⟩) 0 0), (45, iv 0), (46, iv (i : Int))])
          (fun k i H' => i + k = 0 ∧ Keep H H' [] ∧ Sl H' g.wa g.wn g.wcap (spc g.ws) ∧ Sl H' g.aa g.an g.acap (spc g.as) ∧ Sl H' la n cap (ints us) ∧ Cl H' z0 g.v ∧ Rd H' b1 (spc g.ws) ∧ Rd H' b2 (spc g.as) ∧ Rd H' b3 (ints us) ∧ Rd H' b4 []) 0 0 ⟨by omega, hk, hw, ha, hl, c1, rb1, rb2, rb3, rb4⟩ ⟨rfl, rfl, rfl, rfl, rfl, rfl, rfl, rfl, rfl, rfl, rfl, rfl, trivial⟩ ?_
        rintro k i L1 ⟨hik, hk, hw, ha, hl, cA, rb1, rb2, rb3, rb4⟩
        have hm := hk.1; have hm4 := rb4.lt
        refine And.intro (fun q3 => ?_) (fun q3 => ?_)
        · have q3 : (i : Int) < 0 := of_decide_eq_true q3
          exfalso; omega
        · have q3 : ¬ ((i : Int) < 0) := of_decide_eq_false q3
          refine Exists.intro _ (Exists.intro _ (And.intro cA.of (And.intro (show row 13 _ _ = some [.slice g.wa g.wn g.wcap, .slice g.aa g.an g.acap, iv g.r1, iv g.r2, iv g.f1, iv g.f2, iv g.g1, iv g.g2, iv g.full, iv g.base, iv g.kill, iv g.need, iv g.bear] from rfl) ?_)))
          obtain ⟨wH22, H22, fH22, kH22, _⟩ := best_ok (kn := kn) (lo := lo) (H := L1) (g := g) h48 hw ha hwl hal (by omega) (by omega) (by omega)
          have mH22 := kH22.1
          have hk := hk.trans kH22
          have hw := kH22.sl0 hw
          have ha := kH22.sl0 ha
          have hl := kH22.sl0 hl
          have cA := kH22.cl cA (by simp)
          have rb1 := kH22.rd rb1 (by simp)
          have rb2 := kH22.rd rb2 (by simp)
          have rb3 := kH22.rd rb3 (by simp)
          have rb4 := kH22.rd rb4 (by simp)
          refine Exists.intro _ (Exists.intro _ (And.intro (callX_args fH22) ?_))
          refine Exists.intro _ (Exists.intro _ (And.intro cA.of (And.intro (show row 13 _ _ = some [.slice g.wa g.wn g.wcap, .slice g.aa g.an g.acap, iv g.r1, iv g.r2, iv g.f1, iv g.f2, iv g.g1, iv g.g2, iv g.full, iv g.base, iv g.kill, iv g.need, iv g.bear] from rfl) ?_)))
          obtain ⟨wH23, H23, fH23, kH23, hc2⟩ := oxygen_ok (kn := kn) (lo := lo) (H := H22) (g := g) (a := a) (b := b) (us := us) hw ha hwl hal (by omega) (by omega) hl hul (by omega) (by omega)
          have mH23 := kH23.1
          have hk := hk.trans kH23
          have hw := kH23.sl0 hw
          have ha := kH23.sl0 ha
          have hl := kH23.sl0 hl
          have cA := kH23.cl cA (by simp)
          have rb1 := kH23.rd rb1 (by simp)
          have rb2 := kH23.rd rb2 (by simp)
          have rb3 := kH23.rd rb3 (by simp)
          have rb4 := kH23.rd rb4 (by simp)
          obtain rfl := hc2.c2 hok hfs
          refine Exists.intro _ (Exists.intro _ (And.intro (callX_args fH23) ?_))
          refine And.intro rfl (Exists.intro (.slice none 0 0) (And.intro (by kernel_rfl) ?_))
          refine And.intro rfl (Exists.intro (iv 2) (And.intro (by kernel_rfl) ?_))
          refine Exists.intro _ (Exists.intro _ (And.intro cA.of (And.intro (show _ = some (.slice g.wa g.wn g.wcap) from rfl) ?_)))
          refine callB (same_ok rb1.slI hw (by omega) (by omega)) ?_
          intro tH24 H24 hH24 kH24
          subst hH24
          have mH24 := kH24.1
          have hk := hk.trans kH24
          have hw := kH24.sl0 hw
          have ha := kH24.sl0 ha
          have hl := kH24.sl0 hl
          have cA := kH24.cl cA (by simp)
          have rb1 := kH24.rd rb1 (by simp)
          have rb2 := kH24.rd rb2 (by simp)
          have rb3 := kH24.rd rb3 (by simp)
          have rb4 := kH24.rd rb4 (by simp)
          refine Exists.intro _ (Exists.intro _ (And.intro cA.of (And.intro (show _ = some (.slice g.aa g.an g.acap) from rfl) ?_)))
          refine callB (same_ok rb2.slI ha (by omega) (by omega)) ?_
          intro tH25 H25 hH25 kH25
          subst hH25
          have mH25 := kH25.1
          have hk := hk.trans kH25
          have hw := kH25.sl0 hw
          have ha := kH25.sl0 ha
          have hl := kH25.sl0 hl
          have cA := kH25.cl cA (by simp)
          have rb1 := kH25.rd rb1 (by simp)
          have rb2 := kH25.rd rb2 (by simp)
          have rb3 := kH25.rd rb3 (by simp)
          have rb4 := kH25.rd rb4 (by simp)
          refine And.intro rfl (Exists.intro (.bool true) (And.intro rfl ?_))
          refine callB (ints30_ok rb3.slI hl hul (by omega)) ?_
          intro tH26 H26 hH26 kH26
          subst hH26
          have mH26 := kH26.1
          have hk := hk.trans kH26
          have hw := kH26.sl0 hw
          have ha := kH26.sl0 ha
          have hl := kH26.sl0 hl
          have cA := kH26.cl cA (by simp)
          have rb1 := kH26.rd rb1 (by simp)
          have rb2 := kH26.rd rb2 (by simp)
          have rb3 := kH26.rd rb3 (by simp)
          have rb4 := kH26.rd rb4 (by simp)
          refine And.intro rfl (Exists.intro (.bool true) (And.intro rfl ?_))
          refine callB (same_ok (ss := []) (.inl ⟨.inl rfl, rfl, rfl, rfl⟩) rb4.slI rfl (by omega)) ?_
          intro tH27 H27 hH27 kH27
          subst hH27
          have mH27 := kH27.1
          have hk := hk.trans kH27
          have hw := kH27.sl0 hw
          have ha := kH27.sl0 ha
          have hl := kH27.sl0 hl
          have cA := kH27.cl cA (by simp)
          have rb1 := kH27.rd rb1 (by simp)
          have rb2 := kH27.rd rb2 (by simp)
          have rb3 := kH27.rd rb3 (by simp)
          have rb4 := kH27.rd rb4 (by simp)
          refine And.intro rfl (Exists.intro (.bool true) (And.intro rfl ?_))
          intro t4 g4; obtain rfl : t4 = true := by rw [← g4]; rfl
          refine And.intro rfl (Exists.intro (.bool true) (And.intro rfl ?_))
          refine al _ _ ?_
          refine And.intro rfl (Exists.intro (.bool true) (And.intro rfl ?_))
          exact And.intro trivial (Exists.intro _ (And.intro rfl rfl))
      · obtain ⟨hfl, hset⟩ := Bool.and_eq_true_iff.1 hfs
        obtain ⟨s, d, rfl, rfl, hsd⟩ := flB_get hfl
        obtain ⟨ov, H11, fH11, kH11, hov⟩ := oxygen_at (kn := kn) (lo := lo) (H := H8) (g := g) hw ha hwl hal (by omega) (by omega) hok s d rfl rfl hsd hset hl hul (by omega) (by omega)
        have mH11 := kH11.1
        have hk := hk.trans kH11
        have hw := kH11.sl0 hw
        have ha := kH11.sl0 ha
        have hl := kH11.sl0 hl
        have c1 := kH11.cl c1 (by simp)
        have rb1 := kH11.rd rb1 (by simp)
        have rb2 := kH11.rd rb2 (by simp)
        have rb3 := kH11.rd rb3 (by simp)
        refine Exists.intro _ (Exists.intro _ (And.intro (callX_args fH11) ?_))
        refine And.intro rfl (Exists.intro (ov) (And.intro (by kernel_rfl) ?_))
        refine And.intro rfl (Exists.intro (iv 0) (And.intro (by kernel_rfl) ?_))
        rcases Nat.eq_zero_or_pos d with hd0 | hd0
        · subst hd0
          obtain rfl := hov.nil
          obtain ⟨H28, hH28⟩ : ∃ H28, H11.new (.cells [] 24 false) = H28 := ⟨_, rfl⟩
          refine And.intro rfl (Or.inr (And.intro (by kernel_rfl) (Exists.intro _ (Exists.intro H28 (Exists.intro _ (And.intro ((heap_build0 se22 z24).trans (by rw [← hH28])) (And.intro (fun b e => by cases e) ?_)))))))
          have gH28 := new_get hH28
          obtain ⟨kH28, nH28, c28⟩ := new_facts hH28; clear hH28
          have mH28 := kH28.1
          have hk := hk.trans kH28
          have hw := kH28.sl0 hw
          have ha := kH28.sl0 ha
          have hl := kH28.sl0 hl
          have c1 := kH28.cl c1 (by simp)
          have rb1 := kH28.rd rb1 (by simp)
          have rb2 := kH28.rd rb2 (by simp)
          have rb3 := kH28.rd rb3 (by simp)
          obtain ⟨vb4, H29, kdH29, eH29, dH29, aH29, kH29⟩ := heap_append_first (P := Try.prog) (lo := lo) (f := H11.next) (t1 := 22) se22 u22 (.inl ⟨.inl rfl, rfl, rfl, rfl⟩ : Sl H28 none 0 0 []) rfl (by omega) (by decide) gH28 (by omega) (by omega) (by omega) (Nat.le_refl _)
          refine And.intro rfl (Or.inr (And.intro (by kernel_rfl) (Exists.intro _ (Exists.intro H29 (Exists.intro _ (And.intro (eH29 _ _ _ _ _ _ _ rfl rfl) (And.intro (fun b e => by rcases dH29 with h | h <;> exact Kd.noConfusion (h.symm.trans e)) ?_)))))))
          have mH29 := kH29.1
          have hk := hk.trans kH29
          have hw := kH29.sl0 hw
          have ha := kH29.sl0 ha
          have hl := kH29.sl0 hl
          have c1 := kH29.cl c1 (by simp)
          have rb1 := kH29.rd rb1 (by simp)
          have rb2 := kH29.rd rb2 (by simp)
          have rb3 := kH29.rd rb3 (by simp)
          obtain ⟨b4, rfl, lb4, rb4⟩ := aH29.rd (Nat.le_refl _)
          have ub4 := rb4.lt
          obtain ⟨z0, hz0⟩ : ∃ z, z = H.next := ⟨_, rfl⟩
          have b36 : z0 < b1 ∧ z0 < b2 ∧ z0 < b3 ∧ H.next ≤ z0 := by omega
          rw [← hz0] at c1
          rw [← hz0]
          clear hz0
          refine loop_low (fn := Try.f12) E12_1 N12 L12x1 (fun i : Nat => [(1, iv (s : Int)), (2, iv ((0 : Nat) : Int)), (3, .slice la n cap), (4, pt z0), (9, .slice (some ⟨b1, 0, none⟩) g.wn g.wn), (10, .slice (some ⟨b2, 0, none⟩) g.an g.an), (11, .slice (some ⟨b3, 0, none⟩) n n), (12, .slice none 0 0), (13, iv 0), (14, .slice (some ⟨b4, 0, none⟩) 0 0), (45, iv 0), (46, iv (i : Int))])
            (fun k i H' => i + k = 0 ∧ Keep H H' [] ∧ Sl H' g.wa g.wn g.wcap (spc g.ws) ∧ Sl H' g.aa g.an g.acap (spc g.as) ∧ Sl H' la n cap (ints us) ∧ Cl H' z0 g.v ∧ Rd H' b1 (spc g.ws) ∧ Rd H' b2 (spc g.as) ∧ Rd H' b3 (ints us) ∧ Rd H' b4 []) 0 0 ⟨by omega, hk, hw, ha, hl, c1, rb1, rb2, rb3, rb4⟩ ⟨rfl, rfl, rfl, rfl, rfl, rfl, rfl, rfl, rfl, rfl, rfl, rfl, trivial⟩ ?_
          rintro k i L1 ⟨hik, hk, hw, ha, hl, cA, rb1, rb2, rb3, rb4⟩
          have hm := hk.1; have hm4 := rb4.lt
          refine And.intro (fun q5 => ?_) (fun q5 => ?_)
          · have q5 : (i : Int) < 0 := of_decide_eq_true q5
            exfalso; omega
          · have q5 : ¬ ((i : Int) < 0) := of_decide_eq_false q5
            refine Exists.intro _ (Exists.intro _ (And.intro cA.of (And.intro (show row 13 _ _ = some [.slice g.wa g.wn g.wcap, .slice g.aa g.an g.acap, iv g.r1, iv g.r2, iv g.f1, iv g.f2, iv g.g1, iv g.g2, iv g.full, iv g.base, iv g.kill, iv g.need, iv g.bear] from rfl) ?_)))
            obtain ⟨wH30, H30, fH30, kH30, _⟩ := best_ok (kn := kn) (lo := lo) (H := L1) (g := g) h48 hw ha hwl hal (by omega) (by omega) (by omega)
            have mH30 := kH30.1
            have hk := hk.trans kH30
            have hw := kH30.sl0 hw
            have ha := kH30.sl0 ha
            have hl := kH30.sl0 hl
            have cA := kH30.cl cA (by simp)
            have rb1 := kH30.rd rb1 (by simp)
            have rb2 := kH30.rd rb2 (by simp)
            have rb3 := kH30.rd rb3 (by simp)
            have rb4 := kH30.rd rb4 (by simp)
            refine Exists.intro _ (Exists.intro _ (And.intro (callX_args fH30) ?_))
            refine Exists.intro _ (Exists.intro _ (And.intro cA.of (And.intro (show row 13 _ _ = some [.slice g.wa g.wn g.wcap, .slice g.aa g.an g.acap, iv g.r1, iv g.r2, iv g.f1, iv g.f2, iv g.g1, iv g.g2, iv g.full, iv g.base, iv g.kill, iv g.need, iv g.bear] from rfl) ?_)))
            obtain ⟨ov2, H31, fH31, kH31, hov2⟩ := oxygen_at (kn := kn) (lo := lo) (H := H30) (g := g) hw ha hwl hal (by omega) (by omega) hok s 0 rfl rfl hsd hset hl hul (by omega) (by omega)
            have mH31 := kH31.1
            have hk := hk.trans kH31
            have hw := kH31.sl0 hw
            have ha := kH31.sl0 ha
            have hl := kH31.sl0 hl
            have cA := kH31.cl cA (by simp)
            have rb1 := kH31.rd rb1 (by simp)
            have rb2 := kH31.rd rb2 (by simp)
            have rb3 := kH31.rd rb3 (by simp)
            have rb4 := kH31.rd rb4 (by simp)
            obtain rfl := hov2.nil
            refine Exists.intro _ (Exists.intro _ (And.intro (callX_args fH31) ?_))
            refine And.intro rfl (Exists.intro (.slice none 0 0) (And.intro (by kernel_rfl) ?_))
            refine And.intro rfl (Exists.intro (iv 0) (And.intro (by kernel_rfl) ?_))
            refine Exists.intro _ (Exists.intro _ (And.intro cA.of (And.intro (show _ = some (.slice g.wa g.wn g.wcap) from rfl) ?_)))
            refine callB (same_ok rb1.slI hw (by omega) (by omega)) ?_
            intro tH32 H32 hH32 kH32
            subst hH32
            have mH32 := kH32.1
            have hk := hk.trans kH32
            have hw := kH32.sl0 hw
            have ha := kH32.sl0 ha
            have hl := kH32.sl0 hl
            have cA := kH32.cl cA (by simp)
            have rb1 := kH32.rd rb1 (by simp)
            have rb2 := kH32.rd rb2 (by simp)
            have rb3 := kH32.rd rb3 (by simp)
            have rb4 := kH32.rd rb4 (by simp)
            refine Exists.intro _ (Exists.intro _ (And.intro cA.of (And.intro (show _ = some (.slice g.aa g.an g.acap) from rfl) ?_)))
            refine callB (same_ok rb2.slI ha (by omega) (by omega)) ?_
            intro tH33 H33 hH33 kH33
            subst hH33
            have mH33 := kH33.1
            have hk := hk.trans kH33
            have hw := kH33.sl0 hw
            have ha := kH33.sl0 ha
            have hl := kH33.sl0 hl
            have cA := kH33.cl cA (by simp)
            have rb1 := kH33.rd rb1 (by simp)
            have rb2 := kH33.rd rb2 (by simp)
            have rb3 := kH33.rd rb3 (by simp)
            have rb4 := kH33.rd rb4 (by simp)
            refine And.intro rfl (Exists.intro (.bool true) (And.intro rfl ?_))
            refine callB (ints30_ok rb3.slI hl hul (by omega)) ?_
            intro tH34 H34 hH34 kH34
            subst hH34
            have mH34 := kH34.1
            have hk := hk.trans kH34
            have hw := kH34.sl0 hw
            have ha := kH34.sl0 ha
            have hl := kH34.sl0 hl
            have cA := kH34.cl cA (by simp)
            have rb1 := kH34.rd rb1 (by simp)
            have rb2 := kH34.rd rb2 (by simp)
            have rb3 := kH34.rd rb3 (by simp)
            have rb4 := kH34.rd rb4 (by simp)
            refine And.intro rfl (Exists.intro (.bool true) (And.intro rfl ?_))
            refine callB (same_ok (ss := []) (.inl ⟨.inl rfl, rfl, rfl, rfl⟩) rb4.slI rfl (by omega)) ?_
            intro tH35 H35 hH35 kH35
            subst hH35
            have mH35 := kH35.1
            have hk := hk.trans kH35
            have hw := kH35.sl0 hw
            have ha := kH35.sl0 ha
            have hl := kH35.sl0 hl
            have cA := kH35.cl cA (by simp)
            have rb1 := kH35.rd rb1 (by simp)
            have rb2 := kH35.rd rb2 (by simp)
            have rb3 := kH35.rd rb3 (by simp)
            have rb4 := kH35.rd rb4 (by simp)
            refine And.intro rfl (Exists.intro (.bool true) (And.intro rfl ?_))
            intro t6 g6; obtain rfl : t6 = true := by rw [← g6]; rfl
            refine And.intro rfl (Exists.intro (.bool true) (And.intro rfl ?_))
            refine al _ _ ?_
            refine And.intro rfl (Exists.intro (.bool true) (And.intro rfl ?_))
            exact And.intro trivial (Exists.intro _ (And.intro rfl rfl))
        · obtain ⟨ba, rfl, hba, _, lz1⟩ := hov.lz hd0; have lba := lz1.1
          obtain ⟨H36, hH36⟩ : ∃ H36, H11.new (.cells [] 24 false) = H36 := ⟨_, rfl⟩
          refine And.intro rfl (Or.inr (And.intro (by kernel_rfl) (Exists.intro _ (Exists.intro H36 (Exists.intro _ (And.intro ((heap_build0 se22 z24).trans (by rw [← hH36])) (And.intro (fun b e => by cases e) ?_)))))))
          have gH36 := new_get hH36
          obtain ⟨kH36, nH36, c36⟩ := new_facts hH36; clear hH36
          have mH36 := kH36.1
          have hk := hk.trans kH36
          have hw := kH36.sl0 hw
          have ha := kH36.sl0 ha
          have hl := kH36.sl0 hl
          have c1 := kH36.cl c1 (by simp)
          have rb1 := kH36.rd rb1 (by simp)
          have rb2 := kH36.rd rb2 (by simp)
          have rb3 := kH36.rd rb3 (by simp)
          have lz1 := kH36.lz lz1 (by simp)
          have lzs := lz1.rd.slI (n := d)
          obtain ⟨vb4, H37, kdH37, eH37, dH37, aH37, kH37⟩ := heap_append_first (P := Try.prog) (lo := lo) (f := H11.next) (t1 := 22) se22 u22 lzs (by rw [spc_len, Lt.ox_len]) (by omega) (by decide) gH36 (by omega) (by omega) (by omega) (Nat.le_refl _)
          refine And.intro rfl (Or.inr (And.intro (by kernel_rfl) (Exists.intro _ (Exists.intro H37 (Exists.intro _ (And.intro (eH37 _ _ _ _ _ _ _ rfl rfl) (And.intro (fun b e => by rcases dH37 with h | h <;> exact Kd.noConfusion (h.symm.trans e)) ?_)))))))
          have mH37 := kH37.1
          have hk := hk.trans kH37
          have hw := kH37.sl0 hw
          have ha := kH37.sl0 ha
          have hl := kH37.sl0 hl
          have c1 := kH37.cl c1 (by simp)
          have rb1 := kH37.rd rb1 (by simp)
          have rb2 := kH37.rd rb2 (by simp)
          have rb3 := kH37.rd rb3 (by simp)
          have lz1 := kH37.lz lz1 (by simp)
          obtain ⟨b4, rfl, lb4, rb4⟩ := aH37.rd (Nat.le_refl _)
          have ub4 := rb4.lt
          obtain ⟨z0, hz0⟩ : ∃ z, z = H.next := ⟨_, rfl⟩
          have b36 : z0 < b1 ∧ z0 < b2 ∧ z0 < b3 ∧ H.next ≤ z0 ∧ b1 < ba ∧ b2 < ba ∧ b3 < ba ∧ ba < b4 := by omega
          rw [← hz0] at c1
          rw [← hz0]
          clear hz0
          refine loop_low (fn := Try.f12) E12_1 N12 L12x1 (fun i : Nat => [(1, iv (s : Int)), (2, iv (d : Int)), (3, .slice la n cap), (4, pt z0), (9, .slice (some ⟨b1, 0, none⟩) g.wn g.wn), (10, .slice (some ⟨b2, 0, none⟩) g.an g.an), (11, .slice (some ⟨b3, 0, none⟩) n n), (12, .slice (some ⟨ba, 0, none⟩) d d), (13, iv 0), (14, .slice (some ⟨b4, 0, none⟩) d d), (45, iv (d : Int)), (46, iv (i : Int))])
            (fun k i H' => i + k = d ∧ Keep H H' [] ∧ Sl H' g.wa g.wn g.wcap (spc g.ws) ∧ Sl H' g.aa g.an g.acap (spc g.as) ∧ Sl H' la n cap (ints us) ∧ Cl H' z0 g.v ∧ Rd H' b1 (spc g.ws) ∧ Rd H' b2 (spc g.as) ∧ Rd H' b3 (ints us) ∧ Rd H' b4 (spc (g.ox s (Nat.testBit (dayMask us)) d)) ∧ ∃ cs, Cl H' ba cs ∧ cs.length = d * 2) d 0 ⟨by omega, hk, hw, ha, hl, c1, rb1, rb2, rb3, rb4, _, lz1.cl, by rw [spc_len, Lt.ox_len]⟩ ⟨rfl, rfl, rfl, rfl, rfl, rfl, rfl, rfl, rfl, rfl, rfl, rfl, trivial⟩ ?_
          rintro k i L1 ⟨hik, hk, hw, ha, hl, cA, rb1, rb2, rb3, rb4, hcab⟩
          have hm := hk.1; have hm4 := rb4.lt
          refine And.intro (fun q7 => ?_) (fun q7 => ?_)
          · have q7 : (i : Int) < (d : Int) := of_decide_eq_true q7
            have hid : i < d := by omega
            refine Exists.intro i (And.intro rfl (And.intro hid ?_))
            obtain ⟨cs, cab, hcs⟩ := hcab
            obtain ⟨_, eH38, lH38, gH38⟩ := id cab
            refine Exists.intro _ (Exists.intro _ (Exists.intro _ (And.intro gH38 (And.intro (by omega) (And.intro rfl (And.intro rfl (And.intro (by omega) ?_)))))))
            intro H38 hH38; obtain ⟨kH38, nH38, sH38⟩ := up_facts cab hH38; clear hH38
            have mH38 := kH38.1
            have q1 : z0 ≠ ba := by omega
            have hk := hk.new kH38 (fun b hb => by simp at hb ⊢; omega)
            have hw := kH38.sl hw (fun b e => by have := fw b e; first | (simp; done) | (simp; omega))
            have ha := kH38.sl ha (fun b e => by have := fa b e; first | (simp; done) | (simp; omega))
            have hl := kH38.sl hl (fun b e => by have := fl b e; first | (simp; done) | (simp; omega))
            have cA := kH38.cl cA (by first | (simp; done) | (simp; omega))
            have rb1 := kH38.rd rb1 (by first | (simp; done) | (simp; omega))
            have rb2 := kH38.rd rb2 (by first | (simp; done) | (simp; omega))
            have rb3 := kH38.rd rb3 (by first | (simp; done) | (simp; omega))
            have rb4 := kH38.rd rb4 (by first | (simp; done) | (simp; omega))
            have hcab : ∃ cs, Cl H38 ba cs ∧ cs.length = d * 2 := ⟨_, sH38, by rw [List.length_set]; exact hcs⟩
            refine And.intro (show InR ((i : Int) + 1) from ⟨by omega, by omega⟩) ?_
            exact ⟨k - 1, i + 1, by omega, ⟨by omega, hk, hw, ha, hl, cA, rb1, rb2, rb3, rb4, hcab⟩, rfl, rfl, rfl, rfl, rfl, rfl, rfl, rfl, rfl, rfl, rfl, rfl, trivial⟩
          · have q7 : ¬ ((i : Int) < (d : Int)) := of_decide_eq_false q7
            refine Exists.intro _ (Exists.intro _ (And.intro cA.of (And.intro (show row 13 _ _ = some [.slice g.wa g.wn g.wcap, .slice g.aa g.an g.acap, iv g.r1, iv g.r2, iv g.f1, iv g.f2, iv g.g1, iv g.g2, iv g.full, iv g.base, iv g.kill, iv g.need, iv g.bear] from rfl) ?_)))
            obtain ⟨wH39, H39, fH39, kH39, _⟩ := best_ok (kn := kn) (lo := lo) (H := L1) (g := g) h48 hw ha hwl hal (by omega) (by omega) (by omega)
            have mH39 := kH39.1
            have hk := hk.trans kH39
            have hw := kH39.sl0 hw
            have ha := kH39.sl0 ha
            have hl := kH39.sl0 hl
            have cA := kH39.cl cA (by simp)
            have rb1 := kH39.rd rb1 (by simp)
            have rb2 := kH39.rd rb2 (by simp)
            have rb3 := kH39.rd rb3 (by simp)
            have rb4 := kH39.rd rb4 (by simp)
            refine Exists.intro _ (Exists.intro _ (And.intro (callX_args fH39) ?_))
            refine Exists.intro _ (Exists.intro _ (And.intro cA.of (And.intro (show row 13 _ _ = some [.slice g.wa g.wn g.wcap, .slice g.aa g.an g.acap, iv g.r1, iv g.r2, iv g.f1, iv g.f2, iv g.g1, iv g.g2, iv g.full, iv g.base, iv g.kill, iv g.need, iv g.bear] from rfl) ?_)))
            obtain ⟨ov2, H40, fH40, kH40, hov2⟩ := oxygen_at (kn := kn) (lo := lo) (H := H39) (g := g) hw ha hwl hal (by omega) (by omega) hok s d rfl rfl hsd hset hl hul (by omega) (by omega)
            have mH40 := kH40.1
            have hk := hk.trans kH40
            have hw := kH40.sl0 hw
            have ha := kH40.sl0 ha
            have hl := kH40.sl0 hl
            have cA := kH40.cl cA (by simp)
            have rb1 := kH40.rd rb1 (by simp)
            have rb2 := kH40.rd rb2 (by simp)
            have rb3 := kH40.rd rb3 (by simp)
            have rb4 := kH40.rd rb4 (by simp)
            obtain ⟨b5, rfl, hb5, _, lz5⟩ := hov2.lz hd0; have lb5 := lz5.1
            refine Exists.intro _ (Exists.intro _ (And.intro (callX_args fH40) ?_))
            refine And.intro rfl (Exists.intro (.slice (some ⟨b5, 0, none⟩) d d) (And.intro (by kernel_rfl) ?_))
            refine And.intro rfl (Exists.intro (iv 0) (And.intro (by kernel_rfl) ?_))
            refine Exists.intro _ (Exists.intro _ (And.intro cA.of (And.intro (show _ = some (.slice g.wa g.wn g.wcap) from rfl) ?_)))
            refine callB (same_ok rb1.slI hw (by omega) (by omega)) ?_
            intro tH41 H41 hH41 kH41
            subst hH41
            have mH41 := kH41.1
            have hk := hk.trans kH41
            have hw := kH41.sl0 hw
            have ha := kH41.sl0 ha
            have hl := kH41.sl0 hl
            have cA := kH41.cl cA (by simp)
            have rb1 := kH41.rd rb1 (by simp)
            have rb2 := kH41.rd rb2 (by simp)
            have rb3 := kH41.rd rb3 (by simp)
            have rb4 := kH41.rd rb4 (by simp)
            have lz5 := kH41.lz lz5 (by simp)
            refine Exists.intro _ (Exists.intro _ (And.intro cA.of (And.intro (show _ = some (.slice g.aa g.an g.acap) from rfl) ?_)))
            refine callB (same_ok rb2.slI ha (by omega) (by omega)) ?_
            intro tH42 H42 hH42 kH42
            subst hH42
            have mH42 := kH42.1
            have hk := hk.trans kH42
            have hw := kH42.sl0 hw
            have ha := kH42.sl0 ha
            have hl := kH42.sl0 hl
            have cA := kH42.cl cA (by simp)
            have rb1 := kH42.rd rb1 (by simp)
            have rb2 := kH42.rd rb2 (by simp)
            have rb3 := kH42.rd rb3 (by simp)
            have rb4 := kH42.rd rb4 (by simp)
            have lz5 := kH42.lz lz5 (by simp)
            refine And.intro rfl (Exists.intro (.bool true) (And.intro rfl ?_))
            refine callB (ints30_ok rb3.slI hl hul (by omega)) ?_
            intro tH43 H43 hH43 kH43
            subst hH43
            have mH43 := kH43.1
            have hk := hk.trans kH43
            have hw := kH43.sl0 hw
            have ha := kH43.sl0 ha
            have hl := kH43.sl0 hl
            have cA := kH43.cl cA (by simp)
            have rb1 := kH43.rd rb1 (by simp)
            have rb2 := kH43.rd rb2 (by simp)
            have rb3 := kH43.rd rb3 (by simp)
            have rb4 := kH43.rd rb4 (by simp)
            have lz5 := kH43.lz lz5 (by simp)
            refine And.intro rfl (Exists.intro (.bool true) (And.intro rfl ?_))
            refine callB (same_ok lz5.rd.slI rb4.slI (Lt.ox_len d) (by omega)) ?_
            intro tH44 H44 hH44 kH44
            subst hH44
            have mH44 := kH44.1
            have hk := hk.trans kH44
            have hw := kH44.sl0 hw
            have ha := kH44.sl0 ha
            have hl := kH44.sl0 hl
            have cA := kH44.cl cA (by simp)
            have rb1 := kH44.rd rb1 (by simp)
            have rb2 := kH44.rd rb2 (by simp)
            have rb3 := kH44.rd rb3 (by simp)
            have rb4 := kH44.rd rb4 (by simp)
            have lz5 := kH44.lz lz5 (by simp)
            refine And.intro rfl (Exists.intro (.bool true) (And.intro rfl ?_))
            intro t8 g8; obtain rfl : t8 = true := by rw [← g8]; rfl
            refine And.intro rfl (Exists.intro (.bool true) (And.intro rfl ?_))
            refine al _ _ ?_
            refine And.intro rfl (Exists.intro (.bool true) (And.intro rfl ?_))
            exact And.intro trivial (Exists.intro _ (And.intro rfl rfl))
  · refine condT ?_
    refine al _ _ ?_
    exact And.intro trivial (Exists.intro _ (And.intro rfl rfl))
end
end Go.Ax

namespace Go.Ax
open Go Go.RowKit Go.Proofs Go.ChangeShapes Go.WideShapes Go.Deep

/-- A type whose cells are whole numbers. -/
def IntT (P : Program) (t : TypeId) : Prop := ∀ (H : Type) (enc : TypeId × Value → H) (w : World) (base : Nat) (spare : Nat → Bool) (held : Bool) (fuel : Nat) (cs : List Value) (x : DataW H × List MemPlace),
  DataW.trod enc P w base spare held fuel t cs = some x → cs.length = P.cellsOf t ∧ ∀ j, j < cs.length → ∃ n, cs[j]? = some (.int .i64 n)
theorem IntT.int {P : Program} {t : TypeId} (ht : P.underlying t = some (.int .i64)) (hc : P.cellsOf t = 1) : IntT P t := by
  intro H enc w base spare held fuel cs x h
  obtain ⟨n, rfl, _⟩ := DataW.trod_int ht h
  refine ⟨by rw [hc]; rfl, fun j hj => ⟨n, ?_⟩⟩
  have : j = 0 := by simp at hj; omega
  subst this; rfl
theorem IntT.struct {P : Program} {t : TypeId} {fs : Array Field} (ht : P.underlying t = some (.struct fs)) (hf : ∀ f ∈ fs.toList, IntT P f.type)
    (hcov : ((List.range (P.cellsOf t)).all fun j => fs.toList.any fun f => decide (f.offset ≤ j) && decide (j < f.offset + P.cellsOf f.type)) = true) : IntT P t := by
  intro H enc w base spare held fuel cs x h
  obtain ⟨xs, n, _, _, hlen, hxl, hg⟩ := DataW.trod_struct ht h
  refine ⟨hlen, fun j hj => ?_⟩
  have h1 := List.all_eq_true.1 hcov j (List.mem_range.2 (by omega))
  obtain ⟨f, hfm, h2⟩ := List.any_eq_true.1 h1
  simp only [Bool.and_eq_true, decide_eq_true_eq] at h2
  obtain ⟨i, hi, hfi⟩ := List.getElem_of_mem hfm
  have hfs : fs[i]? = some f := by
    rw [← Array.getElem?_toList, List.getElem?_eq_getElem hi, hfi]
  have hi2 : i < xs.length := by simpa [hxl] using hi
  have h3 := hg i f hfs
  rw [List.getElem?_eq_getElem hi2] at h3
  obtain ⟨h4, h5⟩ := hf f hfm _ _ _ _ _ _ _ _ _ h3
  obtain ⟨m, hm⟩ := h5 (j - f.offset) (by omega)
  refine ⟨m, ?_⟩
  rw [List.getElem?_take] at hm
  split at hm
  · rw [List.getElem?_drop, show f.offset + (j - f.offset) = j by omega] at hm; exact hm
  · cases hm

/-- A slice of rows of whole numbers, as it is given. -/
structure Given {α : Type} (w : World) (v : Value) (f : α → List Value) (l : List α) (x : Imp) : Prop where
  ok : ∀ (i : Nat) u, x.cs[i]? = some u → w.cell? ⟨x.blk, x.off + i, none⟩ = some u ∧ flat1 u = true
  cs : x.cs = l.flatMap f
  v : (v = .slice none 0 0 ∧ l = []) ∨ ∃ cap, v = .slice (some ⟨x.blk, x.off, none⟩) l.length cap ∧ l.length ≤ cap
theorem flat_get {α : Type} {f : α → List Value} {k : Nat} (hk : 0 < k) : ∀ {l : List α} (_ : ∀ x ∈ l, (f x).length = k) (i : Nat) (u : Value), (l.flatMap f)[i]? = some u → ∃ x, l[i / k]? = some x ∧ (f x)[i % k]? = some u
  | [], _, i, u, h => by simp at h
  | y :: r, hl, i, u, h => by
    have hy := hl y (List.mem_cons_self ..)
    rw [List.flatMap_cons, List.getElem?_append] at h
    split at h
    · rename_i q
      rw [hy] at q
      refine ⟨y, ?_, ?_⟩
      · rw [Nat.div_eq_of_lt q]; rfl
      · rw [Nat.mod_eq_of_lt q]; exact h
    · rename_i q
      rw [hy] at q h
      obtain ⟨x, h1, h2⟩ := flat_get hk (fun x hx => hl x (List.mem_cons_of_mem _ hx)) _ u h
      refine ⟨x, ?_, ?_⟩
      · rw [Nat.div_eq_sub_div hk (by omega)]; exact h1
      · rw [Nat.mod_eq_sub_mod (by omega)]; exact h2
theorem slice_given {H : Type} {enc : TypeId × Value → H} {P : Program} {w : World} {base b0 : Nat} {r : Reach} {held : Bool} {α : Type} (f : α → List Value) (mk : (Nat → Int) → α) (k : Nat) {t e : TypeId} {fuel : Nat} {v : Value} {x : DataW H × List MemPlace}
    (ht : P.underlying t = some (.slice e)) (hI : IntT P e) (hc : P.cellsOf e = k) (hk : 0 < k) (hmk : ∀ N : Nat → Int, f (mk N) = (List.range k).map fun j => Value.int .i64 (N j))
    (hok : Cell.okWide P w r b0 t v) (h : DataW.trod enc P w base (fun _ => true) held fuel t [v] = some x) : ∃ (l : List α) (y : Imp), Given w v f l y := by
  rcases open_slice ht h with ⟨h0, _⟩ | ⟨a, len, cap, m, n, D, Pl, hcs, hb, hl, hm, hmm, hx, hi⟩
  · cases h0
    exact ⟨[], ⟨0, 0, []⟩, fun i u e => by simp at e, rfl, .inl ⟨rfl, rfl⟩⟩
  · cases hcs
    obtain ⟨blk, off, spot⟩ := a
    have hs : spot = none := by
      unfold Cell.okWide at hok
      rw [ht] at hok
      unfold Cell.ok at hok
      simp only [ht] at hok
      exact hok.2.2.2.1
    subst hs
    simp only [if_true] at hmm
    subst hmm
    have hcell : ∀ i, i < len → ∀ j, j < k → ∃ n, w.cell? ⟨blk, off + (i * k + j), none⟩ = some (.int .i64 n) := by
      intro i hil j hj
      obtain ⟨cs', h1, h2⟩ := hi i (by omega)
      obtain ⟨h3, h4⟩ := hI _ _ _ _ _ _ _ _ _ h2
      obtain ⟨_, h5, h6⟩ := World.cells?_some h1
      obtain ⟨n, hn⟩ := h4 j (by omega)
      refine ⟨n, ?_⟩
      have h7 := h6 j (by omega)
      rw [hn, hc, add_add] at h7
      have e : (⟨blk, off, none⟩ : Addr).add (i * k + j) = ⟨blk, off + (i * k + j), none⟩ := by
        unfold Addr.add
        by_cases q : i * k + j = 0
        · simp [q]
        · simp
      rw [e] at h7
      exact h7
    refine ⟨(List.range len).map fun i => mk fun j => match w.cell? ⟨blk, off + (i * k + j), none⟩ with | some (.int _ n) => n | _ => 0, ⟨blk, off, _⟩, ?_, rfl, .inr ⟨m, by simp, by simpa using hl⟩⟩
    intro i u hu
    obtain ⟨y, h1, h2⟩ := flat_get hk (fun y hy => by
      obtain ⟨i, _, rfl⟩ := List.mem_map.1 hy
      rw [hmk]; simp) i u hu
    have hlt : i / k < len := by
      have := get_lt h1
      simpa using this
    rw [List.getElem?_map, List.getElem?_range hlt] at h1
    simp only [Option.map_some, Option.some.injEq] at h1
    subst h1
    have hj : i % k < k := Nat.mod_lt _ hk
    rw [hmk, List.getElem?_map, List.getElem?_range hj] at h2
    simp only [Option.map_some, Option.some.injEq] at h2
    obtain ⟨n, hn⟩ := hcell _ hlt _ hj
    rw [hn] at h2
    subst h2
    rw [Nat.div_add_mod' ] at hn
    exact ⟨hn, rfl⟩
theorem flat_ints (us : List Int) : us.flatMap (fun x => [iv x]) = ints us := by
  induction us with
  | nil => rfl
  | cons u us ih => rw [List.flatMap_cons, ih]; rfl
end Go.Ax

/-! Slices of rows of plain cells, as arguments. -/
namespace Go.Ax
open Go Go.RowKit Go.Proofs Go.ChangeShapes Go.WideShapes Go.Deep

theorem IntT.row {α : Type} {P : Program} {t : TypeId} {k : Nat} {f : α → List Value} {mk : (Nat → Int) → α} (h : IntT P t) (hc : P.cellsOf t = k) (hmk : ∀ N : Nat → Int, f (mk N) = (List.range k).map fun j => Value.int .i64 (N j))
    {H : Type} {enc : TypeId × Value → H} {w : World} {base : Nat} {spare : Nat → Bool} {held : Bool} (fuel : Nat) (cs : List Value) (x : DataW H × List MemPlace) (hx : DataW.trod enc P w base spare held fuel t cs = some x) : ∃ y : α, cs = f y ∧ True := by
  obtain ⟨h1, h2⟩ := h _ _ _ _ _ _ _ _ _ hx
  have : ∃ N : Nat → Int, ∀ j, j < cs.length → cs[j]? = some (.int .i64 (N j)) := by
    refine ⟨fun j => match cs[j]? with | some (.int _ n) => n | _ => 0, fun j hj => ?_⟩
    obtain ⟨n, hn⟩ := h2 j hj
    simp [hn]
  obtain ⟨N, hN⟩ := this
  refine ⟨mk N, ?_, trivial⟩
  rw [hmk]
  apply List.ext_getElem?
  intro j
  by_cases hj : j < k
  · rw [hN j (by omega), List.getElem?_map, List.getElem?_range hj]; rfl
  · rw [List.getElem?_eq_none (by omega), List.getElem?_eq_none (by simp; omega)]
end Go.Ax


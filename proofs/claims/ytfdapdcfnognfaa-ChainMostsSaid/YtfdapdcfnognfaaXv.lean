import Derived.Test.YtfdapdcfnognfaaAxW4
import Derived.Test.YtfdapdcfnognfaaChecked
import Derived.Test.YtfdapdcfnognfaaXt
import Derived.Test.YtfdapdcfnognfaaXu
set_option linter.all false
namespace Go.Ax
open Go Go.RowKit Go.Proofs
theorem N5 : Try.f5.ntmps = 58 := by kernel_rfl
theorem Z5 : Try.f5.results.toList = ((List.toArray [(.tmp 10)]) : Array ResultVar).toList := by kernel_rfl
theorem B5 : Try.f5.body = some (at_ Try.f5 []) := by kernel_rfl
noncomputable def R5 : RC := (.seq (.reg [⟨(some 5), none, (.box 25 (.tmp 0))⟩, ⟨(some 10), none, (.mov (.const (.bool false)))⟩])
  (.seq (.seq (.reg [⟨(some 15), none, (.mov (.tmp 2))⟩, ⟨(some 16), none, (.call ⟨(.value (.func 24)), (List.toArray [(.tmp 15), (.const (.int .i64 12))]), (List.toArray [47, 3])⟩ true)⟩, ⟨(some 17), none, (.mov (.tmp 16))⟩, ⟨(some 18), (some (17, false)), (.lda (.tmp 5) 2)⟩, ⟨(some 19), (some (17, false)), (.mov (.tmp 1))⟩, ⟨(some 20), (some (17, false)), (.mov (.tmp 2))⟩, ⟨(some 21), (some (17, false)), (.call ⟨(.value (.func 14)), (List.toArray [(.tmp 18), (.tmp 19), (.tmp 20)]), (List.toArray [25, 26, 47])⟩ true)⟩, ⟨(some 22), none, (.pur ⟨(some 22), (.pick (.tmp 17) (.const (.bool true)) (.tmp 21)), 4, "", (List.toArray []), none⟩)⟩, ⟨(some 23), none, (.mov (.tmp 22))⟩, ⟨(some 24), (some (23, false)), (.mov (.tmp 3))⟩, ⟨(some 25), (some (23, false)), (.len (.tmp 24))⟩, ⟨(some 26), (some (23, false)), (.cmpb .gtr (.tmp 25) (.const (.int .i64 20)))⟩, ⟨(some 27), none, (.pur ⟨(some 27), (.pick (.tmp 23) (.const (.bool true)) (.tmp 26)), 4, "", (List.toArray []), none⟩)⟩])
  (.cond (.tmp 27) (.seq (.reg [⟨(some 28), none, (.call ⟨(.value (.func 15)), (List.toArray []), (List.toArray [])⟩ true)⟩, ⟨(some 10), none, (.mov (.tmp 28))⟩])
  .ret)
  .skip))
  (.seq (.reg [⟨(some 30), none, (.lda (.tmp 5) 2)⟩, ⟨(some 31), none, (.mov (.tmp 1))⟩, ⟨(some 32), none, (.mov (.tmp 2))⟩, ⟨(some 33), none, (.mov (.tmp 3))⟩, ⟨(some 34), none, (.mov (.tmp 4))⟩, ⟨(some 35), none, (.call ⟨(.value (.func 29)), (List.toArray [(.tmp 30), (.tmp 31), (.tmp 32), (.tmp 33), (.tmp 34)]), (List.toArray [25, 26, 47, 33, 3])⟩ true)⟩, ⟨(some 29), none, (.mov (.tmp 35))⟩, ⟨(some 36), none, (.pur ⟨(some 36), (.extract (.tmp 29) 0), 3, "", (List.toArray []), none⟩)⟩, ⟨(some 37), none, (.pur ⟨(some 37), (.extract (.tmp 29) 1), 38, "", (List.toArray []), none⟩)⟩, ⟨(some 11), none, (.mov (.tmp 36))⟩, ⟨(some 12), none, (.mov (.tmp 37))⟩])
  (.seq (.reg [⟨(some 39), none, (.lda (.tmp 5) 2)⟩, ⟨(some 40), none, (.mov (.tmp 1))⟩, ⟨(some 41), none, (.mov (.tmp 2))⟩, ⟨(some 42), none, (.mov (.tmp 3))⟩, ⟨(some 43), none, (.mov (.tmp 4))⟩, ⟨(some 44), none, (.call ⟨(.value (.func 30)), (List.toArray [(.tmp 39), (.tmp 40), (.tmp 41), (.tmp 42), (.tmp 43)]), (List.toArray [25, 26, 47, 33, 3])⟩ true)⟩, ⟨(some 38), none, (.mov (.tmp 44))⟩, ⟨(some 45), none, (.pur ⟨(some 45), (.extract (.tmp 38) 0), 3, "", (List.toArray []), none⟩)⟩, ⟨(some 46), none, (.pur ⟨(some 46), (.extract (.tmp 38) 1), 38, "", (List.toArray []), none⟩)⟩, ⟨(some 13), none, (.mov (.tmp 45))⟩, ⟨(some 14), none, (.mov (.tmp 46))⟩])
  (.seq (.reg [⟨(some 47), none, (.mov (.tmp 11))⟩, ⟨(some 48), none, (.mov (.tmp 13))⟩, ⟨(some 49), none, (.cmpb .eql (.tmp 47) (.tmp 48))⟩, ⟨(some 50), none, (.mov (.tmp 49))⟩, ⟨(some 51), (some (50, true)), (.mov (.tmp 12))⟩, ⟨(some 52), (some (50, true)), (.mov (.tmp 14))⟩, ⟨(some 53), (some (50, true)), (.cmpb .eql (.tmp 51) (.tmp 52))⟩, ⟨(some 54), none, (.pur ⟨(some 54), (.pick (.tmp 50) (.tmp 53) (.const (.bool false))), 4, "", (List.toArray []), none⟩)⟩, ⟨(some 55), none, (.mov (.tmp 54))⟩, ⟨(some 56), (some (55, true)), (.call ⟨(.value (.func 15)), (List.toArray []), (List.toArray [])⟩ true)⟩, ⟨(some 57), none, (.pur ⟨(some 57), (.pick (.tmp 55) (.tmp 56) (.const (.bool false))), 4, "", (List.toArray []), none⟩)⟩, ⟨(some 10), none, (.mov (.tmp 57))⟩])
  .ret)))))
theorem L5 : low Try.prog Try.f5.ntmps (at_ Try.f5 []) = some R5 := by kernel_rfl
end Go.Ax
namespace Go.Ax
open Go Go.RowKit Go.Proofs
noncomputable def R67x1t26 : RC := (.reg [⟨(some 26), none, (.mov (.tmp 2))⟩, ⟨(some 27), none, (.mov (.tmp 13))⟩, ⟨(some 28), none, (.idx (.tmp 26) (.tmp 27) 3)⟩, ⟨(some 29), none, (.lda (.tmp 28) 3)⟩, ⟨(some 14), none, (.alc 30 [(.slice none 0 0), (.slice none 0 0), (.slice none 0 0)])⟩, ⟨none, none, (.sta (.tmp 14) (.tmp 29) 3)⟩])
theorem L67x1t26 : low Try.prog 69 (at_ Try.f67 [1, 0, 1, 0, 0, 1, 0, 0, 0]) = some R67x1t26 := by kernel_rfl
noncomputable def R67x1t30 : RC := (.reg [⟨(some 30), none, (.mem ⟨(some 30), (.buildSlice 28 0 (List.toArray [])), 28, "", (List.toArray []), none⟩)⟩, ⟨(some 31), none, (.addo (.tmp 14) 2)⟩, ⟨(some 32), none, (.ld (.tmp 31) 1)⟩, ⟨(some 33), none, (.mem ⟨(some 33), (.call ⟨(.builtin .append), (List.toArray [(.tmp 30), (.tmp 32)]), (List.toArray [28, 28])⟩), 28, "", (List.toArray []), none⟩)⟩, ⟨(some 34), none, (.mov (.tmp 4))⟩, ⟨(some 35), none, (.mov (.tmp 5))⟩, ⟨(some 36), none, (.pur ⟨(some 36), (.build 86 (List.toArray [(0, (.tmp 34)), (1, (.tmp 35))])), 86, "", (List.toArray []), none⟩)⟩, ⟨(some 37), none, (.mem ⟨(some 37), (.buildSlice 28 1 (List.toArray [(0, (.tmp 36))])), 28, "", (List.toArray []), none⟩)⟩, ⟨(some 38), none, (.mem ⟨(some 38), (.call ⟨(.builtin .append), (List.toArray [(.tmp 33), (.tmp 37)]), (List.toArray [28, 28])⟩), 28, "", (List.toArray []), none⟩)⟩, ⟨(some 39), none, (.addo (.tmp 14) 2)⟩, ⟨none, none, (.st (.tmp 39) (.tmp 38))⟩])
theorem L67x1t30 : low Try.prog 69 (at_ Try.f67 [1, 0, 1, 0, 0, 1, 0, 0, 1, 0]) = some R67x1t30 := by kernel_rfl
noncomputable def R67x1t41 : RC := (.reg [⟨(some 41), none, (.lda (.tmp 6) 2)⟩, ⟨(some 42), none, (.mov (.tmp 1))⟩, ⟨(some 43), none, (.lda (.tmp 14) 3)⟩, ⟨(some 44), none, (.call ⟨(.value (.func 50)), (List.toArray [(.tmp 41), (.tmp 42), (.tmp 43)]), (List.toArray [25, 26, 30])⟩ true)⟩, ⟨(some 40), none, (.mov (.tmp 44))⟩, ⟨(some 45), none, (.pur ⟨(some 45), (.extract (.tmp 40) 0), 25, "", (List.toArray []), none⟩)⟩, ⟨(some 46), none, (.pur ⟨(some 46), (.extract (.tmp 40) 1), 26, "", (List.toArray []), none⟩)⟩, ⟨(some 47), none, (.pur ⟨(some 47), (.extract (.tmp 40) 2), 37, "", (List.toArray []), none⟩)⟩, ⟨(some 48), none, (.pur ⟨(some 48), (.extract (.tmp 40) 3), 4, "", (List.toArray []), none⟩)⟩, ⟨(some 15), none, (.alc 25 [(.slice none 0 0), (.slice none 0 0)])⟩, ⟨(some 17), none, (.alc 37 [(.int .i64 0), (.int .i64 0), (.int .i64 0), (.int .i64 0), (.int .i64 0), (.int .i64 0), (.int .i64 0), (.int .i64 0)])⟩, ⟨none, none, (.sta (.tmp 15) (.tmp 45) 2)⟩, ⟨(some 16), none, (.mov (.tmp 46))⟩, ⟨none, none, (.sta (.tmp 17) (.tmp 47) 8)⟩, ⟨(some 18), none, (.mov (.tmp 48))⟩])
theorem L67x1t41 : low Try.prog 69 (at_ Try.f67 [1, 0, 1, 0, 0, 1, 0, 0, 1, 1, 0]) = some R67x1t41 := by kernel_rfl
noncomputable def R67x1t49 : RC := (.seq (.reg [⟨(some 49), none, (.mov (.tmp 18))⟩, ⟨(some 50), none, (.pur ⟨(some 50), (.unOp .not 4 (.tmp 49)), 4, "", (List.toArray []), none⟩)⟩])
  (.cond (.tmp 50) (.seq (.reg [⟨(some 12), none, (.mov (.const (.bool false)))⟩])
  .ret)
  .skip))
theorem L67x1t49 : low Try.prog 69 (at_ Try.f67 [1, 0, 1, 0, 0, 1, 0, 0, 1, 1, 1, 0]) = some R67x1t49 := by kernel_rfl
noncomputable def R67x1t51 : RC := (.reg [⟨(some 51), none, (.lda (.tmp 15) 2)⟩, ⟨none, none, (.sta (.tmp 6) (.tmp 51) 2)⟩])
theorem L67x1t51 : low Try.prog 69 (at_ Try.f67 [1, 0, 1, 0, 0, 1, 0, 0, 1, 1, 1, 1, 0]) = some R67x1t51 := by kernel_rfl
noncomputable def R67x1t52 : RC := (.reg [⟨(some 52), none, (.mov (.tmp 16))⟩, ⟨(some 1), none, (.mov (.tmp 52))⟩])
theorem L67x1t52 : low Try.prog 69 (at_ Try.f67 [1, 0, 1, 0, 0, 1, 0, 0, 1, 1, 1, 1, 1, 0]) = some R67x1t52 := by kernel_rfl
noncomputable def R67x1e : RC := (.reg [⟨(some 24), none, (.mov (.tmp 13))⟩, ⟨(some 25), none, (.ari .add (.tmp 24) (.const (.int .i64 1)))⟩, ⟨(some 13), none, (.mov (.tmp 25))⟩])
theorem L67x1e : low Try.prog 69 (at_ Try.f67 [1, 0, 1, 0, 0, 1, 1]) = some R67x1e := by kernel_rfl
noncomputable def R67x1v : RC := (.seq (.seq (.reg [⟨(some 20), none, (.mov (.tmp 13))⟩, ⟨(some 21), none, (.mov (.tmp 2))⟩, ⟨(some 22), none, (.len (.tmp 21))⟩, ⟨(some 23), none, (.cmp .lss (.tmp 20) (.tmp 22))⟩])
  (.cond (.tmp 23) .skip
  (.exit 0)))
  (.seq (.block 1 (.seq (.other (at_ Try.f67 [1, 0, 1, 0, 0, 1, 0, 0, 0]))
  (.seq (.other (at_ Try.f67 [1, 0, 1, 0, 0, 1, 0, 0, 1, 0]))
  (.seq (.other (at_ Try.f67 [1, 0, 1, 0, 0, 1, 0, 0, 1, 1, 0]))
  (.seq (.other (at_ Try.f67 [1, 0, 1, 0, 0, 1, 0, 0, 1, 1, 1, 0]))
  (.seq (.other (at_ Try.f67 [1, 0, 1, 0, 0, 1, 0, 0, 1, 1, 1, 1, 0]))
  (.seq (.other (at_ Try.f67 [1, 0, 1, 0, 0, 1, 0, 0, 1, 1, 1, 1, 1, 0]))
  (.seq (.reg [⟨(some 19), none, (.mov (.const (.int .i64 0)))⟩])
  (.block 2 (.other (at_ Try.f67 [1, 0, 1, 0, 0, 1, 0, 0, 1, 1, 1, 1, 1, 1, 1, 0])))))))))))
  (.other (at_ Try.f67 [1, 0, 1, 0, 0, 1, 1]))))
theorem V67x1 : LT Try.prog 69 (at_ Try.f67 [1, 0, 1, 0, 0]) R67x1v := by
  have e : at_ Try.f67 [1, 0, 1, 0, 0] = (.seq (at_ Try.f67 [1, 0, 1, 0, 0, 0]) (.seq (.block 1 (.seq (at_ Try.f67 [1, 0, 1, 0, 0, 1, 0, 0, 0]) (.seq (at_ Try.f67 [1, 0, 1, 0, 0, 1, 0, 0, 1, 0]) (.seq (at_ Try.f67 [1, 0, 1, 0, 0, 1, 0, 0, 1, 1, 0]) (.seq (at_ Try.f67 [1, 0, 1, 0, 0, 1, 0, 0, 1, 1, 1, 0]) (.seq (at_ Try.f67 [1, 0, 1, 0, 0, 1, 0, 0, 1, 1, 1, 1, 0]) (.seq (at_ Try.f67 [1, 0, 1, 0, 0, 1, 0, 0, 1, 1, 1, 1, 1, 0]) (at_ Try.f67 [1, 0, 1, 0, 0, 1, 0, 0, 1, 1, 1, 1, 1, 1])))))))) (at_ Try.f67 [1, 0, 1, 0, 0, 1, 1]))) := by kernel_rfl
  rw [e]
  exact (.seq (.low (by kernel_rfl)) (.seq (.block 1 (.seq (.other _) (.seq (.other _) (.seq (.other _) (.seq (.other _) (.seq (.other _) (.seq (.other _) (.low (by kernel_rfl))))))))) (.other _)))

section
variable {kn : FuncId → Option Bool} {lo : Nat} {H : Hp}
theorem hour67 {S : Rg} {K : Exit → Rg → Hp → Prop} {x : Hr} {hs : List Hr} {lb ln lcap i : Nat} {v1 v3 v4 v5 v6 v12 : Value} (hl : Rd H lb (hrc hs)) (hx : hs[i]? = some x) (hi : i < ln) (hlo : lo ≤ H.next)
    (hS : Subs [(1, v1), (2, slv lb ln lcap), (3, v3), (4, v4), (5, v5), (6, v6), (13, iv i)] S)
    (hK : ∀ S' H' b14, Subs [(1, v1), (2, slv lb ln lcap), (3, v3), (4, v4), (5, v5), (6, v6), (13, iv i), (14, pt b14)] S' → Keep H H' [] → H.next ≤ b14 → Cl H' b14 x.v → K .normal S' H') :
    Tri Try.prog kn lo 69 false (at_ Try.f67 [1, 0, 1, 0, 0, 1, 0, 0, 0]) S H K := by
  refine tri_piece L67x1t26 hS ?_
  refine Exists.intro i (And.intro rfl (And.intro hi ?_))
  refine Exists.intro _ (Exists.intro _ (And.intro hl.of (And.intro (row_flat (f := Hr.v) (fun _ _ => rfl) hx) ?_)))
  intro H2 hH2
  obtain ⟨k2, n2, c2⟩ := new_facts hH2
  obtain ⟨_, e2, l2, g2⟩ := id c2
  refine Exists.intro _ (Exists.intro _ (Exists.intro _ (And.intro g2 (And.intro hlo (And.intro rfl (And.intro rfl (And.intro (by simp) ?_)))))))
  intro H3 hH3
  obtain ⟨k3, n3, c3⟩ := up_facts c2 hH3
  have c3 : Cl H3 H.next x.v := c3
  exact hK _ H3 H.next ⟨rfl, rfl, rfl, rfl, rfl, rfl, rfl, rfl, trivial⟩ (k2.new k3 (by simp)) (Nat.le_refl _) c3
theorem more67 {S : Rg} {K : Exit → Rg → Hp → Prop} {x : Hr} {b14 : Nat} {m : Tk} {v1 v2 v3 v6 v13 : Value} (c14 : Cl H b14 x.v) (ha : x.At H) (htn : x.tn ≤ 999) (hlo : lo ≤ H.next) (hlb : lo ≤ b14) (ob : ∀ b, x.ba = some ⟨b, 0, none⟩ → b ≠ b14) (oc : ∀ b, x.ca = some ⟨b, 0, none⟩ → b ≠ b14)
    (hS : Subs [(1, v1), (2, v2), (3, v3), (4, iv m.pond), (5, iv m.amount), (6, v6), (13, v13), (14, pt b14)] S)
    (hK : ∀ S' H' a cap, Subs [(1, v1), (2, v2), (3, v3), (4, iv m.pond), (5, iv m.amount), (6, v6), (13, v13), (14, pt b14)] S' → Keep H H' [b14] → Cl H' b14 (x.more m a cap).v → (x.more m a cap).At H' → K .normal S' H') :
    Tri Try.prog kn lo 69 false (at_ Try.f67 [1, 0, 1, 0, 0, 1, 0, 0, 1, 0]) S H K := by
  refine tri_piece L67x1t30 hS ?_
  have h14 := c14.lt
  obtain ⟨H1, hH1⟩ : ∃ H1, H.new (.cells [] 86 false) = H1 := ⟨_, rfl⟩
  refine And.intro rfl (Or.inr (And.intro rfl (Exists.intro _ (Exists.intro H1 (Exists.intro _ (And.intro ((heap_build0 se28 z86).trans (by rw [← hH1])) (And.intro (fun b e => by cases e) ?_)))))))
  have hg1 : H1.t.get H.next = some (.cells [] 86 false) := by
    rw [← hH1]; show (H.t.set H.next _).get H.next = _; rw [Tr.get_set, if_pos rfl]
  obtain ⟨k1, n1, c1⟩ := new_facts hH1
  have c14a := k1.cl c14 (by simp)
  have ha1 := ha.keep k1
  have hcase : ∃ v H2 kd, (∀ (n : Nat) (S : Rg) (d : Option Tmp) (p q : Operand) (ty : TypeId) (s : String), evS S p = some (.slice (some ⟨H.next, 0, none⟩) 0 0) → evS S q = some (.slice x.ta x.tn x.tcap) → heapOp Try.prog lo (frS n S) H1 ⟨d, .call ⟨.builtin .append, #[p, q], #[28, 28]⟩, ty, s, #[], none⟩ = some (.val v H2, kd)) ∧ (∀ b, kd = .read b → b < H1.next) ∧ Keep H1 H2 [] ∧
      ∀ H3, H2.new (.cells [iv m.pond, iv m.amount] 86 false) = H3 → ∃ a cap H4 kd, a = some ⟨H3.next, 0, none⟩ ∧ (∀ (n : Nat) (S : Rg) (d : Option Tmp) (p q : Operand) (ty : TypeId) (s : String), evS S p = some v → evS S q = some (.slice (some ⟨H2.next, 0, none⟩) 1 1) → heapOp Try.prog lo (frS n S) H3 ⟨d, .call ⟨.builtin .append, #[p, q], #[28, 28]⟩, ty, s, #[], none⟩ = some (.val (.slice a (x.tn + 1) cap) H4, kd)) ∧ (∀ b, kd = .read b → b < H3.next) ∧ Sl H4 a (x.tn + 1) cap (tkc (x.ts ++ [m])) ∧ Keep H H4 [] := by
    rcases Nat.eq_zero_or_pos x.tn with h0 | h0
    · have hts : x.ts = [] := List.eq_nil_of_length_eq_zero (by rw [ha.lt]; exact h0)
      have hst := ha1.t
      rw [h0, hts] at hst
      refine ⟨.slice (some ⟨H.next, 0, none⟩) 0 0, H1, .pure, fun n S d p q ty s hp hq => ?_, fun b e => (by cases e), Keep.refl _ _, fun H3 hH3 => ?_⟩
      · rw [h0] at hq
        exact heap_append_none se28 u28 hp hq hst rfl
      obtain ⟨k3, n3, c3⟩ := new_facts hH3
      have hg3 : H3.t.get H.next = some (.cells [] 86 false) := by rw [k3.2 _ c1.lt (by simp)]; exact hg1
      obtain ⟨H4, hH4⟩ : ∃ H4, H3.new (.cells [iv m.pond, iv m.amount] 86 true) = H4 := ⟨_, rfl⟩
      obtain ⟨k4, n4, c4⟩ := new_facts hH4
      refine ⟨some ⟨H3.next, 0, none⟩, 1, H4, .heavy, rfl, fun n S d p q ty s hp hq => ?_, fun b e => (by cases e), ?_, k1.trans (k3.trans k4)⟩
      · rw [h0, ← hH4]
        exact heap_append_empty (b0 := H.next) se28 u28 hg3 hp hq (.inr ⟨H1.next, rfl, c3.rd, Nat.le_refl _⟩) rfl (by omega) (by omega)
      · rw [h0, hts]
        exact .inr ⟨H3.next, rfl, c4.rd, Nat.le_refl _⟩
    · obtain ⟨H2, hH2⟩ : ∃ H2, H1.new (.cells (tkc x.ts) 86 true) = H2 := ⟨_, rfl⟩
      have hlen := tkc_len x.ts
      rw [ha.lt] at hlen
      obtain ⟨k2, n2, c2⟩ := new_facts hH2
      have hg2 : H2.t.get H1.next = some (.cells (tkc x.ts) 86 true) := by rw [← hH2]; show (H1.t.set H1.next _).get H1.next = _; rw [Tr.get_set, if_pos rfl]
      refine ⟨.slice (some ⟨H1.next, 0, none⟩) x.tn x.tn, H2, .heavy, fun n S d p q ty s hp hq => ?_, fun b e => (by cases e), k2, fun H3 hH3 => ?_⟩
      · rw [← hH2]
        exact heap_append_empty (b0 := H.next) se28 u28 hg1 hp hq ha1.t hlen (by omega) h0
      obtain ⟨k3, n3, c3⟩ := new_facts hH3
      have k13 := k2.trans k3
      have hg3 : H3.t.get H1.next = some (.cells (tkc x.ts) 86 true) := by rw [k3.2 _ c2.lt (by simp)]; exact hg2
      obtain ⟨H4, kd, happ, hkd, hacc, hkp⟩ := heap_append_one (lo := lo) (H := H3) (f := H.next) (k := x.tn) (v := .slice (some ⟨H1.next, 0, none⟩) x.tn x.tn) (cs := tkc x.ts) (news := [iv m.pond, iv m.amount]) (a := some ⟨H2.next, 0, none⟩) (cap2 := 1) se28 u28 (.inr ⟨H2.next, rfl, c3.rd, Nat.le_refl _⟩) rfl (by omega) rfl hlen (by omega)
        (.inr ⟨H1.next, rfl, h0, by omega, by omega, by have := k13.1; omega, hg3⟩) (by omega) (by omega)
      refine ⟨some ⟨H3.next, 0, none⟩, x.tn + 1, H4, kd, rfl, happ, ?_, ?_, hkp H rfl (k1.trans k13)⟩
      · rcases hkd with rfl | ⟨b, rfl, _⟩
        · intro b e; cases e
        · intro b e; cases e
      · rcases hacc with ⟨h, _⟩ | ⟨b, e, _, _, _, hb, hg⟩
        · omega
        · cases e
          refine .inr ⟨H3.next, rfl, ⟨hb, ?_⟩, Nat.le_refl _⟩
          unfold cellsOf; rw [hg, tkc_app]; rfl
  obtain ⟨v, H2, kd33, h33, hkd33, k2, hcase⟩ := hcase
  refine Exists.intro _ (Exists.intro _ (And.intro c14a.of (And.intro rfl ?_)))
  refine And.intro rfl (Or.inr (And.intro (by kernel_rfl) (Exists.intro v (Exists.intro H2 (Exists.intro kd33 (And.intro (h33 69 _ _ _ _ _ _ rfl rfl) (And.intro hkd33 ?_)))))))
  refine And.intro rfl (Exists.intro (.agg #[iv m.pond, iv m.amount]) (And.intro (by kernel_rfl) ?_))
  obtain ⟨H3, hH3⟩ : ∃ H3, H2.new (.cells [iv m.pond, iv m.amount] 86 false) = H3 := ⟨_, rfl⟩
  refine And.intro rfl (Or.inr (And.intro (by kernel_rfl) (Exists.intro (.slice (some ⟨H2.next, 0, none⟩) 1 1) (Exists.intro H3 (Exists.intro .heavy (And.intro ((heap_build1 (v := .agg #[iv m.pond, iv m.amount]) se28 z86 rfl rfl rfl (by decide)).trans (by rw [← hH3]; rfl)) (And.intro (fun b e => by cases e) ?_)))))))
  obtain ⟨a, cap, H4, kd, ea, happ, hkd, hsl, k4⟩ := hcase H3 hH3
  refine And.intro rfl (Or.inr (And.intro (by kernel_rfl) (Exists.intro (.slice a (x.tn + 1) cap) (Exists.intro H4 (Exists.intro kd (And.intro (happ 69 _ _ _ _ _ _ rfl rfl) (And.intro hkd ?_)))))))
  have c4 := k4.cl c14 (by simp)
  obtain ⟨_, e4, l4, g4⟩ := id c4
  refine Exists.intro _ (Exists.intro _ (Exists.intro _ (And.intro g4 (And.intro hlb (And.intro rfl (And.intro rfl (And.intro (by simp [Hr.v]) ?_)))))))
  intro H5 hH5
  obtain ⟨k5, n5, c5⟩ := up_facts c4 hH5
  have c5 : Cl H5 b14 (x.more m a cap).v := c5
  have ha4 := ha.keep k4
  have n3 : H3.next = H2.next + 1 := by rw [← hH3]; rfl
  have hne : H3.next ≠ b14 := by have := k1.1; have := k2.1; omega
  exact hK _ H5 a cap ⟨rfl, rfl, rfl, rfl, rfl, rfl, rfl, rfl, trivial⟩ ((k4.mono (by simp)).trans k5) c5 ⟨k5.sl ha4.b (fun b e => by simpa using ob b e), k5.sl ha4.c (fun b e => by simpa using oc b e), k5.sl hsl (fun b e => by rw [ea] at e; cases e; simpa using hne), ha.lb, ha.lc, by simp [Hr.more, ha.lt]⟩
end
end Go.Ax
namespace Go.Ax
open Go Go.RowKit Go.Proofs
section
variable {kn : FuncId → Option Bool} {lo : Nat} {H : Hp}
theorem pass67 {S : Rg} {K : Exit → Rg → Hp → Prop} {c : Ch} {x : Hr} {b6 b14 : Nat} {v2 v3 v4 v5 v13 : Value} (hc : c.At H) (v : c.Vd) (h6 : Rd H b6 [.slice c.pa c.pn c.pcap, .slice c.ga c.gn c.gcap]) (h14 : Rd H b14 x.v) (ha : x.At H) (hv : hourW x c.pn c.gn = true) (hlo : lo ≤ H.next)
    (hS : Subs [(1, c.wv), (2, v2), (3, v3), (4, v4), (5, v5), (6, pt b6), (13, v13), (14, pt b14)] S)
    (hK : ∀ S' H' ga' gcap' wa' wcap' b15, Subs [(2, v2), (3, v3), (4, v4), (5, v5), (6, pt b6), (13, v13), (15, pt b15), (16, .slice wa' c.pn wcap'), (18, .bool (sideB false x (boardsF x c.gs) (s0 false c)))] S' → Keep H H' [] → H.next ≤ b15 →
      Cl H' b15 [.slice c.pa c.pn c.pcap, .slice ga' c.gn gcap'] → Sl H' ga' c.gn gcap' (gtc (boardsF x c.gs)) →
      Sl H' wa' c.pn wcap' (spc ((hourF c false x c.gs (s0 false c)).ws.zip (hourF c true x c.gs (s0 true c)).ws)) → (∀ b, ga' = some ⟨b, 0, none⟩ → H.next ≤ b) → (∀ b, wa' = some ⟨b, 0, none⟩ → H.next ≤ b) → K .normal S' H') :
    Tri Try.prog kn lo 69 false (at_ Try.f67 [1, 0, 1, 0, 0, 1, 0, 0, 1, 1, 0]) S H K := by
  obtain ⟨ga', gcap', w, H1, f1, k1, own1, acc1, hcap, hsome⟩ := refpass_okW (kn := kn) (lo := lo) (H := H) hc v ha hv hlo
  obtain ⟨wa', wcap', rfl, slW, frW⟩ := acc1.sl
  have frG : ∀ b, ga' = some ⟨b, 0, none⟩ → H.next ≤ b := fun b e => by
    rcases own1 with ⟨e', _⟩ | ⟨b', e', hl', _⟩
    · rw [e'] at e; cases e
    · rw [e'] at e; cases e; exact hl'
  have m1 := k1.1
  refine tri_piece L67x1t41 hS ?_
  refine Exists.intro _ (Exists.intro _ (And.intro h6.of (And.intro (show row 2 _ _ = some [.slice c.pa c.pn c.pcap, .slice c.ga c.gn c.gcap] from rfl) ?_)))
  refine Exists.intro _ (Exists.intro _ (And.intro h14.of (And.intro (show row 3 _ _ = some x.v from rfl) ?_)))
  refine Exists.intro _ (Exists.intro _ (And.intro (callX_args f1) ?_))
  refine And.intro rfl (Exists.intro (chv c.pa c.pn c.pcap ga' c.gn gcap') (And.intro rfl ?_))
  refine And.intro rfl (Exists.intro (.slice wa' c.pn wcap') (And.intro rfl ?_))
  refine And.intro rfl (Exists.intro (.agg (flowsV (hourF c false x c.gs (s0 false c)) (hourF c true x c.gs (s0 true c))).toArray) (And.intro rfl ?_))
  refine And.intro rfl (Exists.intro (.bool (sideB false x (boardsF x c.gs) (s0 false c))) (And.intro rfl ?_))
  intro H2 hH2; obtain ⟨k2, n2, c2⟩ := new_facts hH2; clear hH2
  intro H3 hH3; obtain ⟨k3, n3, c3⟩ := new_facts hH3; clear hH3
  have c2 := k3.cl c2 (by simp)
  obtain ⟨_, e4, l4, g4⟩ := id c2
  refine Exists.intro _ (Exists.intro _ (Exists.intro _ (And.intro g4 (And.intro (by omega) (And.intro rfl (And.intro rfl (And.intro (by simp) ?_)))))))
  intro H4 hH4; obtain ⟨k4, n4, c4⟩ := up_facts c2 hH4; clear hH4
  have c4 : Cl H4 H1.next [.slice c.pa c.pn c.pcap, .slice ga' c.gn gcap'] := c4
  have c3 := k4.cl c3 (by simp; omega)
  obtain ⟨_, e5, l5, g5⟩ := id c3
  refine Exists.intro _ (Exists.intro _ (Exists.intro _ (And.intro g5 (And.intro (by omega) (And.intro rfl (And.intro rfl (And.intro (by simp) ?_)))))))
  intro H5 hH5; obtain ⟨k5, n5, c5⟩ := up_facts c3 hH5; clear hH5
  have c4 := k5.cl c4 (by simp; omega)
  have k15 : Keep H1 H5 [] := (((k2.trans k3).new k4 (fun b hb => .inr (by simp at hb; omega)))).new k5 (fun b hb => .inr (by simp at hb; omega))
  exact hK _ _ ga' gcap' wa' wcap' H1.next ⟨rfl, rfl, rfl, rfl, rfl, rfl, rfl, rfl, rfl, trivial⟩ (k1.trans k15) (by omega) c4 ((own1.keep k15 (fun b e => by simp)).sl hcap hsome) (k15.sl0 slW) frG frW
theorem all67 {S : Rg} {K : Exit → Rg → Hp → Prop} {t : Bool} {v2 v3 v4 v5 v6 v13 v15 v16 : Value}
    (hS : Subs [(2, v2), (3, v3), (4, v4), (5, v5), (6, v6), (13, v13), (15, v15), (16, v16), (18, .bool t)] S)
    (hR : ∀ S', t = false → lk S' 12 = some (.bool false) → K .ret S' H)
    (hK : ∀ S', t = true → Subs [(2, v2), (3, v3), (4, v4), (5, v5), (6, v6), (13, v13), (15, v15), (16, v16)] S' → K .normal S' H) :
    Tri Try.prog kn lo 69 false (at_ Try.f67 [1, 0, 1, 0, 0, 1, 0, 0, 1, 1, 1, 0]) S H K := by
  refine tri_piece L67x1t49 hS ?_
  refine And.intro rfl (Exists.intro (.bool (!t)) (And.intro rfl ?_))
  cases t
  · refine condT ?_
    exact hR _ rfl rfl
  · refine condF ?_
    exact hK _ rfl ⟨rfl, rfl, rfl, rfl, rfl, rfl, rfl, rfl, trivial⟩
theorem st67 {S : Rg} {K : Exit → Rg → Hp → Prop} {b6 b15 : Nat} {u1 u2 p g v2 v3 v4 v5 v13 v16 : Value} (c6 : Cl H b6 [u1, u2]) (c15 : Rd H b15 [p, g]) (hl : lo ≤ b6) (o1 : one p = true) (o2 : one g = true)
    (hS : Subs [(2, v2), (3, v3), (4, v4), (5, v5), (6, pt b6), (13, v13), (15, pt b15), (16, v16)] S)
    (hK : ∀ S' H', Subs [(2, v2), (3, v3), (4, v4), (5, v5), (6, pt b6), (13, v13), (16, v16)] S' → Keep H H' [b6] → Cl H' b6 [p, g] → K .normal S' H') :
    Tri Try.prog kn lo 69 false (at_ Try.f67 [1, 0, 1, 0, 0, 1, 0, 0, 1, 1, 1, 1, 0]) S H K := by
  refine tri_piece L67x1t51 hS ?_
  refine Exists.intro _ (Exists.intro _ (And.intro c15.of (And.intro (show row 2 _ _ = some [p, g] from rfl) ?_)))
  obtain ⟨_, e4, l4, g4⟩ := id c6
  refine Exists.intro _ (Exists.intro _ (Exists.intro _ (And.intro g4 (And.intro hl (And.intro rfl (And.intro (by show ([p, g] : List Value).all one = true; simp [o1, o2]) (And.intro (by simp) ?_)))))))
  intro H4 hH4; obtain ⟨k4, n4, c4⟩ := up_facts c6 hH4; clear hH4
  exact hK _ _ ⟨rfl, rfl, rfl, rfl, rfl, rfl, rfl, trivial⟩ k4 c4
theorem mv67 {S : Rg} {K : Exit → Rg → Hp → Prop} {v2 v3 v4 v5 v6 v13 v16 : Value}
    (hS : Subs [(2, v2), (3, v3), (4, v4), (5, v5), (6, v6), (13, v13), (16, v16)] S)
    (hK : ∀ S', Subs [(1, v16), (2, v2), (3, v3), (4, v4), (5, v5), (6, v6), (13, v13)] S' → K .normal S' H) :
    Tri Try.prog kn lo 69 false (at_ Try.f67 [1, 0, 1, 0, 0, 1, 0, 0, 1, 1, 1, 1, 1, 0]) S H K := by
  refine tri_piece L67x1t52 hS ?_
  exact hK _ ⟨rfl, rfl, rfl, rfl, rfl, rfl, rfl, trivial⟩
theorem in67 {S : Rg} {K : Exit → Rg → Hp → Prop} {n wcap mcap : Nat} {wa ma : Option Addr} {l : List (Int × Int)} {ms : List Int} {v2 v4 v5 v6 v13 : Value} (hw : Sl H wa n wcap (spc l)) (hm : Sl H ma n mcap (ints ms)) (hl : l.length = n) (hms : ms.length = n) (hn : n ≤ 1000)
    (hS : Subs [(19, iv ((0 : Nat) : Int)), (1, .slice wa n wcap), (2, v2), (3, .slice ma n mcap), (4, v4), (5, v5), (6, v6), (13, v13)] S)
    (hR : ∀ S' (p : Nat), firstB (l.map Prod.fst) ms 0 = some p → lk S' 12 = some (.bool false) → K .ret S' H)
    (hK : ∀ S', firstB (l.map Prod.fst) ms 0 = none → Subs [(1, .slice wa n wcap), (2, v2), (3, .slice ma n mcap), (4, v4), (5, v5), (6, v6), (13, v13)] S' → K (.exit 2) S' H) :
    Tri Try.prog kn lo 69 false (at_ Try.f67 [1, 0, 1, 0, 0, 1, 0, 0, 1, 1, 1, 1, 1, 1, 1, 0]) S H K := by
  refine loop_low (fn := Try.f67) E67_2 N67 L67x2 (fun i : Nat => [(19, iv (i : Int)), (1, .slice wa n wcap), (2, v2), (3, .slice ma n mcap), (4, v4), (5, v5), (6, v6), (13, v13)])
    (fun k i H' => i + k = n ∧ H' = H ∧ firstB (l.map Prod.fst) ms 0 = firstB ((l.map Prod.fst).drop i) (ms.drop i) i) n 0 ⟨by omega, rfl, rfl⟩ hS ?_
  rintro k i H' ⟨hik, rfl, hfb⟩
  refine And.intro (fun hlt => ?_) (fun hge => ?_)
  · have hi : i < n := by simpa using hlt
    rcases hw with ⟨_, h0, _⟩ | ⟨b1, rfl, r1, _⟩
    · omega
    rcases hm with ⟨_, h0, _⟩ | ⟨b2, rfl, r2, _⟩
    · omega
    obtain ⟨x, hx⟩ := get_some (l := l) (i := i) (by omega)
    obtain ⟨y, hy⟩ := get_some (l := ms) (i := i) (by omega)
    have hd := firstB_drop (l.map Prod.fst) ms i (by simp; omega)
    rw [show (l.map Prod.fst).getD i 0 = x.1 by simp [List.getD, hx], show ms.getD i 0 = y by simp [List.getD, hy]] at hd
    refine Exists.intro i (And.intro rfl (And.intro hi ?_))
    refine Exists.intro _ (Exists.intro _ (And.intro r1.of (And.intro (show _ = some (iv x.1) from row_get (row_flat (f := fun s : Int × Int => [iv s.1, iv s.2]) (fun _ _ => rfl) hx) (j := 0) rfl) (And.intro r1.lt ?_))))
    refine Exists.intro i (And.intro rfl (And.intro hi ?_))
    refine Exists.intro _ (Exists.intro _ (And.intro r2.of (And.intro (show _ = some (iv y) by rw [Nat.zero_add, Nat.mul_one, ints_get (by omega), getD_of hy]) (And.intro r2.lt ?_))))
    refine And.intro (by repeat' first | exact True.intro | exact (fun h => h) | refine And.intro ?_ ?_) ?_
    refine And.intro (fun w => ?_) (fun w => ?_)
    · have w : x.1 < y := by simpa using w
      rw [if_pos w] at hd
      exact hR _ i (hfb.trans hd) rfl
    · have w : ¬ x.1 < y := by simpa using w
      rw [if_neg w] at hd
      refine And.intro ⟨by omega, by omega⟩ ?_
      exact ⟨k - 1, i + 1, by omega, ⟨by omega, rfl, hfb.trans hd⟩, rfl, rfl, rfl, rfl, rfl, rfl, rfl, rfl, trivial⟩
  · have hi : ¬ i < n := by simpa using hge
    refine hK _ (hfb.trans ?_) ⟨rfl, rfl, rfl, rfl, rfl, rfl, rfl, trivial⟩
    rw [List.drop_eq_nil_of_le (by simp; omega)]; rfl
end
end Go.Ax
namespace Go.Ax
open Go Go.RowKit Go.Proofs
/-- An hour with one more take, by plain data. -/
def Hr.plus (h : Hr) (m : Tk) : Hr := { h with ts := h.ts ++ [m] }
theorem plus_B {h : Hr} {pn gn : Nat} {m : Tk} (hv : hourB h pn gn = true) (h1 : indexB m.pond pn = true) (h2 : waterB m.amount = true) : hourB (h.plus m) pn gn = true := by
  simp only [hourB, Bool.and_eq_true] at hv
  obtain ⟨⟨⟨⟨⟨v1, v2⟩, v3⟩, v4⟩, v5⟩, v6⟩ := hv
  simp only [hourB, Hr.plus, Bool.and_eq_true]
  refine ⟨⟨⟨⟨⟨v1, v2⟩, v3⟩, v4⟩, v5⟩, ?_⟩
  rw [List.all_append, v6]; simp [h1, h2]
theorem sat_all : ∀ (l : List Tk) (s : St), satB l s = allS l s
  | [], _ => rfl
  | t :: r, s => by
    simp only [satB, allS, sat_all r]
    congr 1
    unfold takeL
    by_cases h : t.amount ≤ s.ws.getD t.pond.toNat 0
    · rw [Int.min_eq_left h, decide_eq_true h]; exact (beq_self_eq_true _).symm
    · have : min t.amount (s.ws.getD t.pond.toNat 0) ≠ t.amount := by omega
      rw [decide_eq_false h]; exact (beq_eq_false_iff_ne.2 this).symm
theorem allS_plus (u : St) : ∀ (l : List Tk) (s : St), allS l (s.plus u) = allS l s
  | [], _ => rfl
  | t :: r, s => by
    simp only [allS, take_plus, allS_plus u r]; rfl
theorem satF_side {c : Ch} {h : Hr} {m : Tk} {gs : List Gt} {s : St} : satF c false (h.more m none 0) gs s = sideB false (h.plus m) (boardsF h gs) ⟨s.ws, 0, 0, 0, 0⟩ := by
  unfold satF sideB
  rw [sat_all]
  have e : s = (⟨s.ws, 0, 0, 0, 0⟩ : St).plus s := by simp [St.plus]
  unfold gatesS comesS
  conv => lhs; rw [e]
  rw [fold_plus (fun s u p => come_plus s u p), fold_plus (fun s u p => flow_plus s u p), allS_plus]
  rfl

section
variable {kn : FuncId → Option Bool} {lo : Nat} {F H : Hp}
theorem run67_loop {S : Rg} {K : Exit → Rg → Hp → Prop} {c : Ch} {hs : List Hr} {ms : List Int} {m : Tk} {b6 ln lcap mcap : Nat} {la ma : Option Addr} {w0 : RW} (v : c.Vd) (hp : Sl F c.pa c.pn c.pcap (pdc c.ponds)) (hl : Sl F la ln lcap (hrc hs)) (hm : Sl F ma c.pn mcap (ints ms)) (hms : ms.length = c.pn) (hln : hs.length = ln) (ha : ∀ h ∈ hs, h.At F) (hh : ∀ h ∈ hs, hourB h c.pn c.gn = true) (hln2 : ln ≤ 200) (hlo : lo ≤ F.next) (m1 : indexB m.pond c.pn = true) (m2 : waterB m.amount = true)
    (l6 : F.next ≤ b6) (hF : Keep F H [])
    (h6 : Cl H b6 [.slice c.pa c.pn c.pcap, .slice w0.ga c.gn w0.gcap]) (hg : Sl H w0.ga c.gn w0.gcap (gtc c.gs)) (hw : Sl H w0.wa c.wn w0.wcap (spc c.ss))
    (hss : (foG false c (hs.map (·.plus m)) 0).2.ws.zip (foG true c (hs.map (·.plus m)) 0).2.ws = c.ss) (h0 : w0.i = 0)
    (hS : Subs [(1, .slice w0.wa c.wn w0.wcap), (2, .slice la ln lcap), (3, .slice ma c.pn mcap), (4, iv m.pond), (5, iv m.amount), (6, pt b6), (13, iv w0.i)] S)
    (hR : ∀ S' H', goGo c ms m c.gs (s0 false c) hs = false → lk S' 12 = some (.bool false) → Keep F H' [] → K .ret S' H')
    (hK : ∀ S' H', goGo c ms m c.gs (s0 false c) hs = true → Keep F H' [] → K (.exit 0) S' H') :
    Tri Try.prog kn lo 69 false (at_ Try.f67 [1, 0, 1, 0]) S H K := by
  obtain ⟨ps, hps⟩ : ∃ ps, hs.map (·.plus m) = ps := ⟨_, rfl⟩
  rw [hps] at hss
  have hcl : ∀ h ∈ ps, h.cs.length = h.cn := fun h hm' => by
    rw [← hps] at hm'
    obtain ⟨x, hx, rfl⟩ := List.mem_map.1 hm'
    exact (ha x hx).lc
  have hhp : ∀ h ∈ ps, hourB h c.pn c.gn = true := fun h hm' => by
    rw [← hps] at hm'
    obtain ⟨x, hx, rfl⟩ := List.mem_map.1 hm'
    exact plus_B (hh x hx) m1 m2
  refine loop_lt E67_1 V67x1 (fun w : RW => [(1, .slice w.wa c.wn w.wcap), (2, .slice la ln lcap), (3, .slice ma c.pn mcap), (4, iv m.pond), (5, iv m.amount), (6, pt b6), (13, iv w.i)])
    (fun k w H' => w.i + k = ln ∧ Keep F H' [] ∧ Cl H' b6 [.slice c.pa c.pn c.pcap, .slice w.ga c.gn w.gcap] ∧ Sl H' w.ga c.gn w.gcap (gtc (foG false c ps w.i).1) ∧
      Sl H' w.wa c.wn w.wcap (spc ((foG false c ps w.i).2.ws.zip (foG true c ps w.i).2.ws)) ∧ goGo c ms m c.gs (s0 false c) hs = goGo c ms m (foG false c ps w.i).1 (foG false c ps w.i).2 (hs.drop w.i)) ln w0 ⟨by omega, hF, h6, by rw [h0]; exact hg, by rw [h0, hss]; exact hw, by rw [h0]; rfl⟩ hS ?_
  rintro k ⟨ga, gcap, wa, wcap, i⟩ H2 ⟨hik, hk, c6, sg, sw, hgo⟩
  simp only at hik c6 sg sw hgo
  refine And.intro (fun hlt => ?_) (fun hge => ?_)
  · have hi : i < ln := by simpa using hlt
    have hl2 := hk.sl0 hl
    rcases hl2 with ⟨_, h0, _⟩ | ⟨lb, rfl, hlc, _⟩
    · omega
    obtain ⟨x, hx⟩ := get_some (l := hs) (i := i) (by omega)
    have hxm := List.mem_of_getElem? hx
    have hxp : ps[i]? = some (x.plus m) := by rw [← hps]; simp [hx]
    have hkn := hk.1
    have hwp := v.wp
    have h16 := v.h16
    have lt6 := c6.lt
    have hax := ha x hxm
    have htn : x.tn ≤ 999 := by have := hh x hxm; simp [hourB] at this; omega
    refine hour67 hlc hx hi (by omega) (v1 := .slice wa c.wn wcap) (v3 := .slice ma c.pn mcap) (v4 := iv m.pond) (v5 := iv m.amount) (v6 := pt b6) (v12 := unit) ⟨rfl, rfl, rfl, rfl, rfl, rfl, rfl, trivial⟩ ?_
    intro Sa Ha b14 hSa ka l14 c14
    have hna := ka.1
    refine more67 (m := m) c14 ((hax.keep hk).keep ka) htn (by omega) (by omega) (fun b e => by have := hax.b.lt b e; omega) (fun b e => by have := hax.c.lt b e; omega) hSa ?_
    intro Sb Hb a cap hSb kb cb hab
    have hnb := kb.1
    have k2b : Keep H2 Hb [] := ka.new kb (fun b hb => .inr (by simp at hb; omega))
    have kFb := hk.trans k2b
    have vd := after_vd v hhp hcl (i := i) (by omega) ga gcap wa wcap
    have hci : (c.after ps i ga gcap wa wcap).At Hb := ⟨kFb.sl0 hp, k2b.sl0 sg, k2b.sl0 sw, vd.lp, vd.lg, vd.lw⟩
    have c6b := k2b.cl c6 (by simp)
    refine pass67 (c := c.after ps i ga gcap wa wcap) (x := x.more m a cap) (b6 := b6) (b14 := b14) hci vd c6b.rd cb.rd hab (more_W (hh x hxm) m1 m2) (by omega) hSb ?_
    intro S3 H3 ga' gcap' wa' wcap' b15 hS3 k3 l15 c15 sg' sw' fg fw
    have hn3 := k3.1
    have c6' := k3.cl c6b (by simp)
    have e1 := foG_plus (g := false) (c := c) hxp
    have e2 := foG_plus (g := true) (c := c) hxp
    have e5 := foG_step (g := false) (c := c) hxp
    have a1 := (fo_ahead v hhp hcl false (i + 1) (by omega)).1.len
    have a2 := (fo_ahead v hhp hcl true (i + 1) (by omega)).1.len
    have hlen : (foG false c ps i).2.ws.length = (foG true c ps i).2.ws.length := by
      rw [(fo_ahead v hhp hcl false i (by omega)).1.len, (fo_ahead v hhp hcl true i (by omega)).1.len]
    obtain ⟨z1, z2⟩ := endS_zip _ _ hlen
    have y1 : hourF (c.after ps i ga gcap wa wcap) false (x.more m a cap) (c.after ps i ga gcap wa wcap).gs (s0 false (c.after ps i ga gcap wa wcap)) = hourF c false (x.plus m) (foG false c ps i).1 ⟨(foG false c ps i).2.ws, 0, 0, 0, 0⟩ := by
      show hourF c false (x.plus m) (foG false c ps i).1 ⟨endS false ((foG false c ps i).2.ws.zip (foG true c ps i).2.ws), 0, 0, 0, 0⟩ = _
      rw [z1]
    have y2 : hourF (c.after ps i ga gcap wa wcap) true (x.more m a cap) (c.after ps i ga gcap wa wcap).gs (s0 true (c.after ps i ga gcap wa wcap)) = hourF c true (x.plus m) (foG true c ps i).1 ⟨(foG true c ps i).2.ws, 0, 0, 0, 0⟩ := by
      show hourF c true (x.plus m) (foG false c ps i).1 ⟨endS true ((foG false c ps i).2.ws.zip (foG true c ps i).2.ws), 0, 0, 0, 0⟩ = _
      rw [z2, foG_gates]
    have yb : sideB false (x.more m a cap) (boardsF (x.more m a cap) (c.after ps i ga gcap wa wcap).gs) (s0 false (c.after ps i ga gcap wa wcap)) = satF c false (x.more m none 0) (foG false c ps i).1 (foG false c ps i).2 := by
      rw [satF_side]
      show sideB false (x.plus m) (boardsF x (foG false c ps i).1) ⟨endS false ((foG false c ps i).2.ws.zip (foG true c ps i).2.ws), 0, 0, 0, 0⟩ = _
      rw [z1]
    have w1 : (foG false c ps (i + 1)).2.ws = (hourF c false (x.plus m) (foG false c ps i).1 ⟨(foG false c ps i).2.ws, 0, 0, 0, 0⟩).ws := by rw [e1]; rfl
    have w2 : (foG true c ps (i + 1)).2.ws = (hourF c true (x.plus m) (foG true c ps i).1 ⟨(foG true c ps i).2.ws, 0, 0, 0, 0⟩).ws := by rw [e2]; rfl
    rw [y1, y2, ← w1, ← w2] at sw'
    have y3 : boardsF (x.more m a cap) (c.after ps i ga gcap wa wcap).gs = (foG false c ps (i + 1)).1 := by rw [e5]; rfl
    rw [y3] at sg'
    rw [yb] at hS3
    have hg1 := goGo_drop (c := c) (ms := ms) (m := m) (gs := (foG false c ps i).1) (s := (foG false c ps i).2) hx
    rw [show hourF c false (x.more m none 0) (foG false c ps i).1 (foG false c ps i).2 = (foG false c ps (i + 1)).2 by rw [e5]; rfl, show boardsF x (foG false c ps i).1 = (foG false c ps (i + 1)).1 by rw [e5]; rfl] at hg1
    have hz : ((foG false c ps (i + 1)).2.ws.zip (foG true c ps (i + 1)).2.ws).map Prod.fst = (foG false c ps (i + 1)).2.ws := (endS_zip _ _ (by omega)).1
    have hzl : ((foG false c ps (i + 1)).2.ws.zip (foG true c ps (i + 1)).2.ws).length = c.pn := by rw [List.length_zip, a1, a2, v.lp]; omega
    refine all67 hS3 ?_ ?_
    · intro S4 ht h12
      rw [ht, Bool.false_and] at hg1
      exact hR S4 H3 (hgo.trans hg1) h12 (kFb.trans k3)
    intro S4 ht hS4
    rw [ht, Bool.true_and] at hg1
    refine st67 c6' c15.rd (by omega) rfl rfl hS4 ?_
    intro S5 H4 hS5 k4 c4
    have m4 := k4.1
    refine mv67 hS5 ?_
    intro S6 hS6
    obtain ⟨d1, d2, d3, d4, d5, d6, d13, _⟩ := hS6
    have kf : Keep F H4 [] := (kFb.trans k3).new k4 (fun b hb => .inr (by simp at hb; omega))
    have sw4 := k4.sl sw' (fun b e => by have := fw b e; simp; omega)
    have sg4 := k4.sl sg' (fun b e => by have := fg b e; simp; omega)
    refine in67 (S := (19, iv ((0 : Nat) : Int)) :: S6) (n := c.pn) (wa := wa') (wcap := wcap') (ma := ma) (mcap := mcap) (l := (foG false c ps (i + 1)).2.ws.zip (foG true c ps (i + 1)).2.ws) (ms := ms) (v2 := slv lb ln lcap) (v4 := iv m.pond) (v5 := iv m.amount) (v6 := pt b6) (v13 := iv i) sw4 (kf.sl0 hm) hzl hms (by omega) ⟨rfl, d1, d2, d3, d4, d5, d6, d13, trivial⟩ ?_ ?_
    · intro S7 p hfb h12
      rw [hz] at hfb
      rw [hfb] at hg1
      exact hR S7 H4 (hgo.trans hg1) h12 kf
    · intro S7 hfb hS7
      rw [hz] at hfb
      rw [hfb] at hg1
      obtain ⟨f1, f2, f3, f4, f5, f6, f13, _⟩ := hS7
      refine tri_piece (S0 := [(1, .slice wa' c.pn wcap'), (2, slv lb ln lcap), (3, .slice ma c.pn mcap), (4, iv m.pond), (5, iv m.amount), (6, pt b6), (13, iv i)]) L67x1e ⟨f1, f2, f3, f4, f5, f6, f13, trivial⟩ ?_
      refine And.intro ⟨by omega, by omega⟩ ?_
      refine ⟨k - 1, ⟨ga', gcap', wa', wcap', i + 1⟩, by omega, ⟨by simp only; omega, kf, c4, sg4, ?_, hgo.trans hg1⟩, by show some (Value.slice wa' c.pn wcap') = some (Value.slice wa' c.wn wcap'); rw [hwp], rfl, rfl, rfl, rfl, rfl, rfl, trivial⟩
      show Sl H4 wa' c.wn wcap' _
      rw [hwp]; exact sw4
  · have hi : ¬ i < ln := by simpa using hge
    have hl : i = ln := by omega
    subst hl
    refine hK _ _ (hgo.trans ?_) hk
    rw [List.drop_eq_nil_of_le (by omega)]; rfl

/-- the document's goes -/
theorem refgoes_ok {c : Ch} {hs : List Hr} {ms : List Int} {m : Tk} {ln lcap mcap : Nat} {la ma : Option Addr} (hc : c.At H) (v : c.Vd) (hl : Sl H la ln lcap (hrc hs)) (hm : Sl H ma c.pn mcap (ints ms)) (hms : ms.length = c.pn) (hln : hs.length = ln) (ha : ∀ h ∈ hs, h.At H) (hh : ∀ h ∈ hs, hourB h c.pn c.gn = true) (hln2 : ln ≤ 200) (hlo : lo ≤ H.next) (m1 : indexB m.pond c.pn = true) (m2 : waterB m.amount = true) :
    ∃ H', FnX Try.prog kn lo 67 [c.cv, c.wv, .slice la ln lcap, .slice ma c.pn mcap, iv m.pond, iv m.amount] H (.bool (goGo c ms m c.gs (s0 false c) hs)) H' ∧ Keep H H' [] := by
  have key := fnX_low (kn := kn) (lo := lo) (H := H) (args := [c.cv, c.wv, .slice la ln lcap, .slice ma c.pn mcap, iv m.pond, iv m.amount]) (Q := fun w H' => w = .bool (goGo c ms m c.gs (s0 false c) hs) ∧ Keep H H' []) Try.func67 B67 N67 Z67 L67 (by simp) ?_
  · obtain ⟨v, H', h, rfl, k⟩ := key; exact ⟨H', h, k⟩
  intro H1 hH1; obtain ⟨k1, n1, c1⟩ := new_facts hH1; clear hH1
  have c1 : Cl H1 H.next [.slice c.pa c.pn c.pcap, .slice c.ga c.gn c.gcap] := c1
  have hc1 := hc.keep k1
  refine run67_loop (F := H) (c := c) (hs := hs) (ms := ms) (m := m) (b6 := H.next) (ma := ma) (mcap := mcap) (w0 := ⟨c.ga, c.gcap, c.wa, c.wcap, 0⟩) v hc.p hl hm hms hln ha hh hln2 hlo m1 m2 (Nat.le_refl _) k1 c1 hc1.g hc1.w (zip_self _) rfl ⟨rfl, rfl, rfl, rfl, rfl, rfl, rfl, trivial⟩ ?_ ?_
  · intro S' H' hgo h12 k
    refine And.intro trivial (Exists.intro [.bool false] (And.intro ?_ ⟨by rw [hgo]; rfl, k⟩))
    show resS Try.prog S' _ [.tmp 12] = _
    simp only [resS, h12]
  · intro S' H' hgo k
    exact And.intro trivial (Exists.intro _ (And.intro rfl ⟨by rw [hgo]; rfl, k⟩))
end
end Go.Ax
namespace Go.Ax
open Go Go.RowKit Go.Proofs
theorem in_index {x : Int} {n : Nat} : inB x 0 ((n : Int) - 1) = indexB x n := by
  unfold inB indexB
  by_cases h1 : 0 ≤ x
  · by_cases h2 : x < (n : Int)
    · rw [decide_eq_true h1, decide_eq_true (show x ≤ (n : Int) - 1 by omega), decide_eq_true h2]
    · rw [decide_eq_true h1, decide_eq_false (show ¬ x ≤ (n : Int) - 1 by omega), decide_eq_false h2]
  · rw [decide_eq_false h1]; simp

section
variable {kn : FuncId → Option Bool} {lo : Nat} {H : Hp}
theorem refmost_ok {q : MQ} (hq : q.At H) (hh : ∀ h ∈ q.hs, h.bn ≤ 1000 ∧ h.cn ≤ 1000 ∧ h.tn ≤ 1000) (hpn : q.c.pn ≤ 1000) (hgn : q.c.gn ≤ 1000) (hlo : lo ≤ H.next) :
    ∃ n e H', FnX Try.prog kn lo 30 [q.c.cv, q.c.wv, .slice q.la q.ln q.lcap, .slice q.ma q.mn q.mcap, iv q.pond] H (.tuple #[iv n, iv e]) H' ∧ Keep H H' [] ∧ q.res n e := by
  have key := fnX_low (kn := kn) (lo := lo) (H := H) (args := [q.c.cv, q.c.wv, .slice q.la q.ln q.lcap, .slice q.ma q.mn q.mcap, iv q.pond]) (Q := fun v H' => ∃ n e, v = .tuple #[iv n, iv e] ∧ Keep H H' [] ∧ q.res n e) Try.func30 B30 N30 Z30 L30 (by simp) ?_
  · obtain ⟨v, H', h, n, e, rfl, k⟩ := key; exact ⟨n, e, H', h, k⟩
  intro H1 hH1; obtain ⟨k1, n1, c1⟩ := new_facts hH1; clear hH1
  have c1 : Cl H1 H.next [.slice q.c.pa q.c.pn q.c.pcap, .slice q.c.ga q.c.gn q.c.gcap] := c1
  have hq1 := hq.keep k1
  have m1 := k1.1
  refine Exists.intro _ (Exists.intro _ (And.intro c1.of (And.intro (show row 2 _ _ = some [.slice q.c.pa q.c.pn q.c.pcap, .slice q.c.ga q.c.gn q.c.gcap] from rfl) ?_)))
  obtain ⟨H2, f2, k2⟩ := refvalid_ok (kn := kn) (lo := lo) (H := H1) hq1.c hq1.l hq.ln (fun h hm => ⟨hq1.h h hm, hh h hm⟩) hpn hgn (by omega)
  refine Exists.intro _ (Exists.intro _ (And.intro (callX_args f2) ?_))
  have m2 := k2.1
  have k02 := k1.trans k2
  have c2 := k2.cl c1 (by simp)
  by_cases he : checkE q.c q.hs q.ln = 0
  rotate_left
  · refine And.intro (fun _ => ?_) (fun w => absurd (show checkE q.c q.hs q.ln = 0 by simpa using w) he)
    exact And.intro trivial (Exists.intro _ (And.intro rfl ⟨0, _, rfl, k02, .inl ⟨he, rfl, rfl⟩⟩))
  refine And.intro (fun w => absurd he (show checkE q.c q.hs q.ln ≠ 0 by simpa using w)) (fun _ => ?_)
  have hq2 := hq.keep k02
  refine Exists.intro _ (Exists.intro _ (And.intro c2.of (And.intro (show row 2 _ _ = some [.slice q.c.pa q.c.pn q.c.pcap, .slice q.c.ga q.c.gn q.c.gcap] from rfl) ?_)))
  refine callB (refleast_ok (lo := lo) (ga := q.c.ga) (gn := q.c.gn) (gcap := q.c.gcap) hq2.c.p hq2.c.lp hq2.m hq.ml hpn (by omega)) ?_
  intro t H3 ht k3
  have k03 := k02.trans k3
  have m3 := k3.1
  refine And.intro rfl (Exists.intro (.bool (!t)) (And.intro rfl ?_))
  cases t
  · refine And.intro rfl (Exists.intro (.bool true) (And.intro rfl ?_))
    refine condT ?_
    exact And.intro trivial (Exists.intro _ (And.intro rfl ⟨0, 2, rfl, k03, .inr (.inl ⟨he, by unfold MQ.args; rw [ht]; rfl, rfl, rfl⟩)⟩))
  have c3 := k3.cl c2 (by simp)
  refine Exists.intro _ (Exists.intro _ (And.intro c3.of (And.intro rfl ?_)))
  refine And.intro (show InR ((q.c.pn : Int) - 1) from ⟨by omega, by omega⟩) ?_
  refine callB (in_ok (lo := lo)) ?_
  intro u H4 hu k4
  rw [in_index] at hu
  refine And.intro rfl (Exists.intro (.bool (!u)) (And.intro rfl ?_))
  refine And.intro rfl (Exists.intro (.bool (!u)) (And.intro rfl ?_))
  have k04 := k03.trans k4
  have m4 := k4.1
  cases u
  · refine condT ?_
    exact And.intro trivial (Exists.intro _ (And.intro rfl ⟨0, 2, rfl, k04, .inr (.inl ⟨he, by unfold MQ.args; rw [ht, hu]; rfl, rfl, rfl⟩)⟩))
  refine condF ?_
  have ha : q.args = true := by unfold MQ.args; rw [ht, hu]; rfl
  have v := MQ.vd hq he ha
  have c4 := k4.cl c3 (by simp)
  have go : ∀ (a : Nat) (Ha : Hp), a ≤ 68719476736 → Keep H4 Ha [] → ∃ Hb, FnX Try.prog kn lo 67 [q.c.cv, q.c.wv, .slice q.la q.ln q.lcap, .slice q.ma q.mn q.mcap, iv q.pond, iv a] Ha (.bool (q.g a)) Hb ∧ Keep Ha Hb [] := by
    intro a Ha hla ka
    have hqa := hq.keep (k04.trans ka)
    have hma := hqa.m
    have hml := hq.ml
    rw [v.mn] at hma hml ⊢
    exact refgoes_ok (m := ⟨q.pond, a⟩) hqa.c v.c hqa.l hma hml hq.ln hqa.h v.hv v.ln (by have := ka.1; omega) v.p (by show waterB ((a : Nat) : Int) = true; simp only [waterB, Bool.and_eq_true, decide_eq_true_eq]; omega)
  refine Exists.intro _ (Exists.intro _ (And.intro c4.of (And.intro (show row 2 _ _ = some [.slice q.c.pa q.c.pn q.c.pcap, .slice q.c.ga q.c.gn q.c.gcap] from rfl) ?_)))
  obtain ⟨H5, f5, k5⟩ := go 0 H4 (by omega) (Keep.refl _ _)
  refine Exists.intro _ (Exists.intro _ (And.intro (callX_args f5) ?_))
  refine And.intro rfl (Exists.intro (.bool (!q.g 0)) (And.intro rfl ?_))
  have k05 := k04.trans k5
  cases hg : q.g 0 with
  | false =>
    refine condT ?_
    exact And.intro trivial (Exists.intro _ (And.intro rfl ⟨0, 4, rfl, k05, .inr (.inr (.inl ⟨he, ha, hg, rfl, rfl⟩))⟩))
  | true =>
    refine condF ?_
    have c5 := k5.cl c4 (by simp)
    refine loop_low (fn := Try.f30) E30_1 N30 L30x1 (fun a : Nat × Nat => [(1, q.c.wv), (2, .slice q.la q.ln q.lcap), (3, .slice q.ma q.mn q.mcap), (4, iv q.pond), (5, pt H.next), (13, iv a.1), (14, iv a.2)])
      (fun k a H1 => k = a.2 - a.1 ∧ a.1 ≤ a.2 ∧ a.2 ≤ 68719476736 ∧ q.g a.1 = true ∧ (a.2 = 68719476736 ∨ q.g (a.2 + 1) = false) ∧ Keep H5 H1 []) 68719476736 (0, 68719476736) ⟨rfl, Nat.zero_le _, Nat.le_refl _, hg, .inl rfl, Keep.refl _ _⟩ ⟨rfl, rfl, rfl, rfl, rfl, rfl, rfl, trivial⟩ ?_
    rintro k ⟨i, j⟩ H6 ⟨rfl, hij, hjn, hi, hj, hk⟩
    simp only at hij hjn hi hj
    refine And.intro (fun hlt => ?_) (fun hge => ?_)
    · have hlt : i < j := by have := of_decide_eq_true (show decide ((i : Int) < (j : Int)) = true from hlt); omega
      refine And.intro (show InR ((i : Int) + j) from ⟨by omega, by omega⟩) ?_
      refine And.intro (show InR ((i : Int) + j + 1) from ⟨by omega, by omega⟩) ?_
      refine And.intro (show (0 : Int) ≤ (i : Int) + j + 1 by omega) (And.intro (show (0 : Int) < 2 by omega) (And.intro (show InR ((i : Int) + j + 1) from ⟨by omega, by omega⟩) ?_))
      have e : ((i : Int) + j + 1) / 2 = (((i + j + 1) / 2 : Nat) : Int) := by omega
      rw [e]
      have h1 : i < (i + j + 1) / 2 := by omega
      have h2 : (i + j + 1) / 2 ≤ j := by omega
      generalize (i + j + 1) / 2 = h at h1 h2
      have c6 := hk.cl c5 (by simp)
      refine Exists.intro _ (Exists.intro _ (And.intro c6.of (And.intro (show row 2 _ _ = some [.slice q.c.pa q.c.pn q.c.pcap, .slice q.c.ga q.c.gn q.c.gcap] from rfl) ?_)))
      obtain ⟨H7, f7, k7⟩ := go h H6 (by omega) (k5.trans hk)
      refine Exists.intro _ (Exists.intro _ (And.intro (callX_args f7) ?_))
      cases hgh : q.g h with
      | true =>
        refine condT ?_
        exact ⟨j - h, (h, j), by simp only; omega, ⟨rfl, h2, hjn, hgh, hj, hk.trans k7⟩, rfl, rfl, rfl, rfl, rfl, rfl, rfl, trivial⟩
      | false =>
        refine condF ?_
        refine And.intro ⟨by omega, by omega⟩ ?_
        refine ⟨h - 1 - i, (i, h - 1), by simp only; omega, ⟨rfl, by simp only; omega, by simp only; omega, hi, .inr (by simp only; rw [show h - 1 + 1 = h by omega]; exact hgh), hk.trans k7⟩, rfl, rfl, rfl, rfl, rfl, rfl, ?_, trivial⟩
        show some (iv ((h : Int) - 1)) = some (iv ((h - 1 : Nat) : Int))
        rw [show ((h : Int) - 1) = ((h - 1 : Nat) : Int) by omega]
    · have hge : ¬ i < j := by have := of_decide_eq_false (show decide ((i : Int) < (j : Int)) = false from hge); omega
      have hij : i = j := by omega
      subst hij
      exact And.intro trivial (Exists.intro _ (And.intro rfl ⟨i, 0, rfl, k05.trans hk, .inr (.inr (.inr ⟨he, ha, rfl, i, rfl, hjn, hi, hj⟩))⟩))
end
end Go.Ax
namespace Go.Ax
open Go Go.RowKit Go.Proofs
/-- No pond has more in the first one, nor less than nothing in the second one. -/
def WL (s t : St) : Prop := Le s.ws t.ws ∧ NN t
theorem come_wl {p : Int × Nat} (hp : 0 ≤ p.1) {s t : St} (h : WL s t) : WL (comeS s p) (comeS t p) := by
  have a := h.1.2 p.2; have b := h.2 p.2
  exact ⟨h.1.set (by omega), NN.set h.2 (by omega)⟩
theorem flow_wl {x : Gt} (z1 : 0 ≤ x.sill + x.boards * x.step) (z2 : 0 ≤ x.most) {s t : St} (h : WL s t) : WL (flowS s x) (flowS t x) := by
  have a := h.1.2 x.fr.toNat; have b := h.2 x.fr.toNat
  have hf : flowL s.ws x ≤ flowL t.ws x := by unfold flowL; generalize x.sill + x.boards * x.step = z at *; omega
  have hf2 : s.ws.getD x.fr.toNat 0 - flowL s.ws x ≤ t.ws.getD x.fr.toNat 0 - flowL t.ws x := by unfold flowL; generalize x.sill + x.boards * x.step = z at *; omega
  have hf3 : 0 ≤ flowL t.ws x ∧ flowL t.ws x ≤ t.ws.getD x.fr.toNat 0 := by unfold flowL; generalize x.sill + x.boards * x.step = z at *; omega
  exact ⟨h.1.move hf2 hf, NN.move h.2 hf3.1 hf3.2⟩
theorem take_wl {x y : Tk} (hp : x.pond = y.pond) (hy : 0 ≤ y.amount) (hxy : y.amount ≤ x.amount) {s t : St} (h : WL s t) (hs : x.amount ≤ s.ws.getD x.pond.toNat 0) : WL (takeS s x) (takeS t y) := by
  have a := h.1.2 y.pond.toNat; have b := h.2 y.pond.toNat
  rw [hp] at hs
  refine ⟨?_, NN.set h.2 (by unfold takeL; omega)⟩
  show Le (s.ws.set x.pond.toNat (s.ws.getD x.pond.toNat 0 - takeL s.ws x)) _
  rw [hp]
  refine h.1.set ?_
  unfold takeL; rw [hp]; omega
theorem seep_wl {g : Bool} {p : Pd} {i : Nat} (hp : PdLe g g p p) {s t : St} (h : WL s t) : WL (seepS g s (p, i)) (seepS g t (p, i)) := by
  have a := h.1.2 i; have b := h.2 i
  exact ⟨h.1.set (stay_le hp b a), NN.set h.2 (stay_nn b ⟨hp.b2.1, hp.b2.2.1⟩ ⟨hp.b2.2.2.1, hp.b2.2.2.2⟩)⟩
theorem spill_wl {p : Pd} {i : Nat} (hf : 0 ≤ p.full) {s t : St} (h : WL s t) : WL (spillS s (p, i)) (spillS t (p, i)) := by
  have h5 := h.1.2 i; have h6 := h.2 i
  have hf1 : spillL s (p, i) ≤ spillL t (p, i) := by unfold spillL; simp only; omega
  have hf2 : s.ws.getD i 0 - spillL s (p, i) ≤ t.ws.getD i 0 - spillL t (p, i) := by unfold spillL; simp only; omega
  exact ⟨h.1.move hf2 hf1, NN.move h.2 (by unfold spillL; omega) (by unfold spillL; simp only; omega)⟩
theorem takes_wl : ∀ (l : List Tk) {x y : Tk} (_ : x.pond = y.pond) (_ : 0 ≤ y.amount) (_ : y.amount ≤ x.amount) (_ : ∀ t ∈ l, 0 ≤ t.amount) {s t : St}, WL s t → satB (l ++ [x]) s = true → satB (l ++ [y]) t = true ∧ WL ((l ++ [x]).foldl takeS s) ((l ++ [y]).foldl takeS t)
  | [], x, y, hp, hy, hxy, _, s, t, h, hs => by
    simp only [List.nil_append, satB, Bool.and_true, List.foldl_cons, List.foldl_nil] at hs ⊢
    have hs := of_decide_eq_true hs
    have a := h.1.2 y.pond.toNat
    refine ⟨decide_eq_true ?_, take_wl hp hy hxy h hs⟩
    rw [hp] at hs; omega
  | z :: l, x, y, hp, hy, hxy, hl, s, t, h, hs => by
    simp only [List.cons_append, satB, Bool.and_eq_true, List.foldl_cons] at hs ⊢
    obtain ⟨h1, h2⟩ := hs
    have h1 := of_decide_eq_true h1
    have a := h.1.2 z.pond.toNat
    have hz := hl z (List.mem_cons_self ..)
    obtain ⟨q1, q2⟩ := takes_wl l hp hy hxy (fun u hu => hl u (List.mem_cons_of_mem _ hu)) (take_wl rfl hz (Int.le_refl _) h h1) h2
    exact ⟨⟨decide_eq_true (by omega), q1⟩, q2⟩
theorem foldWL {α : Type} {f : St → α → St} : ∀ (l : List α), (∀ x ∈ l, ∀ s t, WL s t → WL (f s x) (f t x)) → ∀ s t, WL s t → WL (l.foldl f s) (l.foldl f t)
  | [], _, _, _, h => h
  | x :: l, hf, s, t, h => foldWL l (fun y hy => hf y (List.mem_cons_of_mem _ hy)) _ _ (hf x (List.mem_cons_self ..) s t h)

theorem pond_self {c : Ch} (v : c.Vd) {p : Pd} (hp : p ∈ c.ponds) : PdLe false false p p := by
  obtain ⟨⟨a1, a2, a3, a4⟩, f1, f2⟩ := pond_facts v p hp
  exact ⟨rfl, rfl, Int.le_refl _, Int.le_refl _, fun h => h, ⟨a1, a2, a3, a4⟩, ⟨a1, a2, a3, a4⟩, by omega⟩
/-- an hour with more taken, against one with less -/
theorem hour_wl {c : Ch} (v : c.Vd) {h : Hr} {gs : List Gt} {x y : Tk} (hv : hourB h c.pn c.gn = true) (hg : gs.all (fun g => gateB g c.pn) = true) (hp : x.pond = y.pond) (hy : 0 ≤ y.amount) (hxy : y.amount ≤ x.amount) {s t : St} (w : WL s t) (hs : satF c false (h.more x none 0) gs s = true) :
    satF c false (h.more y none 0) gs t = true ∧ WL (hourF c false (h.more x none 0) gs s) (hourF c false (h.more y none 0) gs t) := by
  have hf := hour_facts hv
  have hb := boards_good hg hv
  have ht : ∀ t ∈ h.ts, 0 ≤ t.amount := fun t htm => by
    simp only [hourB, Bool.and_eq_true] at hv
    have := List.all_eq_true.1 hv.2 t htm
    simp [waterB] at this; omega
  have e1 : WL ((endS false h.cs).zipIdx.foldl comeS s) ((endS false h.cs).zipIdx.foldl comeS t) := foldWL (f := comeS) ((endS false h.cs).zipIdx) (fun p hp' s t w => come_wl (by
    obtain ⟨i, hi⟩ := List.getElem?_of_mem hp'
    obtain ⟨z, hz, rfl⟩ := zip_elim hi
    have := List.mem_of_getElem? hz
    simp only [endS, List.mem_map] at this
    obtain ⟨q, hq, rfl⟩ := this
    have := hf q hq
    simp [endV]; omega) w) _ _ w
  have e2 : WL (gatesS (boardsF h gs) ((endS false h.cs).zipIdx.foldl comeS s)) (gatesS (boardsF h gs) ((endS false h.cs).zipIdx.foldl comeS t)) := foldWL (f := flowS) (boardsF h gs) (fun g hgm s t w => by
    obtain ⟨z1, z2⟩ := gate_nn (List.all_eq_true.1 hb g hgm)
    exact flow_wl z1 z2 w) _ _ e1
  obtain ⟨q1, q2⟩ := takes_wl h.ts hp hy hxy ht e2 hs
  refine ⟨q1, ?_⟩
  have e4 := foldWL (f := seepS false) c.ponds.zipIdx (fun p hp' s t w => by
    obtain ⟨i, hi⟩ := List.getElem?_of_mem hp'
    obtain ⟨z, hz, rfl⟩ := zip_elim hi
    exact seep_wl (pond_self v (List.mem_of_getElem? hz)) w) _ _ q2
  exact foldWL (f := spillS) c.ponds.zipIdx (fun p hp' s t w => by
    obtain ⟨i, hi⟩ := List.getElem?_of_mem hp'
    obtain ⟨z, hz, rfl⟩ := zip_elim hi
    exact spill_wl (by have := (pond_facts v z (List.mem_of_getElem? hz)).2; omega) w) _ _ e4
theorem go_less {c : Ch} (v : c.Vd) {ms : List Int} {x y : Tk} (hp : x.pond = y.pond) (hy : 0 ≤ y.amount) (hxy : y.amount ≤ x.amount) : ∀ (hs : List Hr) (gs : List Gt) (s t : St), (∀ h ∈ hs, hourB h c.pn c.gn = true) → gs.all (fun g => gateB g c.pn) = true → WL s t → goGo c ms x gs s hs = true → goGo c ms y gs t hs = true
  | [], _, _, _, _, _, _, _ => rfl
  | h :: r, gs, s, t, hh, hg, w, hgo => by
    simp only [goGo, Bool.and_eq_true] at hgo ⊢
    obtain ⟨h1, h2⟩ := hgo
    have hv := hh h (List.mem_cons_self ..)
    obtain ⟨q1, q2⟩ := hour_wl v hv hg hp hy hxy w h1
    refine ⟨q1, ?_⟩
    cases hf : firstB (hourF c false (h.more x none 0) gs s).ws ms 0 with
    | some p => rw [hf] at h2; cases h2
    | none =>
      rw [hf] at h2
      have hn := (firstB_none _ _ _).1 hf
      have : firstB (hourF c false (h.more y none 0) gs t).ws ms 0 = none := (firstB_none _ _ _).2 fun j hj => by
        have := hn j (by rw [q2.1.1]; exact hj)
        have := q2.1.2 j
        omega
      rw [this]
      exact go_less v hp hy hxy r (boardsF h gs) _ _ (fun u hu => hh u (List.mem_cons_of_mem _ hu)) (boards_good hg hv) q2 h2
theorem MQ.less {q : MQ} (v : q.Vd) {a b : Nat} (hab : a ≤ b) (h : q.g b = true) : q.g a = true := by
  refine go_less v.c (x := ⟨q.pond, b⟩) (y := ⟨q.pond, a⟩) rfl (by show (0 : Int) ≤ (a : Int); omega) (by show (a : Int) ≤ (b : Int); omega) q.hs q.c.gs _ _ v.hv v.c.g ⟨⟨rfl, fun _ => Int.le_refl _⟩, ?_⟩ h
  exact nn_of (v.c.ahead false)
theorem MQ.one {q : MQ} (v : q.Vd) {m n : Nat} (hm : q.is m) (hn : q.is n) : m = n := by
  obtain ⟨m1, m2, m3⟩ := hm
  obtain ⟨n1, n2, n3⟩ := hn
  rcases Nat.lt_trichotomy m n with h | h | h
  · rcases m3 with m3 | m3
    · omega
    · rw [MQ.less v (show m + 1 ≤ n from h) n2] at m3; cases m3
  · exact h
  · rcases n3 with n3 | n3
    · omega
    · rw [MQ.less v (show n + 1 ≤ m from h) m2] at n3; cases n3
/-- What is returned is told by the arguments. -/
theorem MQ.same {q : MQ} {H : Hp} (hq : q.At H) {n e n' e' : Int} (h : q.res n e) (k : q.res n' e') : n = n' ∧ e = e' := by
  rcases h with ⟨a, rfl, rfl⟩ | ⟨a, b, rfl, rfl⟩ | ⟨a, b, c, rfl, rfl⟩ | ⟨a, b, rfl, m, rfl, hm⟩ <;> rcases k with ⟨a', rfl, rfl⟩ | ⟨a', b', rfl, rfl⟩ | ⟨a', b', c', rfl, rfl⟩ | ⟨a', b', rfl, m', rfl, hm'⟩
  all_goals first
    | exact ⟨rfl, rfl⟩
    | exact absurd a a'
    | exact absurd a' a
    | (rw [b] at b'; cases b'; done)
    | skip
  · have := MQ.less (MQ.vd hq a b) (Nat.zero_le m') hm'.2.1
    rw [c] at this; cases this
  · have := MQ.less (MQ.vd hq a b) (Nat.zero_le m) hm.2.1
    rw [c'] at this; cases this
  · rw [MQ.one (MQ.vd hq a b) hm hm']; exact ⟨rfl, rfl⟩
end Go.Ax
namespace Go.Ax
open Go Go.RowKit Go.Proofs
section
variable {kn : FuncId → Option Bool} {lo : Nat} {H : Hp}
theorem law_mosts (hkn : kn 15 = some true) {q : MQ} (hq : q.At H) (hlo : lo ≤ H.next) :
    ∃ H', FnX Try.prog kn lo 5 [q.c.cv, q.c.wv, .slice q.la q.ln q.lcap, .slice q.ma q.mn q.mcap, iv q.pond] H (.bool true) H' := by
  have key := fnX_low (kn := kn) (lo := lo) (H := H) (args := [q.c.cv, q.c.wv, .slice q.la q.ln q.lcap, .slice q.ma q.mn q.mcap, iv q.pond]) (Q := fun v H' => v = .bool true) Try.func5 B5 N5 Z5 L5 (by simp) ?_
  · obtain ⟨v, H', hf, rfl⟩ := key; exact ⟨H', hf⟩
  intro H1 hH1; obtain ⟨k1, n1, c1⟩ := new_facts hH1; clear hH1
  have c1 : Cl H1 H.next [.slice q.c.pa q.c.pn q.c.pcap, .slice q.c.ga q.c.gn q.c.gcap] := c1
  have m1 := k1.1
  have al : ∀ (H9 : Hp) (K : Value → Hp → Prop), K (.bool true) H9 → ∃ v H', CallsX Try.prog kn lo (.fn (.func 15) #[]) [] H9 v H' ∧ K v H' := fun H9 K h => ⟨_, _, callX_known hkn, h⟩
  refine callB many_ok ?_
  intro t2 H2 h2 k2
  have k02 := k1.trans k2
  have m2 := k02.1
  cases t2
  rotate_left
  · repeat (refine And.intro rfl (Exists.intro (.bool true) (And.intro rfl ?_)))
    refine condT ?_
    refine al _ _ ?_
    exact And.intro trivial (Exists.intro _ (And.intro rfl (rfl)))
  have hmany : q.ln ≤ 205 := by
    simp [manyB] at h2; omega
  have c1 := k2.cl c1 (by simp)
  refine Exists.intro _ (Exists.intro _ (And.intro c1.of (And.intro (show row 2 _ _ = some [.slice q.c.pa q.c.pn q.c.pcap, .slice q.c.ga q.c.gn q.c.gcap] from rfl) ?_)))
  refine callB (great_ok (lo := lo) (c := q.c) (k02.sl0 hq.l) hq.ln (by omega) (by omega)) ?_
  intro t3 H3 h3 k3
  have k03 := k02.trans k3
  have m3 := k03.1
  cases t3
  rotate_left
  · repeat (refine And.intro rfl (Exists.intro (.bool true) (And.intro rfl ?_)))
    refine condT ?_
    refine al _ _ ?_
    exact And.intro trivial (Exists.intro _ (And.intro rfl (rfl)))
  refine And.intro rfl (Exists.intro (.bool false) (And.intro rfl ?_))
  intro t4 h4
  refine And.intro rfl (Exists.intro (.bool t4) (And.intro rfl ?_))
  cases t4
  rotate_left
  · refine condT ?_
    refine al _ _ ?_
    exact And.intro trivial (Exists.intro _ (And.intro rfl (rfl)))
  refine condF ?_
  have hbn : q.c.pn ≤ 20 ∧ q.c.gn ≤ 40 ∧ q.c.wn ≤ 20 ∧ ∀ h ∈ q.hs, h.bn ≤ 40 ∧ h.cn ≤ 20 ∧ h.tn ≤ 40 := by
    simp only [greatB, Bool.or_eq_false_iff, decide_eq_false_iff_not, List.any_eq_false, greatH, Bool.or_eq_true, decide_eq_true_eq] at h3
    obtain ⟨⟨⟨a1, a2⟩, a3⟩, a4⟩ := h3
    refine ⟨by omega, by omega, by omega, fun h hm => ?_⟩
    have := a4 h hm
    omega
  obtain ⟨b1, b2, b3, b4⟩ := hbn
  have c1 := k3.cl c1 (by simp)
  refine Exists.intro _ (Exists.intro _ (And.intro c1.of (And.intro (show row 2 _ _ = some [.slice q.c.pa q.c.pn q.c.pcap, .slice q.c.ga q.c.gn q.c.gcap] from rfl) ?_)))
  obtain ⟨n, e, H4, h4, k4, r4⟩ := most_ok (kn := kn) (lo := lo) (H := H3) (hq.keep k03) (by omega)
  refine Exists.intro _ (Exists.intro _ (And.intro (callX_args h4) ?_))
  refine And.intro rfl (Exists.intro (iv n) (And.intro rfl ?_))
  refine And.intro rfl (Exists.intro (iv e) (And.intro rfl ?_))
  have c1 := k4.cl c1 (by simp)
  have k04 := k03.trans k4
  have m4 := k04.1
  refine Exists.intro _ (Exists.intro _ (And.intro c1.of (And.intro (show row 2 _ _ = some [.slice q.c.pa q.c.pn q.c.pcap, .slice q.c.ga q.c.gn q.c.gcap] from rfl) ?_)))
  obtain ⟨n', e', H5, h5, k5, r5⟩ := refmost_ok (kn := kn) (lo := lo) (H := H4) (hq.keep k04) (fun h hm => by have := b4 h hm; omega) (by omega) (by omega) (by omega)
  refine Exists.intro _ (Exists.intro _ (And.intro (callX_args h5) ?_))
  refine And.intro rfl (Exists.intro (iv n') (And.intro rfl ?_))
  refine And.intro rfl (Exists.intro (iv e') (And.intro rfl ?_))
  obtain ⟨rfl, rfl⟩ := MQ.same hq r4 r5
  have yes : ∀ (a : Int) (u : Bool), (a == a) = u → u = true := fun a u h => by rw [← h]; simp
  intro u1 hu1; obtain rfl := yes _ _ hu1
  intro u2 hu2; obtain rfl := yes _ _ hu2
  refine And.intro rfl (Exists.intro (.bool true) (And.intro rfl ?_))
  refine al _ _ ?_
  refine And.intro rfl (Exists.intro (.bool true) (And.intro rfl ?_))
  exact And.intro trivial (Exists.intro _ (And.intro rfl (rfl)))
end
end Go.Ax

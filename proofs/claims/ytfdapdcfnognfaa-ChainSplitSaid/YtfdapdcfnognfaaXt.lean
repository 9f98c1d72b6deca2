import Derived.Test.YtfdapdcfnognfaaXs
set_option linter.all false
namespace Go.Ax
open Go Go.RowKit Go.Proofs
end Go.Ax
namespace Go.Ax
open Go Go.RowKit Go.Proofs
end Go.Ax
namespace Go.Ax
open Go Go.RowKit Go.Proofs
/-- what u has counted, added -/
def St.plus (s u : St) : St := ⟨s.ws, s.came + u.came, s.seeped + u.seeped, s.river + u.river, s.taken + u.taken⟩
theorem fold_plus {α : Type} {f : St → α → St} (h : ∀ s u x, f (s.plus u) x = (f s x).plus u) : ∀ (l : List α) (s u : St), l.foldl f (s.plus u) = (l.foldl f s).plus u
  | [], _, _ => rfl
  | x :: l, s, u => by rw [List.foldl_cons, List.foldl_cons, h, fold_plus h l]
theorem moveR_plus (r u to l : Int) : moveR (r + u) to l = moveR r to l + u := by unfold moveR; split <;> omega
theorem come_plus (s u : St) (p : Int × Nat) : comeS (s.plus u) p = (comeS s p).plus u := by
  simp only [comeS, St.plus, St.mk.injEq, true_and, and_true]; omega
theorem flow_plus (s u : St) (g : Gt) : flowS (s.plus u) g = (flowS s g).plus u := by
  simp only [flowS, St.plus, moveR_plus]
theorem take_plus (s u : St) (t : Tk) : takeS (s.plus u) t = (takeS s t).plus u := by
  simp only [takeS, St.plus, St.mk.injEq, true_and]; omega
theorem seep_plus (g : Bool) (s u : St) (p : Pd × Nat) : seepS g (s.plus u) p = (seepS g s p).plus u := by
  simp only [seepS, St.plus, St.mk.injEq, true_and, and_true]; omega
theorem spill_plus (s u : St) (p : Pd × Nat) : spillS (s.plus u) p = (spillS s p).plus u := by
  simp only [spillS, spillL, St.plus, moveR_plus]
theorem hour_plus {c : Ch} {g : Bool} {h : Hr} {gs : List Gt} (s u : St) : hourF c g h gs (s.plus u) = (hourF c g h gs s).plus u := by
  unfold hourF hourS spillsS seepsS takesS gatesS comesS
  rw [fold_plus (fun s u p => come_plus s u p), fold_plus (fun s u p => flow_plus s u p), fold_plus (fun s u p => take_plus s u p), fold_plus (fun s u p => seep_plus _ s u p), fold_plus (fun s u p => spill_plus s u p)]
theorem endS_zip (a b : List Int) (h : a.length = b.length) : endS false (a.zip b) = a ∧ endS true (a.zip b) = b := by
  constructor
  · rw [show endS false (a.zip b) = (a.zip b).map Prod.fst from rfl, List.map_fst_zip (by omega)]
  · rw [show endS true (a.zip b) = (a.zip b).map Prod.snd from rfl, List.map_snd_zip (by omega)]
theorem foG_step {g : Bool} {c : Ch} {hs : List Hr} {i : Nat} {h : Hr} (hx : hs[i]? = some h) : foG g c hs (i + 1) = (boardsF h (foG g c hs i).1, hourF c g h (foG g c hs i).1 (foG g c hs i).2) := by
  unfold foG
  rw [List.take_add_one, hx]
  simp [List.foldl_append]
/-- the hour from what the hours before left, counted anew, and what they had counted -/
theorem foG_plus {g : Bool} {c : Ch} {hs : List Hr} {i : Nat} {h : Hr} (hx : hs[i]? = some h) : (foG g c hs (i + 1)).2 = (hourF c g h (foG g c hs i).1 ⟨(foG g c hs i).2.ws, 0, 0, 0, 0⟩).plus (foG g c hs i).2 := by
  rw [foG_step hx, ← hour_plus]
  simp [St.plus]
theorem foG_gates {c : Ch} {hs : List Hr} : ∀ i, (foG false c hs i).1 = (foG true c hs i).1
  | 0 => rfl
  | i + 1 => by
    cases hx : hs[i]? with
    | some h => rw [foG_step hx, foG_step hx, foG_gates i]
    | none =>
      have e : ∀ g, foG g c hs (i + 1) = foG g c hs i := fun g => by
        unfold foG; rw [List.take_add_one, hx]; simp
      rw [e, e, foG_gates i]
end Go.Ax
namespace Go.Ax
open Go Go.RowKit Go.Proofs
end Go.Ax
namespace Go.Ax
open Go Go.RowKit Go.Proofs
section
variable {P : Program} {kn : FuncId → Option Bool} {lo n : Nat} {masks : List Nat} {r : List RO} {ks : List Kd} {S : Rg} {H : Hp} {K : Rg → Hp → Prop} {d : Option Nat}
theorem wD_alc {e : TypeId} {z : List Value} (h : ∀ H1, Keep H H1 [] → H1.next = H.next + 1 → Cl H1 H.next z → wDraw P kn lo n masks r (.heavy :: ks) (putS S d (pt H.next)) H1 K) : wDraw P kn lo n masks (⟨d, none, .alc e z⟩ :: r) ks S H K := by
  simp only [wDraw, wRO, wRI]
  intro H1 hH1
  obtain ⟨k1, n1, c1⟩ := new_facts hH1
  exact h H1 k1 n1 c1
end
end Go.Ax
namespace Go.Ax
open Go Go.RowKit Go.Proofs
theorem sides_pond {c : Ch} (v : c.Vd) : All2 (PdLe false true) c.ponds c.ponds := by
  refine all2_of _ _ rfl fun i x y hx hy => ?_
  rw [hx] at hy; cases hy
  have := List.all_eq_true.1 v.p (x, i) (List.mem_zipIdx_iff_getElem?.2 hx)
  simp [pondB, withinB] at this
  constructor <;> first | rfl | (intro _; rfl) | (simp; omega) | omega
theorem sides_hour {h : Hr} {pn gn : Nat} (hv : hourB h pn gn = true) : HrLe false true h h := by
  have hf := hour_facts hv
  refine ⟨rfl, rfl, end_le rfl fun i x y hx hy => ?_, fun t ht => ?_⟩
  · rw [hx] at hy; cases hy
    have := hf x (List.mem_of_getElem? hx)
    simp [endV]; omega
  · simp only [hourB, Bool.and_eq_true] at hv
    have := List.all_eq_true.1 hv.2 t ht
    simp [waterB] at this; omega
theorem nn_of {ps : List Pd} {B : Int} {s : St} (a : Ahead ps B s) : NN s := fun i => by
  rcases Nat.lt_or_ge i s.ws.length with q | q
  · have := a.pos s.ws[i] (List.getElem_mem q)
    simpa [List.getD, q] using this
  · simp [List.getD, List.getElem?_eq_none q]
theorem fo_sides {c : Ch} (v : c.Vd) {hs : List Hr} (hh : ∀ h ∈ hs, hourB h c.pn c.gn = true) (hcl : ∀ h ∈ hs, h.cs.length = h.cn) : ∀ i : Nat, i ≤ 200 → LeS (foG false c hs i).2 (foG true c hs i).2
  | 0, _ => by
    have hall := List.all_eq_true.1 v.w
    have e : ∀ i, (endS false c.ss).getD i 0 ≤ (endS true c.ss).getD i 0 := fun i => by
      cases hx : c.ss[i]? with
      | none => simp [endS, List.getD, hx]
      | some x =>
        obtain ⟨p, hp⟩ := get_some (l := c.ponds) (i := i) (by have := (List.getElem?_eq_some_iff.mp hx).1; rw [v.lp, ← v.wp, ← v.lw]; exact this)
        have := hall (p, x) (List.mem_of_getElem? (zip2_get hp hx))
        simp [withinB] at this
        simp [endS, List.getD, hx, endV]; omega
    have e2 : LeS (s0 false c) (s0 true c) := ⟨⟨by simp [s0, endS], e⟩, Int.le_refl _, Int.le_refl _, Int.le_refl _, Int.le_refl _⟩
    simpa [foG] using e2
  | i + 1, hi => by
    have ih := fo_sides v hh hcl i (by omega)
    obtain ⟨a1, g1, _⟩ := fo_ahead v hh hcl true i (by omega)
    cases e : hs[i]? with
    | none =>
      have e : ∀ g, foG g c hs (i + 1) = foG g c hs i := fun g => by
        unfold foG; rw [List.take_add_one, e]; simp
      rw [e, e]; exact ih
    | some h =>
      have hv := hh h (List.mem_of_getElem? e)
      rw [foG_step e, foG_step e]
      have hb := boards_good g1 hv
      rw [foG_gates]
      exact (hour_le (sides_pond v) (sides_hour hv) (fun g hm => gate_nn (List.all_eq_true.1 hb g hm)) ih (nn_of a1)).1
/-- the chain as it stands after i hours: where it lies is told by the caller -/
def Ch.after (c : Ch) (hs : List Hr) (i : Nat) (ga : Option Addr) (gcap : Nat) (wa : Option Addr) (wcap : Nat) : Ch :=
  { c with ga := ga, gcap := gcap, wa := wa, wcap := wcap, gs := (foG false c hs i).1, ss := (foG false c hs i).2.ws.zip (foG true c hs i).2.ws }
theorem after_vd {c : Ch} (v : c.Vd) {hs : List Hr} (hh : ∀ h ∈ hs, hourB h c.pn c.gn = true) (hcl : ∀ h ∈ hs, h.cs.length = h.cn) {i : Nat} (hi : i ≤ 200) (ga : Option Addr) (gcap : Nat) (wa : Option Addr) (wcap : Nat) : (c.after hs i ga gcap wa wcap).Vd := by
  obtain ⟨a1, g1, l1⟩ := fo_ahead v hh hcl false i hi
  obtain ⟨a2, g2, l2⟩ := fo_ahead v hh hcl true i hi
  have le := fo_sides v hh hcl i hi
  have e1 := a1.len; have e2 := a2.len
  have lp := v.lp; have wp := v.wp
  refine ⟨v.h16, v.h1, v.h32, v.wp, v.lp, l1, ?_, v.p, g1, ?_⟩
  · show ((foG false c hs i).2.ws.zip (foG true c hs i).2.ws).length = c.wn
    rw [List.length_zip]; omega
  · refine List.all_eq_true.2 fun x hx => ?_
    obtain ⟨j, hj⟩ := List.getElem?_of_mem hx
    obtain ⟨p, x1, x2⟩ := x
    obtain ⟨h1, h2⟩ := List.getElem?_zip_eq_some.mp hj
    obtain ⟨h3, h4⟩ := List.getElem?_zip_eq_some.mp h2
    have q1 := a1.pos x1 (List.mem_of_getElem? h3)
    have q2 := a2.full j p h1
    have q3 := le.w.2 j
    simp [List.getD, h3, h4] at q2 q3
    simp [withinB]; omega
end Go.Ax
namespace Go.Ax
open Go Go.RowKit Go.Proofs
/-- Where the water and the gates lie. -/
structure RW where
  ga : Option Addr
  gcap : Nat
  wa : Option Addr
  wcap : Nat
  i : Nat
section
variable {kn : FuncId → Option Bool} {lo : Nat} {F H : Hp}
theorem ahead_small {ps : List Pd} {i : Nat} {s : St} (a : Ahead ps (i * perHour) s) (hi : i ≤ 200) : InR s.came ∧ InR s.seeped ∧ InR s.river ∧ InR s.taken := by
  have := a.c0; have := a.s0; have := a.r0; have := a.t0; have := a.cB; have := a.sB; have := a.all
  rw [perHour_eq] at *
  refine ⟨⟨by omega, by omega⟩, ⟨by omega, by omega⟩, ⟨by omega, by omega⟩, ⟨by omega, by omega⟩⟩
end
end Go.Ax
namespace Go.Ax
open Go Go.RowKit Go.Proofs
/-- What Run returns: of the program, and of the document. -/
structure RunB (q : BQ) (H' : Hp) (v : Value) : Prop where
  bad : checkE q.c q.hs q.ln ≠ 0 → v = .tuple #[.slice none 0 0, .agg zero8.toArray, iv (checkE q.c q.hs q.ln)]
  ok : checkE q.c q.hs q.ln = 0 → ∃ a cap, v = .tuple #[.slice a q.c.wn cap, .agg (flowsV q.s q.t).toArray, iv 0] ∧ Sl H' a q.c.wn cap (spc (q.s.ws.zip q.t.ws))
theorem RunA.toB {q : BQ} {H H' : Hp} {v : Value} (r : RunA q H H' v) : RunB q H' v :=
  ⟨r.bad, fun e => by obtain ⟨b, e1, _, c1, _, _⟩ := r.ok e; exact ⟨_, _, e1, .inr ⟨b, rfl, c1.rd, Nat.le_refl _⟩⟩⟩
theorem zip_self : ∀ (l : List (Int × Int)), (l.map Prod.fst).zip (l.map Prod.snd) = l
  | [] => rfl
  | x :: l => by simp [zip_self l]
end Go.Ax
namespace Go.Ax
open Go Go.RowKit Go.Proofs
end Go.Ax
namespace Go.Ax
open Go Go.RowKit Go.Proofs
end Go.Ax
namespace Go.Ax
open Go Go.RowKit Go.Proofs
end Go.Ax
namespace Go.Ax
open Go Go.RowKit Go.Proofs
def runL (q : BQ) : List (Int × Int) := if checkE q.c q.hs q.ln = 0 then q.s.ws.zip q.t.ws else []
def runF (q : BQ) : List Value := if checkE q.c q.hs q.ln = 0 then flowsV q.s q.t else zero8
theorem runF_eight (q : BQ) : ∃ x1 x2 x3 x4 x5 x6 x7 x8 : Int, runF q = [iv x1, iv x2, iv x3, iv x4, iv x5, iv x6, iv x7, iv x8] := by
  unfold runF
  split
  · exact ⟨_, _, _, _, _, _, _, _, rfl⟩
  · exact ⟨_, _, _, _, _, _, _, _, rfl⟩
theorem runL_len {q : BQ} {H : Hp} (hc : q.c.At H) (he : checkE q.c q.hs q.ln = 0) : (runL q).length = q.c.wn := by
  unfold runL; rw [if_pos he, List.length_zip]
  unfold BQ.s BQ.t
  rw [fo_len, fo_len, hc.lw]; simp
theorem run_uni {q : BQ} {H H' : Hp} {v : Value} (p : RunB q H' v) (hc : q.c.At H) : ∃ a cap, v = .tuple #[.slice a (runL q).length cap, .agg (runF q).toArray, iv (checkE q.c q.hs q.ln)] ∧ Sl H' a (runL q).length cap (spc (runL q)) := by
  by_cases he : checkE q.c q.hs q.ln = 0
  · obtain ⟨a, cap, e, s⟩ := p.ok he
    rw [runL_len hc he]
    refine ⟨a, cap, by rw [e, he]; simp only [runF, if_pos he], ?_⟩
    rw [show runL q = _ from if_pos he]; exact s
  · refine ⟨none, 0, ?_, ?_⟩
    · rw [p.bad he]; simp [runL, runF, if_neg he]
    · rw [show runL q = [] from if_neg he]; exact .inl ⟨.inl rfl, rfl, rfl, rfl⟩
end Go.Ax

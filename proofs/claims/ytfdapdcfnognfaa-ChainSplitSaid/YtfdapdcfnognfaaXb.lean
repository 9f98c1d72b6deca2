import Derived.Test.YtfdapdcfnognfaaXa
import Derived.Test.YtfdapdcfnognfaaAxW6
import Derived.Test.YtfdapdcfnognfaaAxO
import Derived.Deep.Slices
import Derived.Deep.Fields
import Derived.ChangeSame
set_option linter.all false
/-! Plain numbers: what makes an hour safe. -/
namespace Go.Ax
open Go Go.RowKit

theorem sum_set : ∀ (ws : List Int) (i : Nat) (x : Int), i < ws.length → (ws.set i x).sum = ws.sum - ws.getD i 0 + x
  | [], i, x, h => by simp at h
  | w :: ws, 0, x, _ => by simp [List.getD]; omega
  | w :: ws, i + 1, x, h => by
    have := sum_set ws i x (by simpa using h)
    simp only [List.set_cons_succ, List.sum_cons, this, List.getD_cons_succ]
    omega
theorem sum_nonneg : ∀ (ws : List Int), (∀ x ∈ ws, 0 ≤ x) → 0 ≤ ws.sum
  | [], _ => by simp
  | w :: ws, h => by
    have := sum_nonneg ws fun x hx => h x (by simp [hx])
    have := h w (by simp)
    simp; omega
theorem getD_sum : ∀ (ws : List Int) (i : Nat), (∀ x ∈ ws, 0 ≤ x) → ws.getD i 0 ≤ ws.sum ∧ 0 ≤ ws.getD i 0
  | [], i, _ => by simp
  | w :: ws, 0, h => by
    have := sum_nonneg ws fun x hx => h x (by simp [hx])
    have := h w (by simp)
    simp [List.getD]; omega
  | w :: ws, i + 1, h => by
    have := getD_sum ws i fun x hx => h x (by simp [hx])
    have := h w (by simp)
    simp only [List.getD_cons_succ, List.sum_cons]; omega
theorem set_nonneg {ws : List Int} {i : Nat} {x : Int} (h : ∀ y ∈ ws, 0 ≤ y) (hx : 0 ≤ x) : ∀ y ∈ ws.set i x, 0 ≤ y := fun y hy => by
  rcases List.mem_or_eq_of_mem_set hy with q | q
  · exact h y q
  · omega

/-- The water of a course and its sums, within bounds. -/
structure Good (n : Nat) (M B : Int) (s : St) : Prop where
  len : s.ws.length = n
  pos : ∀ x ∈ s.ws, 0 ≤ x
  sum : s.ws.sum ≤ M
  c0 : 0 ≤ s.came
  s0 : 0 ≤ s.seeped
  r0 : 0 ≤ s.river
  t0 : 0 ≤ s.taken
  cB : s.came ≤ B
  sB : s.seeped ≤ B
  all : s.river + s.taken + s.ws.sum ≤ B
theorem Good.get {n : Nat} {M B : Int} {s : St} (h : Good n M B s) (i : Nat) : 0 ≤ s.ws.getD i 0 ∧ s.ws.getD i 0 ≤ M := by
  have := getD_sum s.ws i h.pos
  have := h.sum
  omega
theorem Good.mono {n : Nat} {M B M' B' : Int} {s : St} (h : Good n M B s) (hm : M ≤ M') (hb : B ≤ B') : Good n M' B' s :=
  ⟨h.len, h.pos, by have := h.sum; omega, h.c0, h.s0, h.r0, h.t0, by have := h.cB; omega, by have := h.sB; omega, by have := h.all; omega⟩

section
variable {n : Nat} {M B : Int} {s : St}
theorem come_good (h : Good n M B s) {x : Int} {i : Nat} (hx : 0 ≤ x) (hx2 : x ≤ 68719476736) (hi : i < n) (hM : M ≤ 4398046511104) (hB : B ≤ 2305843009213693952) :
    ComeOk s (x, i) ∧ Good n (M + 68719476736) (B + 68719476736) (comeS s (x, i)) := by
  have hg := h.get i
  have h1 := h.cB; have h2 := h.c0; have h3 := h.sum; have h4 := h.all; have h5 := h.r0; have h6 := h.t0; have h7 := h.sB; have h8 := h.s0
  refine ⟨⟨⟨by show _ ≤ s.ws.getD i 0 + x; omega, by show s.ws.getD i 0 + x < _; omega⟩, ⟨by show _ ≤ s.came + x; omega, by show s.came + x < _; omega⟩⟩, ?_⟩
  have hs := sum_set s.ws i (s.ws.getD i 0 + x) (by rw [h.len]; exact hi)
  refine ⟨by simp [comeS, h.len], set_nonneg h.pos (show 0 ≤ s.ws.getD i 0 + x by omega), ?_, ?_, h8, h5, h6, ?_, ?_, ?_⟩
  all_goals simp only [comeS]
  · rw [hs]; omega
  · omega
  · omega
  · omega
  · rw [hs]; omega
/-- Some water goes from a pond to another one, or to the river. -/
theorem move_good (h : Good n M B s) {fr : Nat} {to l : Int} (hfr : fr < n) (hto : to = -1 ∨ 0 ≤ to ∧ to < n) (h0 : 0 ≤ l) (hl : l ≤ s.ws.getD fr 0) (hM : M ≤ 4398046511104) (hB : B ≤ 4611686018427387904) :
    InR (s.ws.getD fr 0 - l) ∧ InR (s.river + l) ∧ InR ((s.ws.set fr (s.ws.getD fr 0 - l)).getD to.toNat 0 + l) ∧ Good n M B { s with ws := moveW s.ws fr to l, river := moveR s.river to l } := by
  have hg := h.get fr
  have h1 := h.cB; have h2 := h.c0; have h3 := h.sum; have h4 := h.all; have h5 := h.r0; have h6 := h.t0; have h7 := h.sB; have h8 := h.s0
  have hsn := sum_nonneg _ h.pos
  have hs := sum_set s.ws fr (s.ws.getD fr 0 - l) (by rw [h.len]; exact hfr)
  have hp : ∀ y ∈ s.ws.set fr (s.ws.getD fr 0 - l), 0 ≤ y := set_nonneg h.pos (by omega)
  have hg2 := getD_sum _ to.toNat hp
  refine ⟨⟨by omega, by omega⟩, ⟨by omega, by omega⟩, ⟨by omega, by omega⟩, ?_⟩
  by_cases ht : to = -1
  · have e1 : moveW s.ws fr to l = s.ws.set fr (s.ws.getD fr 0 - l) := by unfold moveW; simp only; rw [if_pos ht]
    have e2 : moveR s.river to l = s.river + l := by unfold moveR; rw [if_pos ht]
    rw [e1, e2]
    exact ⟨by simp [h.len], hp, by simp only; rw [hs]; omega, h2, h8, by simp only; omega, h6, h1, h7, by simp only; rw [hs]; omega⟩
  · have e1 : moveW s.ws fr to l = (s.ws.set fr (s.ws.getD fr 0 - l)).set to.toNat ((s.ws.set fr (s.ws.getD fr 0 - l)).getD to.toNat 0 + l) := by unfold moveW; simp only; rw [if_neg ht]
    have e2 : moveR s.river to l = s.river := by unfold moveR; rw [if_neg ht]
    have hs2 := sum_set (s.ws.set fr (s.ws.getD fr 0 - l)) to.toNat ((s.ws.set fr (s.ws.getD fr 0 - l)).getD to.toNat 0 + l) (by simp [h.len]; omega)
    rw [e1, e2]
    exact ⟨by simp [h.len], set_nonneg hp (by omega), by simp only; rw [hs2, hs]; omega, h2, h8, h5, h6, h1, h7, by simp only; rw [hs2, hs]; omega⟩
theorem flow_good (h : Good n M B s) {g : Gt} (hv : gateB g n = true) (hM : M ≤ 4398046511104) (hB : B ≤ 4611686018427387904) : FlowOk s g ∧ Good n M B (flowS s g) := by
  simp [gateB, indexB, waterB, boardsB] at hv
  obtain ⟨⟨⟨⟨⟨⟨f1, f2⟩, ht⟩, a1, a2⟩, b1, b2⟩, c1, c2⟩, d1, d2⟩ := hv
  have hbs : 0 ≤ g.boards * g.step := Int.mul_nonneg d1 b1
  have hbs2 : g.boards * g.step ≤ 16 * 68719476736 := Int.mul_le_mul d2 b2 b1 (by omega)
  have hg := h.get g.fr.toNat
  have hfl : 0 ≤ flowL s.ws g ∧ flowL s.ws g ≤ s.ws.getD g.fr.toNat 0 := by unfold flowL; omega
  obtain ⟨m1, m2, m3, m4⟩ := move_good h (fr := g.fr.toNat) (to := g.to) (l := flowL s.ws g) (by omega) (by omega) hfl.1 hfl.2 hM hB
  exact ⟨⟨⟨by omega, by omega⟩, ⟨by omega, by omega⟩, ⟨by omega, by omega⟩, m1, m2, m3⟩, m4⟩
theorem take_good (h : Good n M B s) {t : Tk} (h1 : 0 ≤ t.pond) (h2 : t.pond < n) (h3 : 0 ≤ t.amount) (hM : M ≤ 4398046511104) (hB : B ≤ 4611686018427387904) : TakeOk s t ∧ Good n M B (takeS s t) := by
  have hg := h.get t.pond.toNat
  have q1 := h.cB; have q2 := h.c0; have q3 := h.sum; have q4 := h.all; have q5 := h.r0; have q6 := h.t0; have q7 := h.sB; have q8 := h.s0
  have hsn := sum_nonneg _ h.pos
  have hgs := getD_sum s.ws t.pond.toNat h.pos
  have ht : 0 ≤ takeL s.ws t ∧ takeL s.ws t ≤ s.ws.getD t.pond.toNat 0 := by unfold takeL; omega
  have hs := sum_set s.ws t.pond.toNat (s.ws.getD t.pond.toNat 0 - takeL s.ws t) (by rw [h.len]; omega)
  refine ⟨⟨⟨by omega, by omega⟩, ⟨by omega, by omega⟩⟩, ⟨by simp [takeS, h.len], set_nonneg h.pos (by omega), ?_, q2, q8, q5, ?_, q1, q7, ?_⟩⟩
  all_goals simp only [takeS]
  · rw [hs]; omega
  · omega
  · rw [hs]; omega
theorem seep_bounds {v a : Int} (h1 : 0 ≤ v) (h3 : 0 ≤ a) (h4 : a ≤ 1000000) : 0 ≤ v * a / 1000000 ∧ v * a / 1000000 ≤ v ∧ 0 ≤ (v * a + 1000000 - 1) / 1000000 ∧ (v * a + 1000000 - 1) / 1000000 ≤ v := by
  have m1 : 0 ≤ v * a := Int.mul_nonneg h1 h3
  have m2 : v * a ≤ v * 1000000 := Int.mul_le_mul_of_nonneg_left h4 h1
  omega
theorem seep_good (h : Good n M B s) {g : Bool} {p : Pd} {i : Nat} (hi : i < n) (h1 : 0 ≤ p.lo) (h2 : p.lo ≤ p.hi) (h3 : p.hi ≤ 1000000) (hM : M ≤ 4398046511104) (hB : B ≤ 2305843009213693952) : SeepOk g s (p, i) ∧ Good n M (B + 4398046511104) (seepS g s (p, i)) := by
  have hg := h.get i
  have q1 := h.cB; have q2 := h.c0; have q3 := h.sum; have q4 := h.all; have q5 := h.r0; have q6 := h.t0; have q7 := h.sB; have q8 := h.s0
  have hsn := sum_nonneg _ h.pos
  have b1 := seep_bounds (v := s.ws.getD i 0) (a := p.lo) hg.1 h1 (by omega)
  have b2 := seep_bounds (v := s.ws.getD i 0) (a := p.hi) hg.1 (by omega) h3
  have e1 : 0 ≤ seepV g (s.ws.getD i 0) p.lo p.hi ∧ seepV g (s.ws.getD i 0) p.lo p.hi ≤ M := by unfold seepV; split <;> omega
  have e2 : 0 ≤ stayV g (s.ws.getD i 0) p.lo p.hi ∧ stayV g (s.ws.getD i 0) p.lo p.hi ≤ s.ws.getD i 0 := by unfold stayV; split <;> omega
  have hs := sum_set s.ws i (stayV g (s.ws.getD i 0) p.lo p.hi) (by rw [h.len]; omega)
  refine ⟨⟨hg.1, by simp only; omega, h1, by simp only; omega, by simp only; omega, h3, ⟨by simp only; omega, by simp only; omega⟩⟩, ⟨by simp [seepS, h.len], set_nonneg h.pos (by exact e2.1), ?_, q2, ?_, q5, q6, ?_, ?_, ?_⟩⟩
  all_goals simp only [seepS]
  · rw [hs]; omega
  · omega
  · omega
  · omega
  · rw [hs]; omega
theorem spill_good (h : Good n M B s) {p : Pd} {i : Nat} (hi : i < n) (hp : 1 ≤ p.full) (hp2 : p.full ≤ 68719476736) (ht : p.spill = -1 ∨ 0 ≤ p.spill ∧ p.spill < n) (hM : M ≤ 4398046511104) (hB : B ≤ 4611686018427387904) : SpillOk s (p, i) ∧ Good n M B (spillS s (p, i)) := by
  have hg := h.get i
  have hl : 0 ≤ spillL s (p, i) ∧ spillL s (p, i) ≤ s.ws.getD i 0 := by unfold spillL; simp only; omega
  obtain ⟨m1, m2, m3, m4⟩ := move_good h (fr := i) (to := p.spill) (l := spillL s (p, i)) hi ht hl.1 hl.2 hM hB
  exact ⟨⟨⟨by simp only; omega, by simp only; omega⟩, m1, m2, m3⟩, m4⟩
end
end Go.Ax
/-! Plain numbers: an hour of what is valid is safe. -/
namespace Go.Ax
open Go Go.RowKit

theorem fold_good {α σ : Type} {f : σ → α → σ} {l : List α} {s : σ} {G : Nat → σ → Prop} {Ok : σ → α → Prop} (h0 : G 0 s) (step : ∀ i x s, l[i]? = some x → G i s → Ok s x ∧ G (i + 1) (f s x)) :
    (∀ i x, l[i]? = some x → Ok ((l.take i).foldl f s) x) ∧ G l.length (l.foldl f s) := by
  have all : ∀ i, i ≤ l.length → G i ((l.take i).foldl f s) := by
    intro i
    induction i with
    | zero => intro _; simpa using h0
    | succ i ih =>
      intro hi
      obtain ⟨x, hx⟩ := get_some (l := l) (i := i) (by omega)
      rw [take_step hx]
      exact (step i x _ hx (ih (by omega))).2
  refine ⟨fun i x hx => ?_, ?_⟩
  · have hi : i < l.length := by
      rcases Nat.lt_or_ge i l.length with q | q
      · exact q
      · rw [List.getElem?_eq_none q] at hx; cases hx
    exact (step i x _ hx (all i (by omega))).1
  · have := all l.length (Nat.le_refl _)
    rwa [List.take_length] at this
theorem get_lt {α : Type} {l : List α} {i : Nat} {x : α} (h : l[i]? = some x) : i < l.length := by
  rcases Nat.lt_or_ge i l.length with q | q
  · exact q
  · rw [List.getElem?_eq_none q] at h; cases h
theorem zip_elim {α : Type} {l : List α} {i : Nat} {p : α × Nat} (h : l.zipIdx[i]? = some p) : ∃ x, l[i]? = some x ∧ p = (x, i) := by
  have hi : i < l.length := by have := get_lt h; simpa using this
  obtain ⟨x, hx⟩ := get_some (l := l) (i := i) hi
  have : l.zipIdx[i]? = some (x, i) := by simp [hx]
  rw [this] at h; cases h
  exact ⟨x, hx, rfl⟩
theorem sum_le : ∀ (ws : List Int) (c : Int), (∀ j, j < ws.length → ws.getD j 0 ≤ c) → ws.sum ≤ ws.length * c
  | [], c, _ => by simp
  | w :: ws, c, h => by
    have h0 := h 0 (by simp)
    have := sum_le ws c fun j hj => by have := h (j + 1) (by simpa using hj); simpa using this
    simp [List.getD] at h0
    simp only [List.sum_cons, List.length_cons]
    have e : ((ws.length + 1 : Nat) : Int) * c = (ws.length : Int) * c + c := by rw [Int.natCast_add, Int.add_mul]; simp
    rw [e]; omega

/-- The state ahead of an hour. -/
structure Ahead (ponds : List Pd) (B : Int) (s : St) : Prop where
  len : s.ws.length = ponds.length
  pos : ∀ x ∈ s.ws, 0 ≤ x
  full : ∀ (j : Nat) (p : Pd), ponds[j]? = some p → s.ws.getD j 0 ≤ p.full
  c0 : 0 ≤ s.came
  s0 : 0 ≤ s.seeped
  r0 : 0 ≤ s.river
  t0 : 0 ≤ s.taken
  cB : s.came ≤ B
  sB : s.seeped ≤ B
  all : s.river + s.taken ≤ B
/-- What an hour leaves may be more by this. -/
def perHour : Int := 140737488355328
theorem perHour_eq : perHour = 140737488355328 := rfl

theorem getD_set_ne {ws : List Int} {i j : Nat} {x : Int} (h : j ≠ i) : (ws.set i x).getD j 0 = ws.getD j 0 := by
  simp only [List.getD_eq_getElem?_getD, List.getElem?_set]
  rw [if_neg (fun e => h e.symm)]
theorem getD_set_eq {ws : List Int} {i : Nat} {x : Int} (h : i < ws.length) : (ws.set i x).getD i 0 = x := by
  simp [List.getD_eq_getElem?_getD, h]

theorem hour_safe {X : PX} {gs : List Gt} {s : St} {B : Int} (hn : X.n = X.ponds.length) (h16 : X.n ≤ 16) (hpn : X.pn = X.n) (hcn : X.cn = X.n) (hgl : X.gn = gs.length) (hcl : X.cs.length = X.cn)
    (hp : X.ponds.zipIdx.all (fun p => pondB p.1 p.2 X.n) = true) (hg : gs.all (fun g => gateB g X.n) = true)
    (hb : X.bs.all (fun b => indexB b.gate X.gn && boardsB b.boards) = true) (hc : X.cs.all (fun s => withinB s.1 s.2 68719476736) = true) (ht : X.ts.all (fun t => indexB t.pond X.n && waterB t.amount) = true)
    (ha : Ahead X.ponds B s) (hB : B ≤ 1152921504606846976) (hB0 : 0 ≤ B) : X.Safe gs s ∧ Ahead X.ponds (B + perHour) (hourS X gs s) ∧ (boardsS X gs).all (fun g => gateB g X.n) = true ∧ (boardsS X gs).length = gs.length := by
  have pond : ∀ (i : Nat) (p : Pd), X.ponds[i]? = some p → 1 ≤ p.full ∧ p.full ≤ 68719476736 ∧ 0 ≤ p.lo ∧ p.lo ≤ p.hi ∧ p.hi ≤ 1000000 ∧ (p.spill = -1 ∨ (i : Int) < p.spill ∧ p.spill < X.n) := by
    intro i p hx
    have := List.all_eq_true.1 hp (p, i) (List.mem_of_getElem? (zip_getP hx))
    simp [pondB, withinB] at this
    omega
  -- the gates
  have hbd := fold_good (f := boardS) (l := X.bs) (s := gs) (G := fun _ (g : List Gt) => g.length = gs.length ∧ g.all (fun g => gateB g X.n) = true) (Ok := fun _ _ => True) ⟨rfl, hg⟩ (fun i b g hx ⟨h1, h2⟩ => by
      refine ⟨trivial, by simp [boardS, h1], ?_⟩
      have hbx := List.all_eq_true.1 hb b (List.mem_of_getElem? hx)
      simp [indexB, boardsB] at hbx
      have hlt : b.gate.toNat < g.length := by omega
      have hold := List.all_eq_true.1 h2 (g.getD b.gate.toNat gt0) (by
        have : g.getD b.gate.toNat gt0 = g[b.gate.toNat] := by simp [List.getD, hlt]
        rw [this]; exact List.getElem_mem _)
      rw [List.all_eq_true]
      intro y hy
      unfold boardS at hy
      rcases List.mem_or_eq_of_mem_set hy with q | q
      · exact List.all_eq_true.1 h2 y q
      · subst q
        simp [gateB, indexB, waterB, boardsB] at hold ⊢
        omega)
  have hgates : (boardsS X gs).all (fun g => gateB g X.n) = true := hbd.2.2
  have hglen : (boardsS X gs).length = gs.length := hbd.2.1
  have gate : ∀ g ∈ boardsS X gs, gateB g X.n = true := fun g hgm => List.all_eq_true.1 hgates g hgm
  -- what comes
  have hsum : s.ws.sum ≤ X.n * 68719476736 := by
    have := sum_le s.ws 68719476736 fun j hj => by
      obtain ⟨p, hx⟩ := get_some (l := X.ponds) (i := j) (by rw [← ha.len]; exact hj)
      have := ha.full j p hx
      have := pond j p hx
      omega
    rw [ha.len, ← hn] at this
    exact this
  have hn0 := sum_nonneg _ ha.pos
  have hlenE : (endS X.g X.cs).length = X.n := by simp [endS, hcl, hcn]
  have g0 : Good X.n 1099511627776 (B + 1099511627776) s := ⟨by rw [ha.len, hn], ha.pos, by omega, ha.c0, ha.s0, ha.r0, ha.t0, by have := ha.cB; omega, by have := ha.sB; omega, by have := ha.all; omega⟩
  obtain ⟨s1, g1⟩ := fold_good (f := comeS) (l := (endS X.g X.cs).zipIdx) (s := s) (G := fun i t => Good X.n (1099511627776 + i * 68719476736) (B + 1099511627776 + i * 68719476736) t) (Ok := ComeOk) (by simpa using g0) (fun i x t hx hG => by
    obtain ⟨y, hy, rfl⟩ := zip_elim hx
    have hi := get_lt hy
    rw [hlenE] at hi
    have hyc : 0 ≤ y ∧ y ≤ 68719476736 := by
      have hmem := List.mem_of_getElem? hy
      simp only [endS, List.mem_map] at hmem
      obtain ⟨c, hc1, rfl⟩ := hmem
      have := List.all_eq_true.1 hc c hc1
      simp [withinB] at this
      unfold endV; split <;> omega
    have e : ((i + 1 : Nat) : Int) * 68719476736 = i * 68719476736 + 68719476736 := by rw [Int.natCast_add, Int.add_mul]; simp
    obtain ⟨a, b⟩ := come_good hG hyc.1 hyc.2 hi (by omega) (by omega)
    exact ⟨a, b.mono (by omega) (by omega)⟩)
  have hz : (endS X.g X.cs).zipIdx.length = X.n := by simp [hlenE]
  rw [hz] at g1
  have g1 : Good X.n 2199023255552 (B + 2199023255552) (comesS X s) := g1.mono (by omega) (by omega)
  -- the gates
  obtain ⟨s2, g2⟩ := fold_good (f := flowS) (l := boardsS X gs) (s := comesS X s) (G := fun _ t => Good X.n 2199023255552 (B + 2199023255552) t) (Ok := FlowOk) g1 (fun i x t hx hG => flow_good hG (gate x (List.mem_of_getElem? hx)) (by omega) (by omega))
  -- the takes
  obtain ⟨s3, g3⟩ := fold_good (f := takeS) (l := X.ts) (s := gatesS (boardsS X gs) (comesS X s)) (G := fun _ t => Good X.n 2199023255552 (B + 2199023255552) t) (Ok := TakeOk) g2 (fun i x t hx hG => by
    have := List.all_eq_true.1 ht x (List.mem_of_getElem? hx)
    simp [indexB, waterB] at this
    exact take_good hG (by omega) (by omega) (by omega) (by omega) (by omega))
  -- what seeps
  have hzp : X.ponds.zipIdx.length = X.n := by simp [hn]
  have g3' : Good X.n 2199023255552 (B + 2199023255552) (takesS X (gatesS (boardsS X gs) (comesS X s))) := g3
  obtain ⟨s4, g4⟩ := fold_good (f := seepS X.g) (l := X.ponds.zipIdx) (s := takesS X (gatesS (boardsS X gs) (comesS X s))) (G := fun i t => Good X.n 2199023255552 (B + 2199023255552 + i * 4398046511104) t) (Ok := SeepOk X.g) (by simpa using g3') (fun i x t hx hG => by
    obtain ⟨y, hy, rfl⟩ := zip_elim hx
    have hi := get_lt hy
    have hq := pond i y hy
    have e : ((i + 1 : Nat) : Int) * 4398046511104 = i * 4398046511104 + 4398046511104 := by rw [Int.natCast_add, Int.add_mul]; simp
    obtain ⟨a, b⟩ := seep_good (g := X.g) hG (i := i) (p := y) (by omega) hq.2.2.1 hq.2.2.2.1 hq.2.2.2.2.1 (by omega) (by omega)
    exact ⟨a, b.mono (by omega) (by omega)⟩)
  rw [hzp] at g4
  have g4 : Good X.n 2199023255552 (B + perHour) (seepsS X (takesS X (gatesS (boardsS X gs) (comesS X s)))) := g4.mono (by omega) (by rw [perHour_eq]; omega)
  -- what spills
  obtain ⟨s5, g5, f5⟩ := fold_good (f := spillS) (l := X.ponds.zipIdx) (s := seepsS X (takesS X (gatesS (boardsS X gs) (comesS X s)))) (G := fun i t => Good X.n 2199023255552 (B + perHour) t ∧ ∀ (j : Nat) (p : Pd), j < i → X.ponds[j]? = some p → t.ws.getD j 0 ≤ p.full) (Ok := SpillOk) ⟨g4, fun j p hj => by omega⟩ (fun i x t hx ⟨hG, hf⟩ => by
    obtain ⟨y, hy, rfl⟩ := zip_elim hx
    have hi := get_lt hy
    have hq := pond i y hy
    obtain ⟨a, b⟩ := spill_good hG (i := i) (p := y) (by omega) hq.1 hq.2.1 (by omega) (by omega) (by rw [perHour_eq]; omega)
    refine ⟨a, b, fun j p hj hpj => ?_⟩
    have hlt : i < t.ws.length := by rw [hG.len]; omega
    have hself : (t.ws.set i (t.ws.getD i 0 - spillL t (y, i))).getD i 0 ≤ y.full := by
      rw [getD_set_eq hlt]; unfold spillL; simp only; omega
    simp only [spillS, moveW]
    by_cases hto : y.spill = -1
    · rw [if_pos hto]
      by_cases hji : j = i
      · subst hji; rw [hy] at hpj; cases hpj; exact hself
      · rw [getD_set_ne hji]; exact hf j p (by omega) hpj
    · rw [if_neg hto]
      have hjt : j ≠ y.spill.toNat := by omega
      rw [getD_set_ne hjt]
      by_cases hji : j = i
      · subst hji; rw [hy] at hpj; cases hpj; exact hself
      · rw [getD_set_ne hji]; exact hf j p (by omega) hpj)
  rw [hzp] at f5
  refine ⟨⟨fun b hbm => ?_, fun g hgm => ?_, fun t htm => ?_, fun p hpm => ?_, by omega, by omega, s1, s2, s3, s4, s5⟩, ⟨?_, g5.pos, ?_, g5.c0, g5.s0, g5.r0, g5.t0, g5.cB, g5.sB, ?_⟩, hgates, hglen⟩
  · have := List.all_eq_true.1 hb b hbm
    simp [indexB, boardsB] at this; omega
  · have := gate g hgm
    simp [gateB, indexB, waterB, boardsB] at this; omega
  · have := List.all_eq_true.1 ht t htm
    simp [indexB, waterB] at this; omega
  · obtain ⟨i, hi, rfl⟩ := List.getElem_of_mem hpm
    have := pond i _ (List.getElem?_eq_getElem hi)
    omega
  · show (hourS X gs s).ws.length = _
    rw [← hn]; exact g5.len
  · intro j p hpj
    exact f5 j p (by have := get_lt hpj; omega) hpj
  · have h1 := g5.all
    have h2 := sum_nonneg _ g5.pos
    show (spillsS X _).river + (spillsS X _).taken ≤ _
    unfold spillsS
    omega
end Go.Ax
namespace Go.Ax
open Go Go.RowKit Go.Proofs

theorem Sl.lt {H : Hp} {a : Option Addr} {n cap : Nat} {cs : List Value} (h : Sl H a n cap cs) (b : Nat) (e : a = some ⟨b, 0, none⟩) : b < H.next := by
  rcases h with ⟨h | h, _⟩ | ⟨b', h, hr, _⟩
  · rw [h] at e; cases e
  · rw [h] at e; cases e
  · rw [h] at e; cases e; exact hr.lt

/-- Where a course lies. -/
structure Wh where
  k : Nat
  wb : Nat
  ga : Option Addr
  gcap : Nat
def mkX (c : Ch) (h : Hr) (p : Wh) (g : Bool) (hb : Nat) : PX :=
  { c := p.k, hb, wb := p.wb, n := c.wn, g, pa := c.pa, pn := c.pn, pcap := c.pcap, ga := p.ga, gn := c.gn, gcap := p.gcap, ba := h.ba, bn := h.bn, bcap := h.bcap, ca := h.ca, cn := h.cn, ccap := h.ccap, ta := h.ta, tn := h.tn, tcap := h.tcap, ponds := c.ponds, bs := h.bs, cs := h.cs, ts := h.ts }
def Wh.W (p : Wh) : List Nat := p.k :: p.wb :: gl p.ga
/-- A course in the heap; it lies at L or above. -/
structure Crs (c : Ch) (g : Bool) (L : Nat) (p : Wh) (H : Hp) (gs : List Gt) (s : St) : Prop where
  hc : Cl H p.k (Co.mk (bdv g) (.slice c.pa c.pn c.pcap) (.slice p.ga c.gn p.gcap) p.wb c.wn c.wn false s.came s.seeped s.river s.taken).cells
  hw : Cl H p.wb (ints s.ws)
  hg : Own L H p.ga c.gn (gtc gs)
  hp : Sl H c.pa c.pn c.pcap (pdc c.ponds)
  lg : gs.length = c.gn
  lws : s.ws.length = c.wn
  lk : L ≤ p.k
  lw : L ≤ p.wb
  ne : p.k ≠ p.wb
  gc : p.k ∉ gl p.ga
  gw : p.wb ∉ gl p.ga
  op : ∀ b, c.pa = some ⟨b, 0, none⟩ → b < L
theorem Crs.off {c : Ch} {g : Bool} {L : Nat} {p : Wh} {H : Hp} {gs : List Gt} {s : St} (h : Crs c g L p H gs s) {b : Nat} (hb : b < L) : b ∉ p.W := by
  intro q
  simp only [Wh.W, List.mem_cons] at q
  have h1 := h.lk; have h2 := h.lw
  rcases q with q | q | q
  · omega
  · omega
  · rcases h.hg with ⟨e, _⟩ | ⟨gb, e, hl, _⟩
    · rw [e] at q; simp [gl] at q
    · rw [mem_gl e] at q; simp at q; omega
theorem Crs.offNew {c : Ch} {g : Bool} {L : Nat} {p : Wh} {H : Hp} {gs : List Gt} {s : St} (h : Crs c g L p H gs s) {b : Nat} (hb : H.next ≤ b) : b ∉ p.W := by
  intro q
  simp only [Wh.W, List.mem_cons] at q
  have h1 := h.hc.lt; have h2 := h.hw.lt
  rcases q with q | q | q
  · omega
  · omega
  · rcases h.hg with ⟨e, _⟩ | ⟨gb, e, hl, hcl⟩
    · rw [e] at q; simp [gl] at q
    · rw [mem_gl e] at q; have := hcl.lt; simp at q; omega
theorem Crs.keep {c : Ch} {g : Bool} {L : Nat} {p : Wh} {H H1 : Hp} {gs : List Gt} {s : St} (h : Crs c g L p H gs s) (k : Keep H H1 []) : Crs c g L p H1 gs s :=
  ⟨k.cl h.hc (by simp), k.cl h.hw (by simp), h.hg.keep k (fun _ _ => by simp), k.sl0 h.hp, h.lg, h.lws, h.lk, h.lw, h.ne, h.gc, h.gw, h.op⟩

/-- All that makes a chain and its hours valid. -/
structure Ch.Vd (c : Ch) : Prop where
  h16 : c.pn ≤ 16
  h1 : 1 ≤ c.pn
  h32 : c.gn ≤ 32
  wp : c.wn = c.pn
  lp : c.ponds.length = c.pn
  lg : c.gs.length = c.gn
  lw : c.ss.length = c.wn
  p : c.ponds.zipIdx.all (fun p => pondB p.1 p.2 c.pn) = true
  g : c.gs.all (fun g => gateB g c.pn) = true
  w : (c.ponds.zip c.ss).all (fun p => withinB p.2.1 p.2.2 p.1.full) = true
theorem Ch.vd {c : Ch} (h : c.ok = true) (lp : c.ponds.length = c.pn) (lg : c.gs.length = c.gn) (lw : c.ss.length = c.wn) : c.Vd := by
  simp only [Ch.ok, Bool.and_eq_true] at h
  obtain ⟨h1, h2⟩ := h
  obtain ⟨z1, z2, z3⟩ := chain_sizes h1
  simp only [chainB, Bool.and_eq_true] at h1
  simp only [waterOkB, Bool.and_eq_true] at h2
  have : c.wn = c.pn := by have := h2.1; simp at this; omega
  exact ⟨z2, z1, z3, this, lp, lg, lw, h1.1.2, h1.2, h2.2⟩
/-- the start's state -/
def s0 (g : Bool) (c : Ch) : St := ⟨endS g c.ss, 0, 0, 0, 0⟩
theorem Ch.Vd.ahead {c : Ch} (v : c.Vd) (g : Bool) : Ahead c.ponds 0 (s0 g c) := by
  have hall := List.all_eq_true.1 v.w
  have each : ∀ (j : Nat) (p : Pd), c.ponds[j]? = some p → ∃ x, c.ss[j]? = some x ∧ 0 ≤ endV g x.1 x.2 ∧ endV g x.1 x.2 ≤ p.full := by
    intro j p hp
    have hj := get_lt hp
    obtain ⟨x, hx⟩ := get_some (l := c.ss) (i := j) (by rw [v.lw, v.wp, ← v.lp]; exact hj)
    have := hall (p, x) (List.mem_of_getElem? (zip2_get hp hx))
    simp [withinB] at this
    refine ⟨x, hx, ?_⟩
    unfold endV; split <;> omega
  refine ⟨by simp [s0, endS, v.lw, v.wp, v.lp], ?_, ?_, Int.le_refl _, Int.le_refl _, Int.le_refl _, Int.le_refl _, Int.le_refl _, Int.le_refl _, by simp [s0]⟩
  · intro x hx
    simp only [s0, endS, List.mem_map] at hx
    obtain ⟨y, hy, rfl⟩ := hx
    obtain ⟨j, hj, rfl⟩ := List.getElem_of_mem hy
    obtain ⟨p, hp⟩ := get_some (l := c.ponds) (i := j) (by rw [v.lp, ← v.wp, ← v.lw]; exact hj)
    obtain ⟨x, hx, h1, _⟩ := each j p hp
    rw [List.getElem?_eq_getElem hj] at hx
    cases hx; exact h1
  · intro j p hp
    obtain ⟨x, hx, _, h2⟩ := each j p hp
    simp only [s0, endS]
    rw [getD_of (x := endV g x.1 x.2) (by simp [hx])]
    exact h2

/-- An hour of a chain, in the words of plain data. -/
def hourF (c : Ch) (g : Bool) (h : Hr) (gs : List Gt) (s : St) : St := hourS (mkX c h ⟨0, 0, none, 0⟩ g 0) gs s
def boardsF (h : Hr) (gs : List Gt) : List Gt := h.bs.foldl boardS gs

section
variable {kn : FuncId → Option Bool} {lo : Nat} {H : Hp}
theorem crs_pass {c : Ch} {g : Bool} {L : Nat} {p : Wh} {gs : List Gt} {s : St} {h : Hr} {B : Int} (hc : Crs c g L p H gs s) (v : c.Vd) (ha : h.At H) (hob : Off p.W h.ba) (hoc : Off p.W h.ca) (hot : Off p.W h.ta)
    (hv : hourB h c.pn c.gn = true) (hgs : gs.all (fun g => gateB g c.pn) = true) (hA : Ahead c.ponds B s) (hB : B ≤ 1152921504606846976) (hB0 : 0 ≤ B) (hlo : lo ≤ H.next) (hlo2 : lo ≤ L) :
    ∃ H', FnX Try.prog kn lo 53 [pt p.k, .agg h.v.toArray] H unit H' ∧ Crs c g L p H' (boardsF h gs) (hourF c g h gs s) ∧ Keep H H' p.W ∧ Ahead c.ponds (B + perHour) (hourF c g h gs s) ∧ (boardsF h gs).all (fun g => gateB g c.pn) = true := by
  have hX : (mkX c h p g H.next).W = p.W := rfl
  simp only [hourB, Bool.and_eq_true] at hv
  obtain ⟨⟨⟨⟨⟨v1, v2⟩, v3⟩, v4⟩, v5⟩, v6⟩ := hv
  have hbn : h.bn ≤ 32 := by simp at v1; omega
  have hcn : h.cn = c.pn := by simp at v2; omega
  have htn : h.tn ≤ 32 := by simp at v3; omega
  have h16 := v.h16; have hwp := v.wp; have h32 := v.h32
  obtain ⟨sf, ah, gg, gl'⟩ := hour_safe (X := mkX c h p g H.next) (gs := gs) (s := s) (B := B) (by show c.wn = c.ponds.length; rw [v.lp, v.wp]) (by show c.wn ≤ 16; omega) (by show c.pn = c.wn; omega) (by show h.cn = c.wn; omega) (by show c.gn = gs.length; rw [hc.lg]) ha.lc
    (by show c.ponds.zipIdx.all (fun p => pondB p.1 p.2 c.wn) = true; rw [hwp]; exact v.p) (by show gs.all (fun g => gateB g c.wn) = true; rw [hwp]; exact hgs) v4 v5 (by show h.ts.all (fun t => indexB t.pond c.wn && waterB t.amount) = true; rw [hwp]; exact v6) hA hB hB0
  have o : (mkX c h p g H.next).Ok lo := ⟨hc.ne, hc.gc, hc.gw, hc.offNew (Nat.le_refl _), Nat.le_trans hlo2 hc.lk, Nat.le_trans hlo2 hc.lw, fun b e => hc.off (hc.op b e), hob, hoc, hot, v.lp, ha.lb, ha.lc, ha.lt, by show c.wn ≤ 1000; omega, by show c.pn ≤ 1000; omega, by show c.gn ≤ 1000; omega, by show h.bn ≤ 1000; omega, by show h.cn ≤ 1000; omega, by show h.tn ≤ 1000; omega⟩
  have at0 : (mkX c h p g H.next).At0 lo H gs s := ⟨hc.hc, hc.hw, hc.hg.mono hlo2, hc.hp, ha.b, ha.c, ha.t, hc.lg, hc.lws⟩
  obtain ⟨H', hf, at1, k1⟩ := pass_ok (kn := kn) o rfl at0 hlo rfl sf
  refine ⟨H', hf, ?_, k1, ah, ?_⟩
  · have hgo : Own L H' p.ga c.gn (gtc (boardsF h gs)) := by
      rcases at1.hg with q | ⟨b, e, hl, hcl⟩
      · exact .inl q
      · rcases hc.hg with ⟨e', _⟩ | ⟨b', e', hl', _⟩
        · have : p.ga = some ⟨b, 0, none⟩ := e
          rw [e'] at this; cases this
        · have : p.ga = some ⟨b, 0, none⟩ := e
          rw [e'] at this; cases this
          exact .inr ⟨_, e', hl', hcl⟩
    exact ⟨at1.hc, at1.hw, hgo, at1.hp, by rw [show boardsF h gs = boardsS (mkX c h p g H.next) gs from rfl, gl', hc.lg], at1.lws, hc.lk, hc.lw, hc.ne, hc.gc, hc.gw, hc.op⟩
  · have e : (mkX c h p g H.next).n = c.wn := rfl
    rw [e, hwp] at gg
    exact gg
theorem crs_start {c : Ch} {g : Bool} (ha : c.At H) (v : c.Vd) :
    ∃ p H', FnX Try.prog kn lo 51 [c.cv, c.wv, bdv g] H (pt p.k) H' ∧ Keep H H' [] ∧ Crs c g H.next p H' c.gs (s0 g c) := by
  have h16 := v.h16; have hwp := v.wp; have h32 := v.h32
  obtain ⟨k, wb, ga', gcap', H', hf, kk, h1, h2, h3, h4, h5, h6, h7, h8⟩ := start_ok (kn := kn) (lo := lo) (H := H) (g := g) (pa := c.pa) (pn := c.pn) (pcap := c.pcap) ha.g ha.lg (by omega) ha.w ha.lw (by omega)
  have hgk : ∀ b, ga' ≠ some ⟨b, 0, none⟩ → b ∉ gl ga' := fun b hb q => by
    rcases h6 with ⟨e, _⟩ | ⟨gb, e, _⟩
    · rw [e] at q; simp [gl] at q
    · rw [mem_gl e] at q; simp at q; exact hb (by rw [q]; exact e)
  exact ⟨⟨k, wb, ga', gcap'⟩, H', hf, kk, ⟨h4, h5, h6, kk.sl0 ha.p, ha.lg, by simp [s0, endS, ha.lw], h1, h2, h3, hgk k h7, hgk wb h8, fun b e => ha.p.lt b e⟩⟩
end
end Go.Ax
namespace Go.Ax
open Go Go.RowKit Go.Proofs

theorem putRow_all : ∀ (z vs pre : List Value), z.length = vs.length → putRow (pre ++ z) pre.length vs = pre ++ vs
  | z, [], pre, h => by
    have : z = [] := List.eq_nil_of_length_eq_zero (by simpa using h)
    subst this; rfl
  | [], v :: vs, pre, h => by simp at h
  | y :: z, v :: vs, pre, h => by
    rw [putRow, List.set_append_right _ _ (Nat.le_refl _), Nat.sub_self, List.set_cons_zero]
    have := putRow_all z vs (pre ++ [v]) (by simpa using h)
    simp only [List.append_assoc, List.singleton_append, List.length_append, List.length_singleton] at this
    exact this
section
variable {P : Program} {lo : Nat}
theorem heap_build1 {n : Nat} {S : Rg} {H : Hp} {d : Option Tmp} {t e ty : TypeId} {p : String} {size : Nat} {z v : Value} {x : Operand} (he : sliceElem P t = some (e, size)) (hz : zeroOf P e = some z) (hzs : z.cells.toList.length = size) (hx : evS S x = some v) (hv : v.cells.toList.length = size) (hs : size ≤ 16777216) :
    heapOp P lo (frS n S) H ⟨d, .buildSlice t 1 #[(0, x)], ty, p, #[], none⟩ = some (.val (.slice (some ⟨H.next, 0, none⟩) 1 1) (H.new (.cells v.cells.toList e false)), .heavy) := by
  have hp := putRow_all z.cells.toList v.cells.toList [] (by rw [hzs, hv])
  simp only [List.nil_append, List.length_nil] at hp
  have h2 : Nat.ble (0 + size) z.cells.toList.length = true := Nat.ble_eq_true_of_le (by rw [hzs]; omega)
  unfold heapOp
  simp only [partsOf, ev_frS, hx, he, hz, Nat.one_mul, Nat.ble_eq_true_of_le hs, cond_true, zeros, List.append_nil, fillL, Nat.zero_mul, hv, Nat.beq_refl, h2, Bool.and_self, hp]
end
theorem se47 : sliceElem Try.prog 47 = some (30, 3) := by kernel_rfl
theorem z30 : zeroOf Try.prog 30 = some (.agg #[.slice none 0 0, .slice none 0 0, .slice none 0 0]) := by kernel_rfl

/-- Steady, by plain data. -/
def steadyB (c : Ch) (h : Hr) : Bool := match firstB (hourF c false h c.gs (s0 false c)).ws (endS false c.ss) 0 with | some _ => false | none => true
def steadyE (c : Ch) (h : Hr) : Int := checkE c [h] 1
section
variable {kn : FuncId → Option Bool} {lo : Nat} {H : Hp}
theorem steady_ok {c : Ch} {h : Hr} (hc : c.At H) (ha : h.At H) (hlo : lo ≤ H.next) :
    ∃ H', FnX Try.prog kn lo 18 [c.cv, c.wv, .agg h.v.toArray] H (if steadyE c h = 0 then .tuple #[.bool (steadyB c h), iv 0] else .tuple #[.bool false, iv (steadyE c h)]) H' ∧ Keep H H' [] := by
  have key := fnX_low (kn := kn) (lo := lo) (H := H) (args := [c.cv, c.wv, .agg h.v.toArray]) (Q := fun v H' => v = (if steadyE c h = 0 then .tuple #[.bool (steadyB c h), iv 0] else .tuple #[.bool false, iv (steadyE c h)]) ∧ Keep H H' []) Try.func18 B18 N18 Z18 L18 (by simp) ?_
  · obtain ⟨v, H', hf, rfl, q⟩ := key; exact ⟨H', hf, q⟩
  intro H1 hH1
  obtain ⟨k1, n1, c1⟩ := new_facts hH1
  clear hH1
  intro H2 hH2
  obtain ⟨k2, n2, c2⟩ := new_facts hH2
  clear hH2
  have c1 := k2.cl c1 (by simp)
  have k12 := k1.trans k2
  refine Exists.intro _ (Exists.intro _ (And.intro c1.of (And.intro (show row 2 [_, _] _ = some [.slice c.pa c.pn c.pcap, .slice c.ga c.gn c.gcap] from rfl) ?_)))
  refine Exists.intro _ (Exists.intro _ (And.intro c2.of (And.intro (show row 3 _ _ = some h.v from rfl) ?_)))
  obtain ⟨H3, hH3⟩ : ∃ H3, H2.new (.cells h.v 30 false) = H3 := ⟨_, rfl⟩
  refine And.intro rfl (Or.inr (And.intro rfl (Exists.intro _ (Exists.intro H3 (Exists.intro _ (And.intro ((heap_build1 (v := .agg h.v.toArray) se47 z30 rfl rfl rfl (by decide)).trans (by rw [← hH3]; rfl)) (And.intro (fun b e => by cases e) ?_)))))))
  obtain ⟨k3, n3, c3⟩ := new_facts hH3
  clear hH3
  have k13 := k12.trans k3
  have hc3 := hc.keep k13
  have ha3 := ha.keep k13
  have hsl : Sl H3 (some ⟨H2.next, 0, none⟩) 1 1 (hrc [h]) := .inr ⟨H2.next, rfl, by have := c3.rd; simpa [hrc] using this, Nat.le_refl _⟩
  have hn13 := k13.1
  obtain ⟨H4, h4, k4⟩ := check_ok (kn := kn) (lo := lo) (H := H3) hc3 hsl rfl (fun x hx => by simp at hx; subst hx; exact ha3) (by omega)
  refine Exists.intro _ (Exists.intro _ (And.intro (callX_args h4) ?_))
  have k14 := k13.trans k4
  by_cases he : steadyE c h = 0
  rotate_left
  · rw [if_neg he]
    refine And.intro (fun _ => ?_) (fun q => ?_)
    · exact And.intro trivial (Exists.intro _ (And.intro rfl ⟨rfl, k14⟩))
    · exfalso; apply he; simpa [steadyE] using q
  rw [if_pos he]
  refine And.intro (fun q => ?_) (fun _ => ?_)
  · exfalso; have : steadyE c h ≠ 0 := by simpa [steadyE] using q
    exact this he
  have hok : c.ok = true ∧ hourB h c.pn c.gn = true := by
    simp only [steadyE, checkE] at he
    rw [if_neg (by omega)] at he
    split at he
    · rename_i q; simpa using q
    · omega
  have v : c.Vd := Ch.vd hok.1 hc.lp hc.lg hc.lw
  have hn14 := k14.1
  have hc4 := hc.keep k14
  refine Exists.intro _ (Exists.intro _ (And.intro (k4.cl (k3.cl c1 (by simp)) (by simp)).of (And.intro (show row 2 [_, _] _ = some [.slice c.pa c.pn c.pcap, .slice c.ga c.gn c.gcap] from rfl) ?_)))
  refine And.intro rfl (Exists.intro (.agg #[.bool false]) (And.intro (by kernel_rfl) ?_))
  refine And.intro rfl (Exists.intro (bdv false) (And.intro (by kernel_rfl) ?_))
  obtain ⟨p, H5, h5, k5, r5⟩ := crs_start (kn := kn) (lo := lo) (H := H4) (g := false) hc4 v
  refine Exists.intro _ (Exists.intro _ (And.intro (callX_args h5) ?_))
  refine Exists.intro _ (Exists.intro _ (And.intro r5.hc.of (And.intro rfl ?_)))
  refine And.intro rfl (Exists.intro _ (And.intro rfl ?_))
  have k15 := k14.trans k5
  have hc5 := hc.keep k15
  have hn15 := k15.1
  obtain ⟨eb, H6, h6, k6, hb6, c6⟩ := ends_ok (kn := kn) (lo := lo) (H := H5) (g := false) hc5.w hc5.lw (by have := v.wp; have := v.h16; omega) (by omega)
  refine Exists.intro _ (Exists.intro _ (And.intro (callX_args h6) ?_))
  have r6 := r5.keep k6
  have k16 := k15.trans k6
  refine Exists.intro _ (Exists.intro _ (And.intro (k6.cl (k5.cl (k4.cl (k3.cl c2 (by simp)) (by simp)) (by simp)) (by simp)).of (And.intro (show row 3 _ _ = some h.v from rfl) ?_)))
  have ha6 := ha.keep k16
  have hn16 := k16.1
  have hn46 : H4.next ≤ H6.next := (k5.trans k6).1
  have hoff : ∀ a n cap cs, Sl H a n cap cs → Off p.W a := fun a n cap cs hs b e => r6.off (by have := hs.lt b e; omega)
  obtain ⟨H7, h7, r7, k7, _, _⟩ := crs_pass (kn := kn) (lo := lo) (h := h) r6 v ha6 (hoff _ _ _ _ ha.b) (hoff _ _ _ _ ha.c) (hoff _ _ _ _ ha.t) hok.2 v.g (v.ahead false) (by decide) (by decide) (by omega) (by omega)
  refine Exists.intro _ (Exists.intro _ (And.intro (callX_args h7) ?_))
  refine Exists.intro _ (Exists.intro _ (And.intro r7.hc.of (And.intro rfl ?_)))
  have hebW : eb ∉ p.W := r5.offNew hb6
  have c7 := k7.cl c6 hebW
  have hlen1 : (endS false c.ss).length = c.wn := by simp [endS, hc.lw]
  obtain ⟨H8, h8, k8⟩ := fb_ok (kn := kn) (lo := lo) (H := H7) (cap := c.wn) (cap2 := c.wn) r7.hw c7 r7.lws hlen1 (by have := v.wp; have := v.h16; omega)
  refine Exists.intro _ (Exists.intro _ (And.intro (callX_args h8) ?_))
  have kfin : Keep H H8 [] := by
    refine (k16.new k7 fun b hb => .inr ?_).trans k8
    rcases Nat.lt_or_ge b H4.next with q | q
    · exact absurd hb (r6.off q)
    · omega
  have hfb : fbV (hourF c false h c.gs (s0 false c)).ws (endS false c.ss) = .tuple #[iv (match firstB (hourF c false h c.gs (s0 false c)).ws (endS false c.ss) 0 with | some i => (i : Int) | none => 0), .bool (!steadyB c h)] := by
    unfold fbV steadyB
    cases firstB (hourF c false h c.gs (s0 false c)).ws (endS false c.ss) 0 <;> rfl
  rw [hfb]
  refine And.intro rfl (Exists.intro _ (And.intro rfl ?_))
  refine And.intro rfl (Exists.intro _ (And.intro rfl ?_))
  refine And.intro rfl (Exists.intro (.bool (!(!steadyB c h))) (And.intro rfl ?_))
  exact And.intro trivial (Exists.intro _ (And.intro rfl ⟨by rw [Bool.not_not]; rfl, kfin⟩))
end
end Go.Ax
namespace Go.Ax
open Go Go.RowKit Go.Proofs

theorem zeros_len (z : List Value) : ∀ n, (zeros z n).length = n * z.length
  | 0 => by simp [zeros]
  | n + 1 => by simp [zeros, zeros_len z n, Nat.succ_mul]; omega
section
variable {P : Program} {lo : Nat}
theorem heap_append_zeros {n : Nat} {S : Rg} {H : Hp} {d : Option Tmp} {t0 t1 e ty : TypeId} {x y : Operand} {p : String} {size m : Nat} {z : Value} {k : IntKind} (he : sliceElem P t0 = some (e, size)) (ht : P.underlying t1 = some (.int k)) (hz : zeroOf P e = some z)
    (hx : evS S x = some (.slice none 0 0)) (hy : evS S y = some (.int .i64 (m : Int))) (hm : m ≤ 1048576) (hm0 : 0 < m) :
    heapOp P lo (frS n S) H ⟨d, .call ⟨.builtin .append, #[x, y], #[t0, t1]⟩, ty, p, #[], none⟩ = some (.val (.slice (some ⟨H.next, 0, none⟩) m m) (H.new (.cells (zeros z.cells.toList m) e true)), .heavy) := by
  have h1 : Nat.beq m 0 = false := by rw [beq_eq]; simp; omega
  unfold heapOp
  simp only [evs, ev_frS, hx, hy, builtinV, List.getElem?_toArray, List.getElem?_cons_zero, List.getElem?_cons_succ, he, ht, hz, show ((m : Nat) : Int) = Int.ofNat m from rfl, Nat.ble_eq_true_of_le hm, cond_true, appendV, h1, cond_false]
  rfl
theorem heap_append_in {n : Nat} {S : Rg} {H : Hp} {d : Option Tmp} {t0 t1 e ep ty : TypeId} {x y : Operand} {p : String} {size m cap cap2 b : Nat} {a : Option Addr} {cs cs0 : List Value} (he : sliceElem P t0 = some (e, size)) (ht : P.underlying t1 = some (.slice ep)) (h0 : H.t.get b = some (.cells cs0 e true)) (hl0 : cs0.length = m * size)
    (hx : evS S x = some (.slice (some ⟨b, 0, none⟩) 0 cap)) (hy : evS S y = some (.slice a m cap2)) (hs : Sl H a m cap2 cs) (hl : cs.length = m * size) (hone : cs.all one = true) (hm : m ≤ 1048576) (hm0 : 0 < m) (hlo : lo ≤ b) :
    heapOp P lo (frS n S) H ⟨d, .call ⟨.builtin .append, #[x, y], #[t0, t1]⟩, ty, p, #[], none⟩ = some (.val (.slice (some ⟨b, 0, none⟩) m cap) (H.up b (.cells cs e true)), .store b) := by
  have h1 : Nat.beq m 0 = false := by rw [beq_eq]; simp; omega
  have hp := putRow_all cs0 cs [] (by rw [hl0, hl])
  simp only [List.nil_append, List.length_nil] at hp
  have h3 : Nat.ble (0 + (0 + m) * size) cs0.length = true := Nat.ble_eq_true_of_le (by rw [hl0]; simp)
  unfold heapOp
  simp only [evs, ev_frS, hx, hy, builtinV, List.getElem?_toArray, List.getElem?_cons_zero, List.getElem?_cons_succ, he, ht, src_of hs hl, appendV, h0, Nat.zero_add, Nat.ble_eq_true_of_le hm, h1, cond_true, cond_false, Nat.beq_refl, Nat.ble_eq_true_of_le hlo, hone, Bool.and_self, Nat.zero_mul, hp]
  rw [Nat.zero_add, Nat.zero_add] at h3
  simp only [h3, cond_true]
  rfl
theorem heap_append_zero {n : Nat} {S : Rg} {H : Hp} {d : Option Tmp} {t0 t1 e ep ty : TypeId} {x y : Operand} {p : String} {size m cap : Nat} {ad : Addr} (he : sliceElem P t0 = some (e, size)) (ht : P.underlying t1 = some (.slice ep))
    (hx : evS S x = some (.slice (some ad) m cap)) (hy : evS S y = some (.slice none 0 0)) (hm : m ≤ 1048576) :
    heapOp P lo (frS n S) H ⟨d, .call ⟨.builtin .append, #[x, y], #[t0, t1]⟩, ty, p, #[], none⟩ = some (.val (.slice (some ad) m cap) H, .pure) := by
  unfold heapOp
  simp only [evs, ev_frS, hx, hy, builtinV, List.getElem?_toArray, List.getElem?_cons_zero, List.getElem?_cons_succ, he, ht, srcCells, Nat.beq_refl, cond_true, appendV, Nat.add_zero, Nat.ble_eq_true_of_le hm]
theorem heap_append_nil {n : Nat} {S : Rg} {H : Hp} {d : Option Tmp} {t0 t1 e ep ty : TypeId} {x y : Operand} {p : String} {size cap : Nat} {a : Option Addr} (he : sliceElem P t0 = some (e, size)) (ht : P.underlying t1 = some (.slice ep))
    (hx : evS S x = some (.slice none 0 0)) (hy : evS S y = some (.slice a 0 cap)) (hs : Sl H a 0 cap []) :
    heapOp P lo (frS n S) H ⟨d, .call ⟨.builtin .append, #[x, y], #[t0, t1]⟩, ty, p, #[], none⟩ = some (.val (.slice none 0 0) H, .pure) := by
  unfold heapOp
  simp only [evs, ev_frS, hx, hy, builtinV, List.getElem?_toArray, List.getElem?_cons_zero, List.getElem?_cons_succ, he, ht, src_of (size := size) hs (by simp), appendV]
  rfl
/-- x[:0] of a loose block -/
theorem heap_slice0 {n : Nat} {S : Rg} {H : Hp} {d : Option Tmp} {t e ty : TypeId} {x y : Operand} {p : String} {m cap b : Nat} {cs0 : List Value} {i : TypeInfo} (ht : P.underlying t = some (.slice e)) (hi : P.info? e = some i) (hsz : Nat.beq i.size 0 = false) (h0 : H.t.get b = some (.cells cs0 e true))
    (hx : evS S x = some (.slice (some ⟨b, 0, none⟩) m cap)) (hy : evS S y = some (.int .i64 0)) :
    heapOp P lo (frS n S) H ⟨d, .slice t x none (some y) none, ty, p, #[], none⟩ = some (.val (.slice (some ⟨b, 0, none⟩) 0 cap) H, .read b) := by
  have hb : boundOf (frS n S) m (some y) = some 0 := by unfold boundOf; simp only [ev_frS, hy]
  have hb0 : boundOf (frS n S) 0 none = some 0 := rfl
  unfold heapOp
  simp only [ev_frS, hx, ht, hi, hb, hb0, h0, Nat.beq_refl, hsz, Nat.ble_eq_true_of_le (Nat.zero_le m), Nat.ble_eq_true_of_le (Nat.le_refl 0), Bool.not_false, Bool.or_true, Bool.and_self, cond_true, Nat.zero_mul, Nat.sub_zero]
  rfl
end
theorem se28 : sliceElem Try.prog 28 = some (86, 2) := by kernel_rfl
theorem z86 : zeroOf Try.prog 86 = some (.agg #[.int .i64 0, .int .i64 0]) := by kernel_rfl
theorem u28 : Try.prog.underlying 28 = some (.slice 86) := by kernel_rfl
theorem u3 : Try.prog.underlying 3 = some (.int .i64) := by kernel_rfl
theorem i86 : ∃ i, Try.prog.info? 86 = some i ∧ Nat.beq i.size 0 = false := by
  have h : (Try.prog.info? 86).map (fun i => Nat.beq i.size 0) = some false := by kernel_rfl
  cases e : Try.prog.info? 86 with
  | none => rw [e] at h; cases h
  | some i => rw [e] at h; exact ⟨i, rfl, by simpa using h⟩
theorem tkc_len (l : List Tk) : (tkc l).length = l.length * 2 := flat_len fun _ _ => rfl
theorem tkc_one (l : List Tk) : (tkc l).all one = true := by
  rw [List.all_eq_true]
  intro x hx
  simp only [tkc, List.mem_flatMap, Tk.v] at hx
  obtain ⟨t, _, h⟩ := hx
  simp at h
  rcases h with rfl | rfl <;> rfl

section
variable {kn : FuncId → Option Bool} {lo : Nat} {H : Hp}
/-- slices.Grow of nothing -/
theorem grow_ok {m : Nat} (hm : m ≤ 1000) : ∃ v H', FnX Try.prog kn lo 89 [.slice none 0 0, iv m] H v H' ∧ Keep H H' [] ∧ ((m = 0 ∧ v = .slice none 0 0) ∨ (0 < m ∧ ∃ cs0, v = .slice (some ⟨H.next, 0, none⟩) 0 m ∧ H.next < H'.next ∧ H'.t.get H.next = some (.cells cs0 86 true) ∧ cs0.length = m * 2)) := by
  have key := fnX_low (kn := kn) (lo := lo) (H := H) (args := [.slice none 0 0, iv m]) (Q := fun v H' => Keep H H' [] ∧ ((m = 0 ∧ v = .slice none 0 0) ∨ (0 < m ∧ ∃ cs0, v = .slice (some ⟨H.next, 0, none⟩) 0 m ∧ H.next < H'.next ∧ H'.t.get H.next = some (.cells cs0 86 true) ∧ cs0.length = m * 2))) Try.func89 B89 N89 Z89 L89 (by simp) ?_
  · obtain ⟨v, H', h, q⟩ := key; exact ⟨v, H', h, q⟩
  refine And.intro (fun h => absurd (of_decide_eq_true (show decide ((m : Int) < 0) = true from h)) (by omega)) (fun _ => ?_)
  refine And.intro rfl (Or.inr (And.intro rfl (Exists.intro (iv 0) (Exists.intro H (Exists.intro .pure (And.intro (by kernel_rfl) (And.intro (fun b e => by cases e) ?_)))))))
  refine And.intro ⟨by omega, by omega⟩ ?_
  refine And.intro ⟨by omega, by omega⟩ ?_
  have e0 : (m : Int) - (0 - ((0 : Nat) : Int)) = m := by omega
  rw [e0]
  rcases Nat.eq_zero_or_pos m with h0 | h0
  · subst h0
    refine And.intro (fun h => absurd (of_decide_eq_true (show decide (((0 : Nat) : Int) > 0) = true from h)) (by omega)) (fun _ => ?_)
    exact And.intro trivial (Exists.intro _ (And.intro rfl ⟨Keep.refl _ _, .inl ⟨rfl, rfl⟩⟩))
  · refine And.intro (fun _ => ?_) (fun h => absurd (show (m : Int) > 0 by omega) (of_decide_eq_false (show decide ((m : Int) > 0) = false from h)))
    refine And.intro rfl (Or.inr (And.intro rfl (Exists.intro (iv 0) (Exists.intro H (Exists.intro .pure (And.intro (by kernel_rfl) (And.intro (fun b e => by cases e) ?_)))))))
    refine And.intro rfl (Or.inr (And.intro (by kernel_rfl) (Exists.intro (.slice none 0 0) (Exists.intro H (Exists.intro .pure (And.intro (by kernel_rfl) (And.intro (fun b e => by cases e) ?_)))))))
    obtain ⟨H1, hH1⟩ : ∃ H1, H.new (.cells (zeros [.int .i64 0, .int .i64 0] m) 86 true) = H1 := ⟨_, rfl⟩
    refine And.intro rfl (Or.inr (And.intro rfl (Exists.intro _ (Exists.intro H1 (Exists.intro _ (And.intro ((heap_append_zeros se28 u3 z86 rfl rfl (by omega) h0).trans (by rw [← hH1]; rfl)) (And.intro (fun b e => by cases e) ?_)))))))
    obtain ⟨k1, n1, c1⟩ := new_facts hH1
    have hg : H1.t.get H.next = some (.cells (zeros [.int .i64 0, .int .i64 0] m) 86 true) := by
      rw [← hH1]; show (H.t.set H.next _).get H.next = _; rw [Tr.get_set, if_pos rfl]
    obtain ⟨i, hi, hsz⟩ := i86
    refine And.intro rfl (Or.inr (And.intro (by kernel_rfl) (Exists.intro _ (Exists.intro H1 (Exists.intro _ (And.intro (heap_slice0 u28 hi hsz hg rfl rfl) (And.intro (fun b e => by cases e; exact c1.lt) ?_)))))))
    exact And.intro trivial (Exists.intro _ (And.intro rfl ⟨k1, .inr ⟨h0, _, rfl, c1.lt, hg, by rw [zeros_len]; rfl⟩⟩))
end
end Go.Ax
namespace Go.Ax
open Go Go.RowKit Go.Proofs

section
variable {kn : FuncId → Option Bool} {lo : Nat} {H : Hp}
/-- slices.Concat of some takes and of nothing -/
theorem concat_ok {bb tn tcap : Nat} {ta : Option Addr} {ts : List Tk} (hbb : Rd H bb [.slice ta tn tcap, .slice none 0 0]) (ht : Sl H ta tn tcap (tkc ts)) (hl : ts.length = tn) (hn : tn ≤ 1000) (hlo : lo ≤ H.next) :
    ∃ a' cap' H', FnX Try.prog kn lo 82 [.slice (some ⟨bb, 0, none⟩) 2 2] H (.slice a' tn cap') H' ∧ Keep H H' [] ∧ Sl H' a' tn cap' (tkc ts) ∧ ∀ b, a' = some ⟨b, 0, none⟩ → H.next ≤ b := by
  have key := fnX_low (kn := kn) (lo := lo) (H := H) (args := [.slice (some ⟨bb, 0, none⟩) 2 2]) (Q := fun v H' => ∃ a' cap', v = .slice a' tn cap' ∧ Keep H H' [] ∧ Sl H' a' tn cap' (tkc ts) ∧ ∀ b, a' = some ⟨b, 0, none⟩ → H.next ≤ b) Try.func82 B82 N82 Z82 L82 (by simp) ?_
  · obtain ⟨v, H', h, a', cap', rfl, q⟩ := key; exact ⟨a', cap', H', h, q⟩
  have hlen := tkc_len ts
  refine loop_low (fn := Try.f82) E82_1 N82 L82x1 (fun i : Nat => [(0, .slice (some ⟨bb, 0, none⟩) 2 2), (3, iv (if i = 0 then 0 else tn)), (9, .slice (some ⟨bb, 0, none⟩) 2 2), (10, iv ((2 : Nat) : Int)), (11, iv i)])
    (fun k i H' => i + k = 2 ∧ H' = H) 2 0 ⟨by omega, rfl⟩ ⟨rfl, rfl, rfl, rfl, rfl, trivial⟩ ?_
  rintro k i H' ⟨hik, rfl⟩
  refine And.intro (fun hlt => ?_) (fun hge => ?_)
  · have hi : i < 2 := by have := of_decide_eq_true (show decide ((i : Int) < ((2 : Nat) : Int)) = true from hlt); omega
    refine Exists.intro i (And.intro rfl (And.intro hi ?_))
    rcases Nat.eq_zero_or_pos i with h0 | h0
    · subst h0
      refine Exists.intro _ (Exists.intro (.slice ta tn tcap) (And.intro hbb.of (And.intro rfl ?_)))
      refine And.intro ⟨by simp only [if_true]; omega, by simp only [if_true]; omega⟩ ?_
      refine And.intro (fun h => absurd (of_decide_eq_true (show decide ((if (0 : Nat) = 0 then (0 : Int) else tn) + tn < 0) = true from h)) (by simp only [if_true]; omega)) (fun _ => ?_)
      refine And.intro ⟨by omega, by omega⟩ ?_
      exact ⟨1, 1, by omega, ⟨by omega, rfl⟩, rfl, (by simp only [if_true, Int.zero_add]; rfl), rfl, rfl, rfl, trivial⟩
    · have hi1 : i = 1 := by omega
      subst hi1
      refine Exists.intro _ (Exists.intro (.slice none 0 0) (And.intro hbb.of (And.intro rfl ?_)))
      refine And.intro ⟨by simp only [Nat.one_ne_zero, if_false]; omega, by simp only [Nat.one_ne_zero, if_false]; omega⟩ ?_
      refine And.intro (fun h => absurd (of_decide_eq_true (show decide ((if (1 : Nat) = 0 then (0 : Int) else tn) + ((0 : Nat) : Int) < 0) = true from h)) (by simp only [Nat.one_ne_zero, if_false]; omega)) (fun _ => ?_)
      refine And.intro ⟨by omega, by omega⟩ ?_
      refine ⟨0, 2, by omega, ⟨by omega, rfl⟩, rfl, ?_, rfl, rfl, rfl, trivial⟩
      show some (iv ((if (1 : Nat) = 0 then (0 : Int) else tn) + ((0 : Nat) : Int))) = some (iv (if (2 : Nat) = 0 then (0 : Int) else tn))
      simp
  have hi2 : i = 2 := by have := of_decide_eq_false (show decide ((i : Int) < ((2 : Nat) : Int)) = false from hge); omega
  subst hi2
  obtain ⟨r0, H1, h1, k1, hr0⟩ := grow_ok (kn := kn) (lo := lo) (H := H') hn
  refine Exists.intro _ (Exists.intro _ (And.intro (callX_args (by simpa using h1)) ?_))
  have hbb1 := k1.rd hbb (by simp)
  have ht1 := k1.sl0 ht
  rcases hr0 with ⟨hm0, rfl⟩ | ⟨hm0, cs0, rfl, hlt1, hg1, hcs0⟩
  · -- nothing
    subst hm0
    have hts : tkc ts = [] := List.eq_nil_of_length_eq_zero (by rw [hlen]; omega)
    refine loop_low (fn := Try.f82) E82_2 N82 L82x2 (fun i : Nat => [(6, .slice none 0 0), (25, .slice (some ⟨bb, 0, none⟩) 2 2), (26, iv ((2 : Nat) : Int)), (27, iv i)])
      (fun k i H2 => i + k = 2 ∧ H2 = H1) 2 0 ⟨by omega, rfl⟩ ⟨rfl, rfl, rfl, rfl, trivial⟩ ?_
    rintro k i H2 ⟨hik, rfl⟩
    refine And.intro (fun hlt => ?_) (fun hge => ?_)
    · have hi : i < 2 := by have := of_decide_eq_true (show decide ((i : Int) < ((2 : Nat) : Int)) = true from hlt); omega
      refine Exists.intro i (And.intro rfl (And.intro hi ?_))
      rcases Nat.eq_zero_or_pos i with h0 | h0
      · subst h0
        refine Exists.intro _ (Exists.intro (.slice ta 0 tcap) (And.intro hbb1.of (And.intro rfl ?_)))
        refine And.intro rfl (Or.inr (And.intro (by kernel_rfl) (Exists.intro _ (Exists.intro H2 (Exists.intro _ (And.intro (heap_append_nil se28 u28 rfl rfl (by rw [← hts]; exact ht1)) (And.intro (fun b e => by cases e) ?_)))))))
        refine And.intro ⟨by omega, by omega⟩ ?_
        exact ⟨1, 1, by omega, ⟨by omega, rfl⟩, rfl, rfl, rfl, rfl, trivial⟩
      · have hi1 : i = 1 := by omega
        subst hi1
        refine Exists.intro _ (Exists.intro (.slice none 0 0) (And.intro hbb1.of (And.intro rfl ?_)))
        refine And.intro rfl (Or.inr (And.intro (by kernel_rfl) (Exists.intro _ (Exists.intro H2 (Exists.intro _ (And.intro (heap_append_nil se28 u28 rfl rfl (.inl ⟨.inl rfl, rfl, rfl, rfl⟩)) (And.intro (fun b e => by cases e) ?_)))))))
        refine And.intro ⟨by omega, by omega⟩ ?_
        exact ⟨0, 2, by omega, ⟨by omega, rfl⟩, rfl, rfl, rfl, rfl, trivial⟩
    · exact And.intro trivial (Exists.intro _ (And.intro rfl ⟨none, 0, rfl, k1, .inl ⟨.inl rfl, rfl, rfl, hts⟩, fun b e => by cases e⟩))
  · obtain ⟨H2, hH2⟩ : ∃ H2, H1.up H'.next (.cells (tkc ts) 86 true) = H2 := ⟨_, rfl⟩
    have hcl : Cl H1 H'.next cs0 := ⟨hlt1, _, _, hg1⟩
    obtain ⟨k2, n2, c2⟩ := up_facts hcl hH2
    have k12 : Keep H' H2 [] := k1.new k2 (by simp)
    have hbb2 := k12.rd hbb (by simp)
    refine loop_low (fn := Try.f82) E82_2 N82 L82x2 (fun i : Nat => [(6, .slice (some ⟨H'.next, 0, none⟩) (if i = 0 then 0 else tn) tn), (25, .slice (some ⟨bb, 0, none⟩) 2 2), (26, iv ((2 : Nat) : Int)), (27, iv i)])
      (fun k i H3 => i + k = 2 ∧ H3 = if i = 0 then H1 else H2) 2 0 ⟨by omega, rfl⟩ ⟨rfl, rfl, rfl, rfl, trivial⟩ ?_
    rintro k i H3 ⟨hik, rfl⟩
    refine And.intro (fun hlt => ?_) (fun hge => ?_)
    · have hi : i < 2 := by have := of_decide_eq_true (show decide ((i : Int) < ((2 : Nat) : Int)) = true from hlt); omega
      refine Exists.intro i (And.intro rfl (And.intro hi ?_))
      rcases Nat.eq_zero_or_pos i with h0 | h0
      · subst h0
        simp only [if_true]
        refine Exists.intro _ (Exists.intro (.slice ta tn tcap) (And.intro hbb1.of (And.intro rfl ?_)))
        refine And.intro rfl (Or.inr (And.intro (by kernel_rfl) (Exists.intro _ (Exists.intro H2 (Exists.intro _ (And.intro ((heap_append_in se28 u28 hg1 hcs0 rfl rfl ht1 (by rw [hlen, hl]) (tkc_one ts) (by omega) hm0 hlo).trans (by rw [hH2])) (And.intro (fun b e => by cases e) ?_)))))))
        refine And.intro ⟨by omega, by omega⟩ ?_
        exact ⟨1, 1, by omega, ⟨by omega, rfl⟩, rfl, rfl, rfl, rfl, trivial⟩
      · have hi1 : i = 1 := by omega
        subst hi1
        simp only [Nat.one_ne_zero, if_false]
        refine Exists.intro _ (Exists.intro (.slice none 0 0) (And.intro hbb2.of (And.intro rfl ?_)))
        refine And.intro rfl (Or.inr (And.intro (by kernel_rfl) (Exists.intro _ (Exists.intro H2 (Exists.intro _ (And.intro (heap_append_zero se28 u28 rfl rfl (by omega)) (And.intro (fun b e => by cases e) ?_)))))))
        refine And.intro ⟨by omega, by omega⟩ ?_
        exact ⟨0, 2, by omega, ⟨by omega, rfl⟩, rfl, rfl, rfl, rfl, trivial⟩
    · have hi2 : i = 2 := by have := of_decide_eq_false (show decide ((i : Int) < ((2 : Nat) : Int)) = false from hge); omega
      subst hi2
      exact And.intro trivial (Exists.intro _ (And.intro rfl ⟨some ⟨H'.next, 0, none⟩, tn, rfl, k12, .inr ⟨H'.next, rfl, c2.rd, Nat.le_refl _⟩, fun b e => by cases e; exact Nat.le_refl _⟩))
end
end Go.Ax
namespace Go.Ax
open Go Go.RowKit Go.Proofs

/-- The hour that is yielded: its takes lie anew. -/
def Hr.again (h : Hr) (a : Option Addr) (cap : Nat) : Hr := { h with ta := a, tcap := cap }
structure HrsAt (b1 b2 : Nat) (la : Option Addr) (ln lcap : Nat) (hs : List Hr) (H : Hp) : Prop where
  c1 : Rd H b1 [.slice la ln lcap]
  c2 : Rd H b2 [.slice none 0 0]
  l : Sl H la ln lcap (hrc hs)
  ln : hs.length = ln
  h : ∀ h ∈ hs, h.At H
theorem HrsAt.keep {b1 b2 : Nat} {la : Option Addr} {ln lcap : Nat} {hs : List Hr} {H H1 : Hp} (a : HrsAt b1 b2 la ln lcap hs H) (k : Keep H H1 []) : HrsAt b1 b2 la ln lcap hs H1 :=
  ⟨k.rd a.c1 (by simp), k.rd a.c2 (by simp), k.sl0 a.l, a.ln, fun x hx => (a.h x hx).keep k⟩

section
variable {kn : FuncId → Option Bool} {lo : Nat} {H : Hp}
theorem hours_ok {la : Option Addr} {ln lcap : Nat} : ∃ b1 b2 H', FnX Try.prog kn lo 59 [.slice la ln lcap, .slice none 0 0] H (.func (.func 81) #[] #[pt b1, pt b2]) H' ∧ Keep H H' [] ∧ H.next ≤ b1 ∧ H.next ≤ b2 ∧ Rd H' b1 [.slice la ln lcap] ∧ Rd H' b2 [.slice none 0 0] := by
  have key := fnX_low (kn := kn) (lo := lo) (H := H) (args := [.slice la ln lcap, .slice none 0 0]) (Q := fun v H' => ∃ b1 b2, v = .func (.func 81) #[] #[pt b1, pt b2] ∧ Keep H H' [] ∧ H.next ≤ b1 ∧ H.next ≤ b2 ∧ Rd H' b1 [.slice la ln lcap] ∧ Rd H' b2 [.slice none 0 0]) Try.func59 B59 N59 Z59 L59 (by simp) ?_
  · obtain ⟨v, H', h, b1, b2, rfl, q⟩ := key; exact ⟨b1, b2, H', h, q⟩
  intro H1 hH1
  obtain ⟨k1, n1, c1⟩ := new_facts hH1
  clear hH1
  intro H2 hH2
  obtain ⟨k2, n2, c2⟩ := new_facts hH2
  clear hH2
  refine And.intro rfl (Exists.intro _ (And.intro rfl ?_))
  exact And.intro trivial (Exists.intro _ (And.intro rfl ⟨H.next, H1.next, rfl, k1.trans k2, Nat.le_refl _, k1.1, (k2.cl c1 (by simp)).rd, c2.rd⟩))

/-- The hours, one by one: J holds ahead of the i-th one, Jf behind one that ends the range. -/
theorem hrs_ok {l b1 b2 : Nat} {la : Option Addr} {ln lcap : Nat} {hs : List Hr} (J : Nat → Hp → Prop) (Jf : Hp → Prop) (hlb : ln ≤ 1000) (hJ0 : J 0 H) (hJe : ∀ i H, J i H → HrsAt b1 b2 la ln lcap hs H ∧ lo ≤ H.next) (hJk : ∀ i H H1, J i H → Keep H H1 [] → J i H1) (htn : ∀ h ∈ hs, h.tn ≤ 1000)
    (step : ∀ i h a cap H, hs[i]? = some h → J i H → (h.again a cap).At H → (∀ b, a = some ⟨b, 0, none⟩ → ∃ H0, J i H0 ∧ H0.next ≤ b) → ∃ t H', CallsX Try.prog kn lo (.fn (.yield l) #[]) [iv i, .agg (h.again a cap).v.toArray] H (.bool t) H' ∧ (t = true → J (i + 1) H') ∧ (t = false → Jf H')) :
    ∃ H', FnX Try.prog kn lo 81 [.func (.yield l) #[] #[], pt b1, pt b2] H unit H' ∧ (J ln H' ∨ Jf H') := by
  have key := fnX_low (kn := kn) (lo := lo) (H := H) (args := [.func (.yield l) #[] #[], pt b1, pt b2]) (Q := fun v H' => v = unit ∧ (J ln H' ∨ Jf H')) Try.func81 B81 N81 Z81 L81 (by simp) ?_
  · obtain ⟨v, H', h, rfl, q⟩ := key; exact ⟨H', h, q⟩
  refine Exists.intro _ (Exists.intro _ (And.intro (hJe 0 H hJ0).1.c1.of (And.intro rfl ?_)))
  refine loop_low (fn := Try.f81) E81_1 N81 L81x1 (fun i : Nat => [(0, .func (.yield l) #[] #[]), (2, pt b2), (6, .slice la ln lcap), (7, iv ln), (8, iv i)])
    (fun k i H' => i + k = ln ∧ J i H') ln 0 ⟨by omega, hJ0⟩ ⟨rfl, rfl, rfl, rfl, rfl, trivial⟩ ?_
  rintro k i H1 ⟨hik, hJ⟩
  refine And.intro (fun hlt => ?_) (fun hge => ?_)
  · have hi : i < ln := by simpa using hlt
    obtain ⟨he, hlo1⟩ := hJe i H1 hJ
    have hll := he.l
    rcases hll with ⟨_, h0, _⟩ | ⟨lb, ela, hlc, _⟩
    · omega
    obtain ⟨x, hx⟩ := get_some (l := hs) (i := i) (by rw [he.ln]; omega)
    rw [ela]
    refine Exists.intro i (And.intro rfl (And.intro hi ?_))
    refine Exists.intro _ (Exists.intro _ (And.intro hlc.of (And.intro (row_flat (f := Hr.v) (fun _ _ => rfl) hx) ?_)))
    intro H2 hH2
    obtain ⟨k2, n2, c2⟩ := new_facts hH2
    obtain ⟨_, e2, l2, g2⟩ := id c2
    refine Exists.intro _ (Exists.intro _ (Exists.intro _ (And.intro g2 (And.intro hlo1 (And.intro rfl (And.intro rfl (And.intro (by simp) ?_)))))))
    intro H3 hH3
    obtain ⟨k3, n3, c3⟩ := up_facts c2 hH3
    have c3 : Cl H3 H1.next x.v := c3
    have k13 : Keep H1 H3 [] := k2.new k3 (by simp)
    have he3 := he.keep k13
    refine Exists.intro _ (Exists.intro _ (And.intro c3.of (And.intro rfl ?_)))
    refine Exists.intro _ (Exists.intro _ (And.intro he3.c2.of (And.intro rfl ?_)))
    refine And.intro rfl (Or.inr (And.intro rfl (Exists.intro (.slice (some ⟨H3.next, 0, none⟩) 2 2) (Exists.intro (H3.new (.cells [.slice x.ta x.tn x.tcap, .slice none 0 0] 28 false)) (Exists.intro .heavy (And.intro (by kernel_rfl) (And.intro (fun b e => by cases e) ?_)))))))
    generalize hH4 : H3.new (.cells [.slice x.ta x.tn x.tcap, .slice none 0 0] 28 false) = H4
    obtain ⟨k4, n4, c4⟩ := new_facts hH4
    have he4 := he3.keep k4
    have hxm := List.mem_of_getElem? hx
    have hxa := he4.h x hxm
    have hn13 := k13.1
    have hn34 := k4.1
    obtain ⟨a', cap', H5, h5, k5, s5, o5⟩ := concat_ok (kn := kn) (lo := lo) (H := H4) c4.rd hxa.t hxa.lt (htn x hxm) (by omega)
    refine Exists.intro _ (Exists.intro _ (And.intro (callX_args h5) ?_))
    have c5 := k5.cl (k4.cl c3 (by simp)) (by simp)
    obtain ⟨_, e5, l5, g5⟩ := id c5
    refine Exists.intro _ (Exists.intro _ (Exists.intro _ (And.intro g5 (And.intro hlo1 (And.intro rfl (And.intro rfl (And.intro (by simp [Hr.v]) ?_)))))))
    intro H6 hH6
    obtain ⟨k6, n6, c6⟩ := up_facts c5 hH6
    have c6 : Cl H6 H1.next (x.again a' cap').v := c6
    have k16 : Keep H1 H6 [] := (k13.trans (k4.trans k5)).new k6 (by simp)
    refine Exists.intro _ (Exists.intro _ (And.intro c6.of (And.intro (show row 3 _ _ = some (x.again a' cap').v from rfl) ?_)))
    have hJ6 := hJk i H1 H6 hJ k16
    have hx6 := (hJe i H6 hJ6).1.h x hxm
    have hlt1 := c2.lt
    have hat : (x.again a' cap').At H6 := ⟨hx6.b, hx6.c, k6.sl s5 (fun b e => by have := o5 b e; simp; omega), hx6.lb, hx6.lc, hx6.lt⟩
    obtain ⟨t, H7, h7, ht1, ht2⟩ := step i x a' cap' H6 hx hJ6 hat (fun b e => ⟨H1, hJ, by have := o5 b e; omega⟩)
    refine Exists.intro _ (Exists.intro _ (And.intro h7 ?_))
    refine And.intro rfl (Exists.intro (.bool (!t)) (And.intro rfl ?_))
    cases t
    · refine And.intro (fun _ => ?_) (fun h => by cases h)
      exact And.intro trivial (Exists.intro _ (And.intro rfl ⟨rfl, .inr (ht2 rfl)⟩))
    · refine And.intro (fun h => by cases h) (fun _ => ?_)
      refine And.intro ⟨by omega, by omega⟩ ?_
      exact ⟨k - 1, i + 1, by omega, ⟨by omega, ht1 rfl⟩, rfl, rfl, rfl, rfl, rfl, trivial⟩
  · have hi : ¬ i < ln := by simpa using hge
    have hin : i = ln := by omega
    subst hin
    exact And.intro trivial (Exists.intro _ (And.intro rfl ⟨rfl, .inl hJ⟩))
end
end Go.Ax
namespace Go.Ax
open Go Go.RowKit Go.Proofs

section
variable {P : Program} {kn : FuncId → Option Bool} {lo n : Nat}
theorem low_seq {c : Code} {a b : RC} (h : low P n c = some (.seq a b)) : ∃ x y, c = .seq x y ∧ low P n x = some a ∧ low P n y = some b := by
  cases c <;> simp only [low] at h <;> try (cases h; done)
  · rename_i id ops draw
    cases draw <;> simp only [cond_true, cond_false] at h
    · split at h <;> cases h
    · obtain ⟨_, h⟩ := bif_some h
      split at h <;> cases h
  · rename_i x y
    split at h <;> first | (cases h; done) | skip
    rename_i a' ha
    split at h <;> first | (cases h; done) | skip
    rename_i b' hb
    cases h
    exact ⟨x, y, rfl, ha, hb⟩
  · split at h <;> first | (cases h; done) | skip
    split at h <;> cases h
  · split at h <;> cases h
theorem low_block {c : Code} {id : Nat} {a : RC} (h : low P n c = some (.block id a)) : ∃ x, c = .block id x ∧ low P n x = some a := by
  cases c <;> simp only [low] at h <;> try (cases h; done)
  · rename_i id ops draw
    cases draw <;> simp only [cond_true, cond_false] at h
    · split at h <;> cases h
    · obtain ⟨_, h⟩ := bif_some h
      split at h <;> cases h
  · split at h <;> first | (cases h; done) | skip
    split at h <;> cases h
  · split at h <;> first | (cases h; done) | skip
    split at h <;> cases h
  · rename_i id' x
    split at h <;> first | (cases h; done) | skip
    rename_i a' ha
    cases h
    exact ⟨x, rfl, ha⟩
theorem low_other {c d : Code} (h : low P n c = some (.other d)) : c = d := by
  cases c <;> simp only [low] at h <;> try (cases h; done)
  · rename_i id ops draw
    cases draw <;> simp only [cond_true, cond_false] at h
    · split at h <;> cases h
    · obtain ⟨_, h⟩ := bif_some h
      split at h <;> cases h
  · split at h <;> first | (cases h; done) | skip
    split at h <;> cases h
  · split at h <;> first | (cases h; done) | skip
    split at h <;> cases h
  · split at h <;> cases h
  · cases h; rfl
  · cases h; rfl
theorem TriR.lowR {c : Code} {a b : RC} {S : Rg} {H : Hp} {K : Exit → Rg → Hp → List Deferred → Prop} (hL : low P n c = some (.seq a b)) (h : wC P kn lo n false a S H fun e S' H' => match e with | .normal => ∀ y, low P n y = some b → TriR P kn lo n y S' H' K | e => K e S' H' []) : TriR P kn lo n c S H K := by
  obtain ⟨x, y, rfl, hx, hy⟩ := low_seq hL
  refine TriR.seqR ((wC_sound false x hx h).mono fun e S' H' q => ?_)
  cases e with
  | normal => exact q y hy
  | _ => exact q
theorem TriR.lowL {c : Code} {a b : RC} {S : Rg} {H : Hp} {K : Exit → Rg → Hp → List Deferred → Prop} (hL : low P n c = some (.seq a b)) (h : ∀ x, low P n x = some a → TriR P kn lo n x S H fun e S' H' D => match e with | .normal => wC P kn lo n false b S' H' (fun e S2 H2 => K e S2 H2 D) | e => K e S' H' D) : TriR P kn lo n c S H K := by
  obtain ⟨x, y, rfl, hx, hy⟩ := low_seq hL
  refine TriR.seqL fun A h1 h2 h3 h4 => ?_
  obtain ⟨e, S', H', T', D, q, r⟩ := h x hx A h1 h2 h3 h4
  refine ⟨e, S', H', T', D, ?_, r⟩
  cases e with
  | normal => exact wC_sound false y hy q
  | _ => exact q
theorem TriR.lowB {c : Code} {id : Nat} {d : Code} {S : Rg} {H : Hp} {K : Exit → Rg → Hp → List Deferred → Prop} (hL : low P n c = some (.block id (.other d))) (h : TriR P kn lo n d S H fun e S' H' D => match e with | .exit j => (bif Nat.beq j id then K .normal S' H' D else K (.exit j) S' H' D) | e => K e S' H' D) : TriR P kn lo n c S H K := by
  obtain ⟨x, rfl, hx⟩ := low_block hL
  have := low_other hx
  subst this
  exact TriR.block h
theorem fnX_lowR {f : FuncId} {fn : Func} {R : RC} {n : Nat} {rs : List ResultVar} {args : List Value} {H : Hp} {Q : Value → Hp → Prop} (hf : P.funcs[f]? = some fn) (hb : fn.body = some (at_ fn [])) (hn : fn.ntmps = n) (hz : fn.results.toList = rs) (hL : low P fn.ntmps (at_ fn []) = some R) (hl : args.length ≤ n)
    (h : ∀ y, low P n y = some R → TriR P kn lo n y (argS args 0) H fun e S' H' D => (match e with | .normal => True | .ret => True | _ => False) ∧
      ((D = [] ∧ ∃ vs, resS P S' H' rs = some vs ∧ Q (retV vs) H') ∨
        ∃ r, D = [{ target := .collected r, args := #[] }] ∧ lo ≤ r ∧ H'.t.get r = some (.dfr (some [])) ∧ ∀ H2, H2.next = H'.next → (∀ b, b ≠ r → H2.t.get b = H'.t.get b) → ∃ vs, resS P S' H2 rs = some vs ∧ Q (retV vs) H2)) :
    ∃ v H', FnX P kn lo f args H v H' ∧ Q v H' := by
  subst hn hz
  exact fnX_of_triR hf hb hl (h _ hL)
theorem load_one {t : TypeId} (ht : isAggB P t = some false) {H : Hp} {b : Nat} {v : Value} (h : Rd H b [v]) : loadV P H t ⟨b, 0, none⟩ = some v := by
  unfold loadV
  simp only [h.of, ht]
  rfl
theorem res3 {S : Rg} {H : Hp} {a b c : Nat} {t1 t2 t3 : TypeId} {v1 v2 v3 : Value} {x y z : Nat} (ha : lk S a = some (pt x)) (hb : lk S b = some (pt y)) (hc : lk S c = some (pt z)) (h1 : isAggB P t1 = some false) (h2 : isAggB P t2 = some false) (h3 : isAggB P t3 = some false) (r1 : Rd H x [v1]) (r2 : Rd H y [v2]) (r3 : Rd H z [v3]) :
    resS P S H [.cell a t1, .cell b t2, .cell c t3] = some [v1, v2, v3] := by
  simp only [resS, ha, hb, hc, load_one h1 r1, load_one h2 r2, load_one h3 r3]
end
theorem ag3 : isAggB Try.prog 3 = some false := by kernel_rfl
theorem ag38 : isAggB Try.prog 38 = some false := by kernel_rfl

/-- validLeast -/
def leastB (ponds : List Pd) (ms : List Int) (pn mn : Nat) : Bool := !((mn : Int) != (pn : Int)) && (ponds.zip ms).all fun p => !(decide (p.2 < 0)) && !(decide (p.2 > p.1.full))
section
variable {kn : FuncId → Option Bool} {lo : Nat} {H : Hp}
theorem least_ok {pa ga ma : Option Addr} {pn pcap gn gcap mn mcap : Nat} {ponds : List Pd} {ms : List Int} (hp : Sl H pa pn pcap (pdc ponds)) (hpn : ponds.length = pn) (hm : Sl H ma mn mcap (ints ms)) (hmn : ms.length = mn) (hb : pn ≤ 1000) (hlo : lo ≤ H.next) :
    ∃ H', FnX Try.prog kn lo 58 [chv pa pn pcap ga gn gcap, .slice ma mn mcap] H (.bool (leastB ponds ms pn mn)) H' ∧ Keep H H' [] := by
  have key := fnX_low (kn := kn) (lo := lo) (H := H) (args := [chv pa pn pcap ga gn gcap, .slice ma mn mcap]) (Q := fun v H' => v = .bool (leastB ponds ms pn mn) ∧ Keep H H' []) Try.func58 B58 N58 Z58 L58 (by simp) ?_
  · obtain ⟨v, H', h, rfl, q⟩ := key; exact ⟨H', h, q⟩
  intro H1 hH1
  obtain ⟨k1, n1, c1⟩ := new_facts hH1
  clear hH1
  refine Exists.intro _ (Exists.intro _ (And.intro c1.of (And.intro rfl ?_)))
  refine And.intro (fun hne => ?_) (fun heq => ?_)
  · exact And.intro trivial (Exists.intro _ (And.intro rfl ⟨by simp only [leastB, hne]; rfl, k1⟩))
  · have hwp : mn = pn := by simp at heq; omega
    refine Exists.intro _ (Exists.intro _ (And.intro c1.of (And.intro rfl ?_)))
    refine loop_low (fn := Try.f58) E58_1 N58 L58x1 (fun i : Nat => [(1, .slice ma mn mcap), (14, .slice pa pn pcap), (15, iv pn), (16, iv i)])
      (fun k i H2 => i + k = pn ∧ Keep H1 H2 [] ∧ ((ponds.zip ms).take i).all (fun p => !(decide (p.2 < 0)) && !(decide (p.2 > p.1.full))) = true) pn 0 ⟨by omega, Keep.refl _ _, rfl⟩ ⟨rfl, rfl, rfl, rfl, trivial⟩ ?_
    rintro k i H2 ⟨hik, hk, hall⟩
    refine And.intro (fun hlt => ?_) (fun hge => ?_)
    · have hi : i < pn := by simpa using hlt
      have hp2 := hk.sl0 (k1.sl0 hp)
      have hw2 := hk.sl0 (k1.sl0 hm)
      rcases hp2 with ⟨_, h0, _⟩ | ⟨pb, rfl, hpc, _⟩
      · omega
      rcases hw2 with ⟨_, h0, _⟩ | ⟨wb, rfl, hwc, _⟩
      · omega
      obtain ⟨x, hx⟩ := get_some (l := ponds) (i := i) (by omega)
      obtain ⟨y, hy⟩ := get_some (l := ms) (i := i) (by omega)
      have hz := zip2_get hx hy
      refine Exists.intro i (And.intro rfl (And.intro hi ?_))
      refine Exists.intro _ (Exists.intro _ (And.intro hpc.of (And.intro (row_flat (f := Pd.v) (fun _ _ => rfl) hx) ?_)))
      intro H3 hH3
      obtain ⟨k3, n3, c3⟩ := new_facts hH3
      obtain ⟨_, e3, l3, g3⟩ := id c3
      have hkn := hk.1
      refine Exists.intro _ (Exists.intro _ (Exists.intro _ (And.intro g3 (And.intro (by omega) (And.intro rfl (And.intro rfl (And.intro (by simp) ?_)))))))
      intro H4 hH4
      obtain ⟨k4, n4, c4⟩ := up_facts c3 hH4
      have c4 : Cl H4 H2.next x.v := c4
      have k24 : Keep H2 H4 [] := k3.new k4 (by simp)
      have hwc4 := k24.rd hwc (by simp)
      have bad : (!(decide (y < 0)) && !(decide (y > x.full))) = false → leastB ponds ms pn mn = false := fun q => by
        have := all_fail (f := fun p : Pd × Int => !(decide (p.2 < 0)) && !(decide (p.2 > p.1.full))) hz q
        simp [leastB, this]
      have good : (!(decide (y < 0)) && !(decide (y > x.full))) = true → ((ponds.zip ms).take (i + 1)).all (fun p => !(decide (p.2 < 0)) && !(decide (p.2 > p.1.full))) = true := fun q => by
        rw [all_step hz, hall, q]; rfl
      refine Exists.intro i (And.intro rfl (And.intro (by omega) ?_))
      refine Exists.intro _ (Exists.intro (iv y) (And.intro hwc4.of (And.intro (by rw [Nat.zero_add, Nat.mul_one, ints_get (by omega), getD_of hy]) (And.intro hwc4.lt ?_))))
      intro t1 h1
      cases t1
      · refine Exists.intro i (And.intro rfl (And.intro (by omega) ?_))
        refine Exists.intro _ (Exists.intro (iv y) (And.intro hwc4.of (And.intro (by rw [Nat.zero_add, Nat.mul_one, ints_get (by omega), getD_of hy]) (And.intro hwc4.lt ?_))))
        refine Exists.intro _ (Exists.intro _ (And.intro c4.of (And.intro rfl (And.intro c4.lt ?_))))
        intro t2 h2
        refine And.intro rfl (Exists.intro _ (And.intro rfl ?_))
        refine And.intro trivial ?_
        cases t2
        · refine condF ?_
          refine And.intro (show InR ((i : Int) + 1) from ⟨by omega, by omega⟩) ?_
          exact ⟨k - 1, i + 1, by omega, ⟨by omega, hk.trans k24, good (by rw [h1, h2]; rfl)⟩, rfl, rfl, rfl, rfl, trivial⟩
        · refine condT ?_
          exact And.intro trivial (Exists.intro _ (And.intro rfl ⟨by rw [bad (by rw [h1, h2]; rfl)]; rfl, k1.trans (hk.trans k24)⟩))
      · refine And.intro rfl (Exists.intro _ (And.intro rfl ?_))
        refine And.intro trivial ?_
        refine condT ?_
        exact And.intro trivial (Exists.intro _ (And.intro rfl ⟨by rw [bad (by rw [h1]; rfl)]; rfl, k1.trans (hk.trans k24)⟩))
    · have hi : ¬ i < pn := by simpa using hge
      rw [List.take_of_length_le (by simp; omega)] at hall
      refine And.intro trivial (Exists.intro _ (And.intro rfl ⟨?_, k1.trans hk⟩))
      unfold leastB
      rw [hall, hwp]; simp [retV]
end
end Go.Ax
namespace Go.Ax
open Go Go.RowKit Go.Proofs

/-- Low, by plain data. -/
def lowGo (c : Ch) (ms : List Int) : List Gt → St → List Hr → Nat → Option (Nat × Nat)
  | _, _, [], _ => none
  | gs, s, h :: r, i => match firstB (hourF c false h gs s).ws ms 0 with
    | some p => some (i, p)
    | none => lowGo c ms (boardsF h gs) (hourF c false h gs s) r (i + 1)
theorem lowGo_drop {c : Ch} {ms : List Int} {gs : List Gt} {s : St} {hs : List Hr} {i : Nat} {h : Hr} (hx : hs[i]? = some h) : lowGo c ms gs s (hs.drop i) i = match firstB (hourF c false h gs s).ws ms 0 with
    | some p => some (i, p)
    | none => lowGo c ms (boardsF h gs) (hourF c false h gs s) (hs.drop (i + 1)) (i + 1) := by
  have hi := get_lt hx
  rw [List.drop_eq_getElem_cons hi]
  rw [List.getElem?_eq_getElem hi] at hx
  cases hx
  rfl

theorem Crs.keepW {c : Ch} {g : Bool} {L : Nat} {p : Wh} {H H1 : Hp} {gs : List Gt} {s : St} {w : List Nat} (h : Crs c g L p H gs s) (k : Keep H H1 w) (hw : ∀ b, b ∈ w → b ∉ p.W) (hp : Off w c.pa) : Crs c g L p H1 gs s := by
  have a : p.k ∉ w := fun q => hw _ q (by simp [Wh.W])
  have b : p.wb ∉ w := fun q => hw _ q (by simp [Wh.W])
  exact ⟨k.cl h.hc a, k.cl h.hw b, h.hg.keep k (fun b e q => hw _ q (by simp [Wh.W, mem_gl e])), k.sl h.hp hp, h.lg, h.lws, h.lk, h.lw, h.ne, h.gc, h.gw, h.op⟩

/-- Where Low's things lie. -/
structure LW where
  b1 : Nat
  b2 : Nat
  bx : Nat
  bl : Nat
  r8 : Nat
  r9 : Nat
  r10 : Nat
  r : Nat
def LW.all (x : LW) : List Nat := [x.b1, x.b2, x.bx, x.bl, x.r8, x.r9, x.r10, x.r]
structure LQ where
  c : Ch
  la : Option Addr
  ln : Nat
  lcap : Nat
  hs : List Hr
  ma : Option Addr
  mn : Nat
  mcap : Nat
  ms : List Int
structure LQ.Off (q : LQ) (w : List Nat) : Prop where
  p : Go.Ax.Off w q.c.pa
  l : Go.Ax.Off w q.la
  m : Go.Ax.Off w q.ma
  h : ∀ h ∈ q.hs, Go.Ax.Off w h.ba ∧ Go.Ax.Off w h.ca ∧ Go.Ax.Off w h.ta
/-- All that Low has at hand in a round. -/
structure LE (q : LQ) (x : LW) (p : Wh) (H : Hp) : Prop where
  hrs : HrsAt x.b1 x.b2 q.la q.ln q.lcap q.hs H
  bx : Rd H x.bx [pt p.k]
  bl : Rd H x.bl [.slice q.ma q.mn q.mcap]
  ms : Sl H q.ma q.mn q.mcap (ints q.ms)
  r8 : ∃ v, Cl H x.r8 [v]
  r9 : ∃ v, Cl H x.r9 [v]
  r10 : ∃ v, Cl H x.r10 [v]
  dfr : x.r < H.next ∧ H.t.get x.r = some (.dfr (some []))
theorem LE.keep {q : LQ} {x : LW} {p : Wh} {H H1 : Hp} {w : List Nat} (h : LE q x p H) (k : Keep H H1 w) (o : q.Off w) (hx : ∀ b ∈ x.all, b ∉ w) : LE q x p H1 := by
  have m : ∀ b, b ∈ x.all → b ∉ w := hx
  refine ⟨⟨k.rd h.hrs.c1 (m _ (by simp [LW.all])), k.rd h.hrs.c2 (m _ (by simp [LW.all])), k.sl h.hrs.l o.l, h.hrs.ln, fun y hy => ?_⟩, k.rd h.bx (m _ (by simp [LW.all])), k.rd h.bl (m _ (by simp [LW.all])), k.sl h.ms o.m, ?_, ?_, ?_, ?_⟩
  · have a := h.hrs.h y hy
    obtain ⟨o1, o2, o3⟩ := o.h y hy
    exact ⟨k.sl a.b o1, k.sl a.c o2, k.sl a.t o3, a.lb, a.lc, a.lt⟩
  · obtain ⟨v, hv⟩ := h.r8; exact ⟨v, k.cl hv (m _ (by simp [LW.all]))⟩
  · obtain ⟨v, hv⟩ := h.r9; exact ⟨v, k.cl hv (m _ (by simp [LW.all]))⟩
  · obtain ⟨v, hv⟩ := h.r10; exact ⟨v, k.cl hv (m _ (by simp [LW.all]))⟩
  · exact ⟨Nat.lt_of_lt_of_le h.dfr.1 k.1, by rw [k.2 _ h.dfr.1 (m _ (by simp [LW.all]))]; exact h.dfr.2⟩
theorem off_nil (q : LQ) : q.Off [] := ⟨fun _ _ => by simp, fun _ _ => by simp, fun _ _ => by simp, fun _ _ => ⟨fun _ _ => by simp, fun _ _ => by simp, fun _ _ => by simp⟩⟩
end Go.Ax
namespace Go.Ax
open Go Go.RowKit Go.Proofs

def foS (c : Ch) (hs : List Hr) (i : Nat) : List Gt × St := (hs.take i).foldl (fun x h => (boardsF h x.1, hourF c false h x.1 x.2)) (c.gs, s0 false c)
def LQ.go (q : LQ) : Option (Nat × Nat) := lowGo q.c q.ms q.c.gs (s0 false q.c) q.hs 0
def LQ.v (q : LQ) : Int × Int × Int := if checkE q.c q.hs q.ln = 0 then (if leastB q.c.ponds q.ms q.c.pn q.mn = true then (match q.go with | some (i, p) => ((i : Int), (p : Int), 0) | none => (0, 0, 4)) else (0, 0, 2)) else (0, 0, checkE q.c q.hs q.ln)
noncomputable abbrev asg27 : Code := at_ Try.f27 [1, 1, 1, 1, 0, 1, 0, 0]
noncomputable abbrev body27 : Code := at_ Try.f27 [1, 1, 1, 1, 0, 1, 0, 1]
abbrev S27 (x : LW) : Rg := [(7, pt x.bl), (8, pt x.r8), (9, pt x.r9), (10, pt x.r10), (12, pt x.bx)]
structure LJ (lo : Nat) (H : Hp) (q : LQ) (L : Nat) (p : Wh) (x : LW) (l : Nat) (i : Nat) (H' : Hp) : Prop where
  crs : Crs q.c false L p H' (foS q.c q.hs i).1 (foS q.c q.hs i).2
  ah : Ahead q.c.ponds (i * perHour) (foS q.c q.hs i).2
  gts : (foS q.c q.hs i).1.all (fun g => gateB g q.c.pn) = true
  go : q.go = lowGo q.c q.ms (foS q.c q.hs i).1 (foS q.c q.hs i).2 (q.hs.drop i) i
  le : LE q x p H'
  lp : Lp Try.prog H' l .ready none 52 (S27 x) [35, 36] asg27 body27 x.r
  ll : l < H'.next
  lo : lo ≤ H'.next
  kp : Keep H H' []
structure LF (H : Hp) (q : LQ) (x : LW) (l : Nat) (H' : Hp) : Prop where
  go : ∃ i p, q.go = some (i, p) ∧ Rd H' x.r8 [iv i] ∧ Rd H' x.r9 [iv p] ∧ Rd H' x.r10 [iv 0]
  dfr : x.r < H'.next ∧ H'.t.get x.r = some (.dfr (some []))
  lp : Lp Try.prog H' l .done (some .ret) 52 (S27 x) [35, 36] asg27 body27 x.r
  kp : Keep H H' []
/-- What does not change while Low's hours pass. -/
structure LC (lo : Nat) (H : Hp) (q : LQ) (L : Nat) (p : Wh) (x : LW) (l : Nat) : Prop where
  vd : q.c.Vd
  ln : q.ln ≤ 200
  hl : q.hs.length = q.ln
  hv : ∀ h ∈ q.hs, hourB h q.c.pn q.c.gn = true
  mn : q.mn = q.c.pn
  ml : q.ms.length = q.mn
  HL : H.next ≤ L
  loL : lo ≤ L
  Ll : L ≤ l
  xl : ∀ b ∈ x.all, b ≠ l
  xW : ∀ b ∈ x.all, b ∉ p.W
  lW : l ∉ p.W
  xH : ∀ b ∈ x.all, H.next ≤ b
  x8 : lo ≤ x.r8 ∧ lo ≤ x.r9 ∧ lo ≤ x.r10
  x9 : x.r8 ≠ x.r9 ∧ x.r8 ≠ x.r10 ∧ x.r9 ≠ x.r10
  xr : x.r ≠ x.r8 ∧ x.r ≠ x.r9 ∧ x.r ≠ x.r10
  oW : q.Off p.W
  ol : q.Off [l]

section
variable {kn : FuncId → Option Bool} {lo L l : Nat} {H : Hp} {q : LQ} {p : Wh} {x : LW}
theorem LJ.keep0 (C : LC lo H q L p x l) {i : Nat} {H1 H2 : Hp} (j : LJ lo H q L p x l i H1) (k : Keep H1 H2 []) : LJ lo H q L p x l i H2 :=
  ⟨j.crs.keep k, j.ah, j.gts, j.go, j.le.keep k (off_nil q) (fun _ _ => by simp), j.lp.keep k j.ll (by simp), Nat.lt_of_lt_of_le j.ll k.1, Nat.le_trans j.lo k.1, j.kp.trans k⟩
theorem low_round (C : LC lo H q L p x l) {i : Nat} {h : Hr} {a : Option Addr} {cap : Nat} {H1 : Hp} (hx : q.hs[i]? = some h) (j : LJ lo H q L p x l i H1) (ha : (h.again a cap).At H1) (hoff : ∀ b, a = some ⟨b, 0, none⟩ → ∃ H0, LJ lo H q L p x l i H0 ∧ H0.next ≤ b) :
    ∃ t H', CallsX Try.prog kn lo (.fn (.yield l) #[]) [iv i, .agg (h.again a cap).v.toArray] H1 (.bool t) H' ∧ (t = true → LJ lo H q L p x l (i + 1) H') ∧ (t = false → LF H q x l H') := by
  have hi := get_lt hx
  have hlq := C.hl
  have hln := C.ln
  have L1 : low Try.prog 52 asg27 = some R27x1 := N27 ▸ L27x1
  have L2 : low Try.prog 52 body27 = some R27x2 := N27 ▸ L27x2
  have hLl := C.Ll
  have hloL := C.loL
  refine yield_ok (S1 := (36, .agg (h.again a cap).v.toArray) :: (35, iv i) :: S27 x) (Q := fun t H' => (t = true → LJ lo H q L p x l (i + 1) H') ∧ (t = false → LF H q x l H')) j.lp (by omega) (by rfl) rfl (wC_sound true _ L1 ?_)
  intro H2 hH2
  obtain ⟨k2, n2, c2⟩ := new_facts hH2
  obtain ⟨_, e2, l2, g2⟩ := id c2
  refine Exists.intro _ (Exists.intro _ (Exists.intro _ (And.intro g2 (And.intro j.lo (And.intro rfl (And.intro rfl (And.intro (by simp) ?_)))))))
  intro H3 hH3
  obtain ⟨k3, n3, c3⟩ := up_facts c2 hH3
  have c3 : Cl H3 H1.next (h.again a cap).v := c3
  have k13 : Keep H1 H3 [] := k2.new k3 (by simp)
  have j3 := j.keep0 C k13
  refine And.intro trivial (And.intro j3.lp ?_)
  intro H4 s4
  have k4 := s4.keep
  have lp4 := s4.lp j3.lp
  have hn13 := k13.1
  have hn4 : H4.next = H3.next := s4.1
  have ne1l : H1.next ≠ l := by have := j.ll; omega
  have crs4 : Crs q.c false L p H4 (foS q.c q.hs i).1 (foS q.c q.hs i).2 := j3.crs.keepW k4 (fun b hb => by simp at hb; subst hb; exact C.lW) C.ol.p
  have le4 : LE q x p H4 := j3.le.keep k4 C.ol (fun b hb => by simpa using C.xl b hb)
  have c4 := k4.cl c3 (by simpa using ne1l)
  have hm := h.again a cap
  have hat4 : (h.again a cap).At H4 := by
    have h0 := ha.keep k13
    obtain ⟨o1, o2, _⟩ := C.ol.h h (List.mem_of_getElem? hx)
    refine ⟨k4.sl h0.b o1, k4.sl h0.c o2, k4.sl h0.t (fun b e => ?_), h0.lb, h0.lc, h0.lt⟩
    obtain ⟨H0, j0, hb⟩ := hoff b e
    have := j0.ll
    simp; omega
  refine wC_sound true _ L2 ?_
  refine Exists.intro _ (Exists.intro _ (And.intro le4.bx.of (And.intro rfl ?_)))
  refine Exists.intro _ (Exists.intro _ (And.intro c4.of (And.intro (show row 3 _ _ = some (h.again a cap).v from rfl) ?_)))
  obtain ⟨o1, o2, _⟩ := C.oW.h h (List.mem_of_getElem? hx)
  have hoT : Off p.W (h.again a cap).ta := fun b e => by
    obtain ⟨H0, j0, hb⟩ := hoff b e
    exact j0.crs.offNew hb
  have hlo4 : lo ≤ H4.next := by have := j.lo; omega
  have hB : (i : Int) * perHour ≤ 1152921504606846976 := by rw [perHour_eq]; omega
  have hB0 : 0 ≤ (i : Int) * perHour := by rw [perHour_eq]; omega
  obtain ⟨H5, h5, crs5, k5, ah5, gts5⟩ := crs_pass (kn := kn) (lo := lo) crs4 C.vd hat4 o1 o2 hoT (C.hv h (List.mem_of_getElem? hx)) j.gts j.ah hB hB0 hlo4 hloL
  refine Exists.intro _ (Exists.intro _ (And.intro (callX_args h5) ?_))
  have hfo : foS q.c q.hs (i + 1) = (boardsF h (foS q.c q.hs i).1, hourF q.c false h (foS q.c q.hs i).1 (foS q.c q.hs i).2) := take_step hx
  have crs5 : Crs q.c false L p H5 (foS q.c q.hs (i + 1)).1 (foS q.c q.hs (i + 1)).2 := by rw [hfo]; exact crs5
  have ah5 : Ahead q.c.ponds ((i + 1 : Nat) * perHour) (foS q.c q.hs (i + 1)).2 := by
    rw [hfo]
    have e : ((i + 1 : Nat) : Int) * perHour = i * perHour + perHour := by rw [Int.natCast_add, Int.add_mul]; simp
    rw [e]; exact ah5
  have gts5 : (foS q.c q.hs (i + 1)).1.all (fun g => gateB g q.c.pn) = true := by rw [hfo]; exact gts5
  have le5 := le4.keep k5 C.oW C.xW
  have lp5 : Lp Try.prog H5 l .busy none 52 (S27 x) [35, 36] asg27 body27 x.r := lp4.keep k5 (by have := j3.ll; omega) C.lW
  have hn5 := k5.1
  refine Exists.intro _ (Exists.intro _ (And.intro le5.bx.of (And.intro rfl (And.intro le5.bx.lt ?_))))
  refine Exists.intro _ (Exists.intro _ (And.intro crs5.hc.of (And.intro rfl (And.intro crs5.hc.lt ?_))))
  refine Exists.intro _ (Exists.intro _ (And.intro le5.bl.of (And.intro rfl (And.intro le5.bl.lt ?_))))
  have hms := le5.ms
  have v1 := C.vd.h1; have v2 := C.vd.wp; have v3 := C.mn; have v4 := C.vd.h16
  rcases hms with ⟨_, h0, _⟩ | ⟨mb, ema, hmr, _⟩
  · omega
  have hlw : (foS q.c q.hs (i + 1)).2.ws.length = q.c.wn := crs5.lws
  have k05 : Keep H H5 [] := by
    refine ((j.kp.trans k13).new k4 (fun b hb => ?_)).new k5 (fun b hb => ?_)
    · simp at hb; subst hb; exact .inr (by have := C.HL; omega)
    · refine .inr ?_
      rcases Nat.lt_or_ge b H.next with w | w
      · exact absurd hb (crs5.off (by have := C.HL; omega))
      · exact w
  obtain ⟨H6, h6, k6⟩ : ∃ H6, FnX Try.prog kn lo 54 [slv p.wb q.c.wn q.c.wn, .slice q.ma q.mn q.mcap] H5 (fbV (foS q.c q.hs (i + 1)).2.ws q.ms) H6 ∧ Keep H5 H6 [] := by
    rw [ema, show q.mn = q.c.wn by omega]
    have hcl : ∃ e l', True := ⟨0, 0, trivial⟩
    exact fb_rd crs5.hw.rd hmr hlw (by have := C.ml; omega) (by omega)
  refine Exists.intro _ (Exists.intro _ (And.intro (callX_args h6) ?_))
  have crs6 := crs5.keep k6
  have le6 := le5.keep k6 (off_nil q) (fun _ _ => by simp)
  have hl5 : l < H5.next := by have := j3.ll; omega
  have lp6 := lp5.keep k6 hl5 (by simp)
  have k06 := k05.trans k6
  have hn6 := k6.1
  have hgo := j.go
  rw [lowGo_drop hx] at hgo
  have e2 : (hourF q.c false h (foS q.c q.hs i).1 (foS q.c q.hs i).2) = (foS q.c q.hs (i + 1)).2 := by rw [hfo]
  have e1 : boardsF h (foS q.c q.hs i).1 = (foS q.c q.hs (i + 1)).1 := by rw [hfo]
  rw [e1, e2] at hgo
  cases hf : firstB (foS q.c q.hs (i + 1)).2.ws q.ms 0 with
  | none =>
    rw [show fbV (foS q.c q.hs (i + 1)).2.ws q.ms = .tuple #[iv 0, .bool false] by unfold fbV; rw [hf]]
    rw [hf] at hgo
    refine And.intro rfl (Exists.intro _ (And.intro rfl ?_))
    refine And.intro rfl (Exists.intro _ (And.intro rfl ?_))
    refine And.intro (by repeat' first | exact True.intro | exact (fun h => h) | refine And.intro ?_ ?_) ?_
    refine condF ?_
    refine And.intro lp6 ?_
    intro H7 s7
    refine ⟨fun _ => ?_, fun e => by cases e⟩
    have k7 := s7.keep
    have hn7 : H7.next = H6.next := s7.1
    refine ⟨crs6.keepW k7 (fun b hb => by simp at hb; subst hb; exact C.lW) C.ol.p, ah5, gts5, hgo, le6.keep k7 C.ol (fun b hb => by simpa using C.xl b hb), s7.lp lp6, by omega, by omega, k06.new k7 (fun b hb => ?_)⟩
    simp at hb; subst hb; exact .inr (by have := C.HL; omega)
  | some pp =>
    rw [show fbV (foS q.c q.hs (i + 1)).2.ws q.ms = .tuple #[iv pp, .bool true] by unfold fbV; rw [hf]]
    rw [hf] at hgo
    refine And.intro rfl (Exists.intro _ (And.intro rfl ?_))
    refine And.intro rfl (Exists.intro _ (And.intro rfl ?_))
    refine And.intro (by repeat' first | exact True.intro | exact (fun h => h) | refine And.intro ?_ ?_) ?_
    refine condT ?_
    obtain ⟨x8, x9, x10⟩ := C.x8
    obtain ⟨d1, d2, d3⟩ := C.x9
    obtain ⟨f1, f2, f3⟩ := C.xr
    obtain ⟨w8, r8⟩ := le6.r8
    obtain ⟨_, ea, la, ga⟩ := id r8
    refine Exists.intro _ (Exists.intro _ (Exists.intro _ (And.intro ga (And.intro x8 (And.intro rfl (And.intro rfl (And.intro (by simp) ?_)))))))
    intro H7 hH7
    obtain ⟨k7, n7, c7⟩ := up_facts r8 hH7
    have le7 : ∃ v, Cl H7 x.r9 [v] := by obtain ⟨v, hv⟩ := le6.r9; exact ⟨v, k7.cl hv (by simpa using d1.symm)⟩
    obtain ⟨w9, r9⟩ := le7
    obtain ⟨_, eb, lb, gb⟩ := id r9
    refine Exists.intro _ (Exists.intro _ (Exists.intro _ (And.intro gb (And.intro x9 (And.intro rfl (And.intro rfl (And.intro (by simp) ?_)))))))
    intro H8 hH8
    obtain ⟨k8, n8, c8⟩ := up_facts r9 hH8
    have le8 : ∃ v, Cl H8 x.r10 [v] := by obtain ⟨v, hv⟩ := le6.r10; exact ⟨v, k8.cl (k7.cl hv (by simpa using d2.symm)) (by simpa using d3.symm)⟩
    obtain ⟨w10, r10⟩ := le8
    obtain ⟨_, ec, lc, gc⟩ := id r10
    refine Exists.intro _ (Exists.intro _ (Exists.intro _ (And.intro gc (And.intro x10 (And.intro rfl (And.intro rfl (And.intro (by simp) ?_)))))))
    intro H9 hH9
    obtain ⟨k9, n9, c9⟩ := up_facts r10 hH9
    have k69 : Keep H6 H9 [x.r8, x.r9, x.r10] := (k7.mono (by simp)).trans ((k8.mono (by simp)).trans (k9.mono (by simp)))
    have xl8 := C.xl x.r8 (by simp [LW.all]); have xl9 := C.xl x.r9 (by simp [LW.all]); have xl10 := C.xl x.r10 (by simp [LW.all])
    have lp9 := lp6.keep k69 (by omega) (by simp; omega)
    refine And.intro lp9 ?_
    intro H10 s10
    refine ⟨fun e => (by cases e), fun _ => ?_⟩
    have k10 := s10.keep
    have xlr := C.xl x.r (by simp [LW.all])
    have xh8 := C.xH x.r8 (by simp [LW.all]); have xh9 := C.xH x.r9 (by simp [LW.all]); have xh10 := C.xH x.r10 (by simp [LW.all])
    refine ⟨⟨i, pp, hgo, k10.rd (k9.cl (k8.cl c7 (by simpa using d1)) (by simpa using d2)).rd (by simpa using xl8), k10.rd (k9.cl c8 (by simpa using d3)).rd (by simpa using xl9), k10.rd c9.rd (by simpa using xl10)⟩, ?_, s10.lp lp9, ?_⟩
    · have hd := le6.dfr
      have hn10 := k10.1
      refine ⟨by omega, ?_⟩
      rw [k10.2 _ (by omega) (by simpa using xlr), k69.2 _ hd.1 (by simp; omega)]
      exact hd.2
    · refine (k06.new k69 (fun b hb => .inr ?_)).new k10 (fun b hb => .inr ?_)
      · simp at hb; omega
      · simp at hb; subst hb; have := C.HL; omega
end
end Go.Ax
namespace Go.Ax
open Go Go.RowKit Go.Proofs

section
variable {kn : FuncId → Option Bool} {lo : Nat} {H : Hp}
theorem low_ok {q : LQ} (hc : q.c.At H) (hl : Sl H q.la q.ln q.lcap (hrc q.hs)) (hln : q.hs.length = q.ln) (hh : ∀ h ∈ q.hs, h.At H) (hm : Sl H q.ma q.mn q.mcap (ints q.ms)) (hmn : q.ms.length = q.mn) (hlo : lo ≤ H.next) :
    ∃ H', FnX Try.prog kn lo 27 [q.c.cv, q.c.wv, .slice q.la q.ln q.lcap, .slice q.ma q.mn q.mcap] H (.tuple #[iv q.v.1, iv q.v.2.1, iv q.v.2.2]) H' ∧ Keep H H' [] := by
  have key := fnX_lowR (kn := kn) (lo := lo) (H := H) (args := [q.c.cv, q.c.wv, .slice q.la q.ln q.lcap, .slice q.ma q.mn q.mcap]) (Q := fun v H' => v = .tuple #[iv q.v.1, iv q.v.2.1, iv q.v.2.2] ∧ Keep H H' []) Try.func27 B27 N27 Z27 L27 (by simp) ?_
  · obtain ⟨v, H', h, rfl, k⟩ := key; exact ⟨H', h, k⟩
  intro y hy
  refine TriR.lowR hy ?_
  intro H1 hH1; obtain ⟨k1, n1, c1⟩ := new_facts hH1; clear hH1
  intro H2 hH2; obtain ⟨k2, n2, c2⟩ := new_facts hH2; clear hH2
  intro H3 hH3; obtain ⟨k3, n3, c3⟩ := new_facts hH3; clear hH3
  intro H4 hH4; obtain ⟨k4, n4, c4⟩ := new_facts hH4; clear hH4
  intro H5 hH5; obtain ⟨k5, n5, c5⟩ := new_facts hH5; clear hH5
  have k05 : Keep H H5 [] := k1.trans (k2.trans (k3.trans (k4.trans k5)))
  have c1 := k5.cl (k4.cl (k3.cl (k2.cl c1 (by simp)) (by simp)) (by simp)) (by simp)
  have c2 : Cl H5 H1.next [.slice q.ma q.mn q.mcap] := k5.cl (k4.cl (k3.cl c2 (by simp)) (by simp)) (by simp)
  have c3 := k5.cl (k4.cl c3 (by simp)) (by simp)
  have c4 := k5.cl c4 (by simp)
  have old : ∀ H6 H9 : Hp, Keep H5 H6 [] → Keep H6 H9 [H2.next, H3.next, H4.next] → Keep H H9 [] := fun H6 H9 k6 k9 => (k05.trans k6).new k9 (fun b hb => .inr (by simp at hb; omega))
  intro y hy
  refine TriR.lowR hy ?_
  have hc5 := hc.keep k05
  have hl5 := k05.sl0 hl
  have hn05 := k05.1
  refine Exists.intro _ (Exists.intro _ (And.intro c1.of (And.intro (show row 2 [_, _] _ = some [.slice q.c.pa q.c.pn q.c.pcap, .slice q.c.ga q.c.gn q.c.gcap] from rfl) ?_)))
  obtain ⟨H6, h6, k6⟩ := check_ok (kn := kn) (lo := lo) (H := H5) hc5 hl5 hln (fun x hx => (hh x hx).keep k05) (by omega)
  refine Exists.intro _ (Exists.intro _ (And.intro (callX_args h6) ?_))
  have store3 : ∀ (a b e : Int) (H6 : Hp), (∃ v, Cl H6 H2.next [v]) → (∃ v, Cl H6 H3.next [v]) → (∃ v, Cl H6 H4.next [v]) → ∀ K : Hp → Prop, (∀ H9, Rd H9 H2.next [iv a] → Rd H9 H3.next [iv b] → Rd H9 H4.next [iv e] → Keep H6 H9 [H2.next, H3.next, H4.next] → K H9) →
      ∃ cs e1 l1, H6.t.get H2.next = some (.cells cs e1 l1) ∧ lo ≤ H2.next ∧ (iv a).cells.toList = [iv a] ∧ one (iv a) = true ∧ 0 < cs.length ∧ ∀ H7, H6.up H2.next (.cells (cs.set 0 (iv a)) e1 l1) = H7 →
        ∃ cs e1 l1, H7.t.get H3.next = some (.cells cs e1 l1) ∧ lo ≤ H3.next ∧ (iv b).cells.toList = [iv b] ∧ one (iv b) = true ∧ 0 < cs.length ∧ ∀ H8, H7.up H3.next (.cells (cs.set 0 (iv b)) e1 l1) = H8 →
          ∃ cs e1 l1, H8.t.get H4.next = some (.cells cs e1 l1) ∧ lo ≤ H4.next ∧ (iv e).cells.toList = [iv e] ∧ one (iv e) = true ∧ 0 < cs.length ∧ ∀ H9, H8.up H4.next (.cells (cs.set 0 (iv e)) e1 l1) = H9 → K H9 := by
    intro a b e H6 ⟨v8, q8⟩ ⟨v9, q9⟩ ⟨v10, q10⟩ K hK
    obtain ⟨_, ea, la, ga⟩ := id q8
    refine ⟨_, ea, la, ga, by omega, rfl, rfl, by simp, fun H7 h7 => ?_⟩
    obtain ⟨k7, _, d7⟩ := up_facts q8 h7
    have q9 := k7.cl q9 (by simp; omega)
    have q10 := k7.cl q10 (by simp; omega)
    obtain ⟨_, eb, lb, gb⟩ := id q9
    refine ⟨_, eb, lb, gb, by omega, rfl, rfl, by simp, fun H8 h8 => ?_⟩
    obtain ⟨k8, _, d8⟩ := up_facts q9 h8
    have q10 := k8.cl q10 (by simp; omega)
    obtain ⟨_, ec, lc, gc⟩ := id q10
    refine ⟨_, ec, lc, gc, by omega, rfl, rfl, by simp, fun H9 h9 => ?_⟩
    obtain ⟨k9, _, d9⟩ := up_facts q10 h9
    exact hK H9 (k9.cl (k8.cl d7 (by simp; omega)) (by simp; omega)).rd (k9.cl d8 (by simp; omega)).rd d9.rd ((k7.mono (by simp)).trans ((k8.mono (by simp)).trans (k9.mono (by simp))))
  by_cases he : checkE q.c q.hs q.ln = 0
  rotate_left
  · have hv : q.v = (0, 0, checkE q.c q.hs q.ln) := by unfold LQ.v; rw [if_neg he]
    rw [hv]
    refine And.intro (fun _ => ?_) (fun w => absurd (show checkE q.c q.hs q.ln = 0 by simpa using w) he)
    refine store3 0 0 _ H6 ⟨_, k6.cl c3 (by simp)⟩ ⟨_, k6.cl c4 (by simp)⟩ ⟨_, k6.cl c5 (by simp)⟩ _ ?_
    intro H9 r1 r2 r3 kk
    have kk := old H6 H9 k6 kk
    exact And.intro trivial (Or.inl ⟨rfl, _, res3 (x := H2.next) (y := H3.next) (z := H4.next) rfl rfl rfl ag3 ag3 ag38 r1 r2 r3, rfl, kk⟩)
  refine And.intro (fun w => absurd he (show checkE q.c q.hs q.ln ≠ 0 by simpa using w)) (fun _ => ?_)
  have hok : q.c.ok = true ∧ q.ln ≤ 200 ∧ ∀ h ∈ q.hs, hourB h q.c.pn q.c.gn = true := by
    unfold checkE at he
    split at he
    · omega
    · rename_i w
      split at he
      · rename_i w2
        simp only [Bool.and_eq_true] at w2
        exact ⟨w2.1, by omega, List.all_eq_true.1 w2.2⟩
      · omega
  obtain ⟨ok1, ok2, ok3⟩ := hok
  have v : q.c.Vd := Ch.vd ok1 hc.lp hc.lg hc.lw
  have k06 := k05.trans k6
  have hn6 := k6.1
  intro y hy
  refine TriR.lowR hy ?_
  have c1 := k6.cl c1 (by simp)
  have c2 := k6.cl c2 (by simp)
  refine Exists.intro _ (Exists.intro _ (And.intro c1.of (And.intro (show row 2 [_, _] _ = some [.slice q.c.pa q.c.pn q.c.pcap, .slice q.c.ga q.c.gn q.c.gcap] from rfl) ?_)))
  refine Exists.intro _ (Exists.intro _ (And.intro c2.of (And.intro rfl ?_)))
  have hc6 := hc.keep k06
  refine callB (least_ok (lo := lo) hc6.p hc6.lp (k06.sl0 hm) hmn (by have := v.h16; omega) (by omega)) ?_
  intro t H7 ht k7
  refine And.intro rfl (Exists.intro (.bool (!t)) (And.intro rfl ?_))
  cases t
  · have hv : q.v = (0, 0, 2) := by unfold LQ.v; rw [if_pos he, ht]; rfl
    rw [hv]
    refine condT ?_
    have k67 := k6.trans k7
    refine store3 0 0 2 H7 ⟨_, k67.cl c3 (by simp)⟩ ⟨_, k67.cl c4 (by simp)⟩ ⟨_, k67.cl c5 (by simp)⟩ _ ?_
    intro H9 r1 r2 r3 kk
    have kk := old H7 H9 k67 kk
    exact And.intro trivial (Or.inl ⟨rfl, _, res3 (x := H2.next) (y := H3.next) (z := H4.next) rfl rfl rfl ag3 ag3 ag38 r1 r2 r3, rfl, kk⟩)
  refine condF ?_
  intro y hy
  refine TriR.lowR hy ?_
  have k57 := k6.trans k7
  have k07 := k05.trans k57
  have hc7 := hc.keep k07
  have hn7 := k07.1
  have hn67 := k7.1
  refine Exists.intro _ (Exists.intro _ (And.intro (k7.cl c1 (by simp)).of (And.intro (show row 2 [_, _] _ = some [.slice q.c.pa q.c.pn q.c.pcap, .slice q.c.ga q.c.gn q.c.gcap] from rfl) ?_)))
  refine And.intro rfl (Exists.intro (.agg #[.bool false]) (And.intro (by kernel_rfl) ?_))
  refine And.intro rfl (Exists.intro (bdv false) (And.intro (by kernel_rfl) ?_))
  obtain ⟨p, H8, h8, k8, r8⟩ := crs_start (kn := kn) (lo := lo) (H := H7) (g := false) hc7 v
  refine Exists.intro _ (Exists.intro _ (And.intro (callX_args h8) ?_))
  intro H9 hH9; obtain ⟨k9, n9, c9⟩ := new_facts hH9; clear hH9
  have hn8 := k8.1
  have hn9 := k9.1
  obtain ⟨_, e9, l9, g9⟩ := id c9
  refine Exists.intro _ (Exists.intro _ (Exists.intro _ (And.intro g9 (And.intro (by omega) (And.intro rfl (And.intro rfl (And.intro (by simp) ?_)))))))
  intro H10 hH10; obtain ⟨k10, n10, c10⟩ := up_facts c9 hH10; clear hH10
  have c10 : Cl H10 H8.next [pt p.k] := c10
  have k810 : Keep H8 H10 [] := k9.new k10 (by simp)
  intro y hy
  refine TriR.lowL hy ?_
  intro x hx
  refine TriR.lowR hx ?_
  obtain ⟨b1, b2, H11, h11, k11, hb1, hb2, d1, d2⟩ := hours_ok (kn := kn) (lo := lo) (H := H10) (la := q.la) (ln := q.ln) (lcap := q.lcap)
  refine Exists.intro _ (Exists.intro _ (And.intro (callX_args h11) ?_))
  intro y hy
  refine TriR.lowB hy ?_
  rw [E27_1]
  refine TriR.range rfl ?_
  intro H12 k12 n12 hd hlp
  have k712 : Keep H7 H12 [] := k8.trans (k810.trans (k11.trans k12))
  have k012 : Keep H H12 [] := k07.trans k712
  have k512 : Keep H5 H12 [] := k57.trans k712
  have hn10 := k810.1
  have hn11 := k11.1
  have hn12 := k12.1
  let X : LW := ⟨b1, b2, H8.next, H1.next, H2.next, H3.next, H4.next, H11.next⟩
  have crs12 : Crs q.c false H7.next p H12 q.c.gs (s0 false q.c) := r8.keep (k810.trans (k11.trans k12))
  have xall : ∀ b, b ∈ X.all → (H.next ≤ b ∧ b < H7.next) ∨ (H8.next ≤ b ∧ b ≤ H11.next) := by
    intro b hb
    have e1 := d1.lt; have e2 := d2.lt
    simp only [LW.all, X, List.mem_cons, List.not_mem_nil, or_false] at hb
    omega
  have offs : ∀ w : List Nat, (∀ b, b < H.next → b ∉ w) → q.Off w := fun w hw => ⟨fun b e => hw b (hc.p.lt b e), fun b e => hw b (hl.lt b e), fun b e => hw b (hm.lt b e), fun h hm' => ⟨fun b e => hw b ((hh h hm').b.lt b e), fun b e => hw b ((hh h hm').c.lt b e), fun b e => hw b ((hh h hm').t.lt b e)⟩⟩
  have C : LC lo H q H7.next p X (H11.next + 1) := by
    refine ⟨v, ok2, hln, ok3, ?_, hmn, hn7, by omega, by omega, fun b hb => ?_, fun b hb => ?_, r8.offNew (by omega), fun b hb => ?_, ⟨by show lo ≤ H2.next; omega, by show lo ≤ H3.next; omega, by show lo ≤ H4.next; omega⟩, ⟨by show H2.next ≠ H3.next; omega, by show H2.next ≠ H4.next; omega, by show H3.next ≠ H4.next; omega⟩, ⟨by show H11.next ≠ H2.next; omega, by show H11.next ≠ H3.next; omega, by show H11.next ≠ H4.next; omega⟩, offs _ fun b hb => r8.off (by omega), offs _ fun b hb => by simp; omega⟩
    · simp only [leastB, Bool.and_eq_true] at ht
      have := ht.1; simp at this; omega
    · have := xall b hb; omega
    · rcases xall b hb with w | w
      · exact r8.off w.2
      · exact r8.offNew w.1
    · have := xall b hb; omega
  have j0 : LJ lo H q H7.next p X (H11.next + 1) 0 H12 := by
    have k1112 := k12
    refine ⟨crs12, ?_, v.g, rfl, ⟨⟨k12.rd d1 (by simp), k12.rd d2 (by simp), k012.sl0 hl, hln, fun x hx => (hh x hx).keep k012⟩, (k12.cl (k11.cl c10 (by simp)) (by simp)).rd, (k712.cl (k7.cl c2 (by simp)) (by simp)).rd, k012.sl0 hm, ⟨_, k512.cl c3 (by simp)⟩, ⟨_, k512.cl c4 (by simp)⟩, ⟨_, k512.cl c5 (by simp)⟩, by show H11.next < H12.next; omega, hd⟩, hlp.weak ⟨rfl, rfl, rfl, rfl, rfl, trivial⟩, by omega, by omega, k012⟩
    have := v.ahead false
    simpa [foS] using this
  obtain ⟨H13, h13, hend⟩ := hrs_ok (kn := kn) (lo := lo) (H := H12) (l := H11.next + 1) (b1 := b1) (b2 := b2) (la := q.la) (ln := q.ln) (lcap := q.lcap) (hs := q.hs) (LJ lo H q H7.next p X (H11.next + 1)) (LF H q X (H11.next + 1)) (by omega) j0 (fun i H' j => ⟨j.le.hrs, j.lo⟩) (fun i H1 H2 j k => j.keep0 C k) (fun h hm' => by
    have := ok3 h hm'
    simp [hourB] at this; omega) (fun i h a cap H' hx j ha hoff => low_round C hx j ha hoff)
  refine Exists.intro _ (Exists.intro H13 (And.intro (callX_func rfl (by simpa using h13)) ?_))
  rcases hend with j | f
  · refine ⟨.ready, none, _, j.lp, by simp, ?_⟩
    intro H14 s14
    have k14 := s14.keep
    have le14 := j.le.keep k14 C.ol (fun b hb => by simpa using C.xl b hb)
    have hv : q.v = (0, 0, 4) := by
      have hg := j.go
      rw [List.drop_eq_nil_of_le (by omega)] at hg
      unfold LQ.v
      rw [if_pos he, if_pos ht, hg]
      rfl
    rw [hv]
    refine store3 0 0 4 H14 le14.r8 le14.r9 le14.r10 _ ?_
    intro H15 r1 r2 r3 k15
    have hdf := le14.dfr
    have hn15 := k15.1
    have hd15 : H15.t.get H11.next = some (.dfr (some [])) := by
      have : H11.next ∉ [H2.next, H3.next, H4.next] := by simp; omega
      rw [k15.2 _ hdf.1 this]; exact hdf.2
    have kH : Keep H H15 [] := (j.kp.new k14 (fun b hb => .inr (by simp at hb; omega))).new k15 (fun b hb => .inr (by simp at hb; omega))
    refine And.intro trivial (Or.inr ⟨H11.next, rfl, by omega, hd15, fun H16 hn16 hs16 => ?_⟩)
    have k16 : Keep H15 H16 [H11.next] := ⟨by omega, fun b _ hb => hs16 b (by simpa using hb)⟩
    exact ⟨_, res3 (x := H2.next) (y := H3.next) (z := H4.next) rfl rfl rfl ag3 ag3 ag38 (k16.rd r1 (by simp; omega)) (k16.rd r2 (by simp; omega)) (k16.rd r3 (by simp; omega)), rfl, kH.new k16 (fun b hb => .inr (by simp at hb; omega))⟩
  · refine ⟨.done, some .ret, _, f.lp, by simp, ?_⟩
    intro H14 s14
    have k14 := s14.keep
    obtain ⟨i, pp, hg, r1, r2, r3⟩ := f.go
    have r1 : Rd H13 H2.next [iv i] := r1
    have r2 : Rd H13 H3.next [iv pp] := r2
    have r3 : Rd H13 H4.next [iv 0] := r3
    have hv : q.v = ((i : Int), (pp : Int), 0) := by unfold LQ.v; rw [if_pos he, if_pos ht, hg]
    rw [hv]
    have hdf := f.dfr
    have hdf1 : H11.next < H13.next := hdf.1
    have hd14 : H14.t.get H11.next = some (.dfr (some [])) := by
      have : H11.next ∉ [H11.next + 1] := by simp
      rw [k14.2 _ hdf1 this]; exact hdf.2
    have kH : Keep H H14 [] := f.kp.new k14 (fun b hb => .inr (by simp at hb; omega))
    have hn14 := k14.1
    refine And.intro trivial (Or.inr ⟨H11.next, rfl, by omega, hd14, fun H16 hn16 hs16 => ?_⟩)
    have k16 : Keep H14 H16 [H11.next] := ⟨by omega, fun b _ hb => hs16 b (by simpa using hb)⟩
    exact ⟨_, res3 (x := H2.next) (y := H3.next) (z := H4.next) rfl rfl rfl ag3 ag3 ag38 (k16.rd (k14.rd r1 (by simp; omega)) (by simp; omega)) (k16.rd (k14.rd r2 (by simp; omega)) (by simp; omega)) (k16.rd (k14.rd r3 (by simp; omega)) (by simp; omega)), rfl, kH.new k16 (fun b hb => .inr (by simp at hb; omega))⟩
end
end Go.Ax
namespace Go.Ax
open Go Go.RowKit Go.Proofs

/-- What append has made so far, one by one: nothing, or a block that is full. -/
def Acc (lo f : Nat) (e : TypeId) (H : Hp) (v : Value) (n : Nat) (cs : List Value) : Prop :=
  (n = 0 ∧ cs = [] ∧ v = .slice none 0 0) ∨ ∃ b, v = .slice (some ⟨b, 0, none⟩) n n ∧ 0 < n ∧ f ≤ b ∧ lo ≤ b ∧ b < H.next ∧ H.t.get b = some (.cells cs e true)
theorem Acc.sl {lo f : Nat} {e : TypeId} {H : Hp} {v : Value} {n : Nat} {cs : List Value} (h : Acc lo f e H v n cs) : ∃ a cap, v = .slice a n cap ∧ Sl H a n cap cs ∧ ∀ b, a = some ⟨b, 0, none⟩ → f ≤ b := by
  rcases h with ⟨rfl, rfl, rfl⟩ | ⟨b, rfl, h0, hf, hl, hn, hg⟩
  · exact ⟨none, 0, rfl, .inl ⟨.inl rfl, rfl, rfl, rfl⟩, fun b e => by cases e⟩
  · refine ⟨_, _, rfl, .inr ⟨b, rfl, ⟨hn, ?_⟩, Nat.le_refl _⟩, fun b e => by cases e; exact hf⟩
    unfold cellsOf; rw [hg]
theorem Acc.keep {lo f : Nat} {e : TypeId} {H H1 : Hp} {v : Value} {n : Nat} {cs : List Value} (h : Acc lo f e H v n cs) (k : Keep H H1 []) : Acc lo f e H1 v n cs :=
  h.imp id fun ⟨b, e1, h0, hf, hl, hn, hg⟩ => ⟨b, e1, h0, hf, hl, Nat.lt_of_lt_of_le hn k.1, by rw [k.2 b hn (by simp)]; exact hg⟩
section
variable {P : Program} {lo : Nat}
theorem heap_append_one {H : Hp} {t0 t1 e ep : TypeId} {size k cap2 f : Nat} {a : Option Addr} {v : Value} {cs news : List Value} (he : sliceElem P t0 = some (e, size)) (ht : P.underlying t1 = some (.slice ep))
    (hs : Sl H a 1 cap2 news) (hl : news.length = 1 * size) (hz : 0 < size) (hone : news.all one = true) (hcl : cs.length = k * size) (hk : k < 1000) (ha : Acc lo f e H v k cs) (hlo : lo ≤ H.next) (hf : f ≤ H.next) :
    ∃ H1 kd, (∀ (n : Nat) (S : Rg) (d : Option Tmp) (x y : Operand) (ty : TypeId) (p : String), evS S x = some v → evS S y = some (.slice a 1 cap2) → heapOp P lo (frS n S) H ⟨d, .call ⟨.builtin .append, #[x, y], #[t0, t1]⟩, ty, p, #[], none⟩ = some (.val (.slice (some ⟨H.next, 0, none⟩) (k + 1) (k + 1)) H1, kd)) ∧ (kd = .heavy ∨ ∃ b, kd = .store b ∧ f ≤ b) ∧
      Acc lo f e H1 (.slice (some ⟨H.next, 0, none⟩) (k + 1) (k + 1)) (k + 1) (cs ++ news) ∧ (∀ F : Hp, F.next = f → Keep F H [] → Keep F H1 []) := by
  rcases ha with ⟨rfl, rfl, rfl⟩ | ⟨b, rfl, h0, hb, hlb, hn, hg⟩
  · refine ⟨H.new (.cells news e true), .heavy, ?_, .inl rfl, ?_, ?_⟩
    · intro n S d x y ty p hx hy
      unfold heapOp
      simp only [evs, ev_frS, hx, hy, builtinV, List.getElem?_toArray, List.getElem?_cons_zero, List.getElem?_cons_succ, he, ht, src_of hs hl, appendV]
      rfl
    · refine .inr ⟨H.next, rfl, by omega, hf, hlo, Nat.lt_succ_self _, ?_⟩
      show (H.t.set H.next _).get H.next = _
      rw [Tr.get_set, if_pos rfl]; rfl
    · intro F hF kF
      exact kF.trans (new_facts rfl).1
  · have h1 : Nat.ble (0 + (k + 1) * size) cs.length = false := by
      cases h : Nat.ble (0 + (k + 1) * size) cs.length with
      | false => rfl
      | true => have := Nat.le_of_ble_eq_true h; rw [hcl, Nat.succ_mul] at this; omega
    have h2 : Nat.beq (0 + k * size) cs.length = true := by rw [hcl, Nat.zero_add]; exact Nat.beq_refl _
    have h3 : Nat.ble (k + 1) 1048576 = true := Nat.ble_eq_true_of_le (by omega)
    have h4 : Nat.beq e e = true := Nat.beq_refl e
    refine ⟨({ H with t := H.t.set b .dead } : Hp).new (.cells (cs ++ news) e true), .store b, ?_, .inr ⟨b, rfl, hb⟩, ?_, ?_⟩
    · intro n S d x y ty p hx hy
      unfold heapOp
      simp only [evs, ev_frS, hx, hy, builtinV, List.getElem?_toArray, List.getElem?_cons_zero, List.getElem?_cons_succ, he, ht, src_of hs hl, appendV, hg, h1, h2, h3, h4, hone, Nat.ble_eq_true_of_le hlb, Bool.and_self, cond_true, cond_false, List.drop_zero, show Nat.beq 1 0 = false from rfl]
    · refine .inr ⟨H.next, rfl, by omega, hf, hlo, Nat.lt_succ_self _, ?_⟩
      show ((H.t.set b .dead).set H.next _).get H.next = _
      rw [Tr.get_set, if_pos rfl]
    · intro F hF kF
      refine ⟨Nat.le_trans kF.1 (Nat.le_succ _), fun c hc _ => ?_⟩
      have := kF.1
      show ((H.t.set b .dead).set H.next _).get c = _
      rw [Tr.get_set, if_neg (by omega), Tr.get_set, if_neg (by omega)]
      exact kF.2 c hc (by simp)
end
end Go.Ax
namespace Go.Ax
open Go Go.RowKit Go.Proofs

theorem u47 : Try.prog.underlying 47 = some (.slice 30) := by kernel_rfl
theorem u33 : Try.prog.underlying 33 = some (.slice 3) := by kernel_rfl
theorem z3' : zeroOf Try.prog 3 = some (.int .i64 0) := by kernel_rfl
theorem reg_ok {kd : Kd} {f : Nat} (h : kd = .heavy ∨ ∃ b, kd = .store b ∧ f ≤ b) (n : Nat) : ∀ b, kd = .read b → b < n := by
  rcases h with rfl | ⟨b, rfl, _⟩ <;> intro c e <;> cases e
section
variable {kn : FuncId → Option Bool} {lo : Nat}
theorem ever1 {F H : Hp} {S : Rg} {h : Hr} {m b6 b4 : Nat} {wv : Value} {is : Bool} {K : Exit → Rg → Hp → Prop} (hS : Subs [(11, .slice none 0 0), (6, pt b6), (45, iv (m : Int)), (46, iv ((0 : Nat) : Int)), (1, wv), (4, pt b4), (9, .bool is)] S) (hm : m ≤ 200) (hlo : lo ≤ F.next) (kF : Keep F H []) (c6 : Rd F b6 h.v)
    (hK : ∀ v H2, Keep F H2 [] → Acc lo F.next 30 H2 v m (hrc (List.replicate m h)) → K (.exit 0) [(47, .bool false), (11, v), (6, pt b6), (45, iv (m : Int)), (46, iv (m : Int)), (1, wv), (4, pt b4), (9, .bool is)] H2) :
    Tri Try.prog kn lo 89 false (at_ Try.f11 [1, 1, 1, 1, 1, 1, 0, 1, 0]) S H K := by
  refine loop_low (fn := Try.f11) E11_1 N11 L11x1 (fun x : Value × Nat => [(11, x.1), (6, pt b6), (45, iv (m : Int)), (46, iv x.2), (1, wv), (4, pt b4), (9, .bool is)])
    (fun k x H2 => x.2 + k = m ∧ Keep F H2 [] ∧ Acc lo F.next 30 H2 x.1 x.2 (hrc (List.replicate x.2 h))) m (.slice none 0 0, 0) ⟨by omega, kF, .inl ⟨rfl, rfl, rfl⟩⟩ hS ?_
  rintro k ⟨v, i⟩ H2 ⟨hik, hk, hacc⟩
  have hkn := hk.1
  simp only at hik hacc
  refine And.intro (fun hlt => ?_) (fun hge => ?_)
  · have hi : i < m := by simpa using hlt
    refine Exists.intro _ (Exists.intro _ (And.intro (hk.rd c6 (by simp)).of (And.intro (show row 3 h.v 0 = some h.v from rfl) ?_)))
    obtain ⟨H3, hH3⟩ : ∃ H3, H2.new (.cells h.v 30 false) = H3 := ⟨_, rfl⟩
    refine And.intro rfl (Or.inr (And.intro rfl (Exists.intro _ (Exists.intro H3 (Exists.intro _ (And.intro ((heap_build1 (v := .agg h.v.toArray) se47 z30 rfl rfl rfl (by decide)).trans (by rw [← hH3]; rfl)) (And.intro (fun b e => by cases e) ?_)))))))
    obtain ⟨k3, n3, c3⟩ := new_facts hH3
    clear hH3
    have hsl : Sl H3 (some ⟨H2.next, 0, none⟩) 1 1 h.v := .inr ⟨H2.next, rfl, c3.rd, Nat.le_refl _⟩
    obtain ⟨H4, kd, h4, hkd, acc4, kk⟩ := heap_append_one (P := Try.prog) (lo := lo) (k := i) (t1 := 47) se47 u47 hsl rfl (by decide) rfl (by rw [hrc_len]; simp) (by omega) (hacc.keep k3) (by omega) (by omega)
    refine And.intro rfl (Or.inr (And.intro (by cases v <;> kernel_rfl) (Exists.intro _ (Exists.intro H4 (Exists.intro _ (And.intro (h4 _ _ _ _ _ _ _ rfl rfl) (And.intro (reg_ok hkd _) ?_)))))))
    refine And.intro (show InR ((i : Int) + 1) from ⟨by omega, by omega⟩) ?_
    refine ⟨k - 1, (_, i + 1), by omega, ⟨by show i + 1 + (k - 1) = m; omega, kk F rfl (hk.trans k3), ?_⟩, rfl, rfl, rfl, rfl, rfl, rfl, rfl, trivial⟩
    have e : hrc (List.replicate (i + 1) h) = hrc (List.replicate i h) ++ h.v := by
      rw [List.replicate_succ', hrc, hrc, List.flatMap_append]; simp
    show Acc _ _ _ _ _ (i + 1) (hrc (List.replicate (i + 1) h))
    rw [e]; exact acc4
  · have hi : ¬ i < m := by simpa using hge
    have : i = m := by omega
    subst this
    have hd : decide ((i : Int) < i) = false := by simp
    have := hK v H2 hk hacc
    rw [← hd] at this
    exact this
theorem ever2 {F H : Hp} {S : Rg} {wa : Option Addr} {wn wcap b4 : Nat} {ss : List (Int × Int)} {hv : Value} {is : Bool} {K : Exit → Rg → Hp → Prop} (hS : Subs [(12, .slice none 0 0), (53, .slice wa wn wcap), (54, iv (wn : Int)), (55, iv ((0 : Nat) : Int)), (1, .slice wa wn wcap), (4, pt b4), (9, .bool is), (11, hv)] S) (hm : wn ≤ 200) (hlo : lo ≤ F.next) (kF : Keep F H []) (hw : Sl F wa wn wcap (spc ss)) (hlen : ss.length = wn)
    (hK : ∀ v H2, Keep F H2 [] → Acc lo F.next 3 H2 v wn (ints (ss.map (·.1))) → K (.exit 2) [(56, .bool false), (12, v), (53, .slice wa wn wcap), (54, iv (wn : Int)), (55, iv (wn : Int)), (1, .slice wa wn wcap), (4, pt b4), (9, .bool is), (11, hv)] H2) :
    Tri Try.prog kn lo 89 false (at_ Try.f11 [1, 1, 1, 1, 1, 1, 1, 1, 0, 1, 0]) S H K := by
  refine loop_low (fn := Try.f11) E11_2 N11 L11x2 (fun x : Value × Nat => [(12, x.1), (53, .slice wa wn wcap), (54, iv (wn : Int)), (55, iv x.2), (1, .slice wa wn wcap), (4, pt b4), (9, .bool is), (11, hv)])
    (fun k x H2 => x.2 + k = wn ∧ Keep F H2 [] ∧ Acc lo F.next 3 H2 x.1 x.2 (ints ((ss.map (·.1)).take x.2))) wn (.slice none 0 0, 0) ⟨by omega, kF, .inl ⟨rfl, rfl, rfl⟩⟩ hS ?_
  rintro k ⟨v, i⟩ H2 ⟨hik, hk, hacc⟩
  have hkn := hk.1
  simp only at hik hacc
  refine And.intro (fun hlt => ?_) (fun hge => ?_)
  · have hi : i < wn := by simpa using hlt
    have hw2 := hk.sl0 hw
    rcases hw2 with ⟨_, h0, _⟩ | ⟨wb, rfl, hwc, _⟩
    · omega
    obtain ⟨x, hx⟩ := get_some (l := ss) (i := i) (by omega)
    refine Exists.intro i (And.intro rfl (And.intro hi ?_))
    refine Exists.intro _ (Exists.intro _ (And.intro hwc.of (And.intro (row_flat (f := fun s : Int × Int => [iv s.1, iv s.2]) (fun _ _ => rfl) hx) ?_)))
    intro H5 hH5
    obtain ⟨k5, n5, c5⟩ := new_facts hH5
    clear hH5
    obtain ⟨_, e5, l5, g5⟩ := id c5
    refine Exists.intro _ (Exists.intro _ (Exists.intro _ (And.intro g5 (And.intro (by omega) (And.intro rfl (And.intro rfl (And.intro (by simp) ?_)))))))
    intro H6 hH6
    obtain ⟨k6, n6, c6⟩ := up_facts c5 hH6
    clear hH6
    have k26 : Keep H2 H6 [] := k5.new k6 (by simp)
    refine Exists.intro _ (Exists.intro (iv x.1) (And.intro c6.of (And.intro rfl ?_)))
    obtain ⟨H3, hH3⟩ : ∃ H3, H6.new (.cells [iv x.1] 3 false) = H3 := ⟨_, rfl⟩
    refine And.intro rfl (Or.inr (And.intro rfl (Exists.intro _ (Exists.intro H3 (Exists.intro _ (And.intro ((heap_build1 (v := iv x.1) se33 z3' rfl rfl rfl (by decide)).trans (by rw [← hH3]; rfl)) (And.intro (fun b e => by cases e) ?_)))))))
    obtain ⟨k3, n3, c3⟩ := new_facts hH3
    clear hH3
    have hsl : Sl H3 (some ⟨H6.next, 0, none⟩) 1 1 [iv x.1] := .inr ⟨H6.next, rfl, c3.rd, Nat.le_refl _⟩
    have k23 := k26.trans k3
    have hn26 := k26.1
    obtain ⟨H4, kd, h4, hkd, acc4, kk⟩ := heap_append_one (P := Try.prog) (lo := lo) (k := i) (t1 := 33) se33 u33 hsl rfl (by decide) rfl (by simp [ints]; omega) (by omega) (hacc.keep k23) (by omega) (by omega)
    refine And.intro rfl (Or.inr (And.intro (by cases v <;> kernel_rfl) (Exists.intro _ (Exists.intro H4 (Exists.intro _ (And.intro (h4 _ _ _ _ _ _ _ rfl rfl) (And.intro (reg_ok hkd _) ?_)))))))
    refine And.intro (show InR ((i : Int) + 1) from ⟨by omega, by omega⟩) ?_
    refine ⟨k - 1, (_, i + 1), by omega, ⟨by show i + 1 + (k - 1) = wn; omega, kk F rfl (hk.trans k23), ?_⟩, rfl, rfl, rfl, rfl, rfl, rfl, rfl, rfl, trivial⟩
    have e : (ss.map (·.1)).take (i + 1) = (ss.map (·.1)).take i ++ [x.1] := by
      have hi2 : i < (ss.map (·.1)).length := by simp; omega
      rw [List.take_succ_eq_append_getElem hi2]
      rw [List.getElem?_eq_getElem (by omega)] at hx
      cases hx; simp
    show Acc _ _ _ _ _ (i + 1) (ints ((ss.map (·.1)).take (i + 1)))
    rw [e]
    simpa [ints] using acc4
  · have hi : ¬ i < wn := by simpa using hge
    have : i = wn := by omega
    subst this
    have hd : decide ((i : Int) < i) = false := by simp
    rw [List.take_of_length_le (by simp; omega)] at hacc
    have := hK v H2 hk hacc
    rw [← hd] at this
    exact this
end
end Go.Ax
namespace Go.Ax
open Go Go.RowKit Go.Proofs

/-- Low's answer, by plain data. -/
def lowV (c : Ch) (hs : List Hr) (ln : Nat) (ms : List Int) (mn : Nat) : Int × Int × Int := LQ.v ⟨c, none, ln, 0, hs, none, mn, 0, ms⟩
/-- What the law ChainEver comes to, by plain data. -/
def everB (c : Ch) (h : Hr) (t : Nat) : Bool :=
  if greatB c [h] then true else if steadyE c h ≠ 0 then true else if refWaterB c.ponds c.ss c.pn c.wn then
    (let f := lowV c (List.replicate (1 + t % 200) h) (1 + t % 200) (c.ss.map (·.1)) c.wn
    if steadyB c h then f.2.2 == 4 else f.2.2 == 0 && f.1 == 0) else false
section
variable {kn : FuncId → Option Bool} {lo : Nat} {H : Hp}
theorem ever_ok {c : Ch} {h : Hr} {t : Nat} (hkn : kn 15 = some true) (hc : c.At H) (ha : h.At H) (ht : t ≤ 255) (hlo : lo ≤ H.next) :
    ∃ H', FnX Try.prog kn lo 11 [c.cv, c.wv, .agg h.v.toArray, .int .u8 t] H (.bool (everB c h t)) H' := by
  have key := fnX_low (kn := kn) (lo := lo) (H := H) (args := [c.cv, c.wv, .agg h.v.toArray, .int .u8 t]) (Q := fun v H' => v = .bool (everB c h t)) Try.func11 B11 N11 Z11 L11 (by simp) ?_
  · obtain ⟨v, H', hf, rfl⟩ := key; exact ⟨H', hf⟩
  intro H1 hH1
  obtain ⟨k1, n1, c1⟩ := new_facts hH1
  clear hH1
  intro H2 hH2
  obtain ⟨k2, n2, c2⟩ := new_facts hH2
  clear hH2
  have c1 := k2.cl c1 (by simp)
  have k12 := k1.trans k2
  refine Exists.intro _ (Exists.intro _ (And.intro c1.of (And.intro (show row 2 [_, _] _ = some [.slice c.pa c.pn c.pcap, .slice c.ga c.gn c.gcap] from rfl) ?_)))
  refine Exists.intro _ (Exists.intro _ (And.intro c2.of (And.intro (show row 3 _ _ = some h.v from rfl) ?_)))
  obtain ⟨H3, hH3⟩ : ∃ H3, H2.new (.cells h.v 30 false) = H3 := ⟨_, rfl⟩
  refine And.intro rfl (Or.inr (And.intro rfl (Exists.intro _ (Exists.intro H3 (Exists.intro _ (And.intro ((heap_build1 (v := .agg h.v.toArray) se47 z30 rfl rfl rfl (by decide)).trans (by rw [← hH3]; rfl)) (And.intro (fun b e => by cases e) ?_)))))))
  obtain ⟨k3, n3, c3⟩ := new_facts hH3
  clear hH3
  have k13 := k12.trans k3
  have hc3 := hc.keep k13
  have ha3 := ha.keep k13
  have hsl : Sl H3 (some ⟨H2.next, 0, none⟩) 1 1 (hrc [h]) := .inr ⟨H2.next, rfl, by have := c3.rd; simpa [hrc] using this, Nat.le_refl _⟩
  have hn13 := k13.1
  obtain ⟨H4, h4, k4⟩ := great_ok (kn := kn) (lo := lo) (H := H3) (c := c) hsl rfl (by omega) (by omega)
  refine Exists.intro _ (Exists.intro _ (And.intro (callX_args h4) ?_))
  by_cases hg : greatB c [h] = true
  · rw [hg]
    refine condT ?_
    refine Exists.intro _ (Exists.intro _ (And.intro (callX_known hkn) ?_))
    exact And.intro trivial (Exists.intro _ (And.intro rfl (by unfold everB; rw [if_pos hg]; rfl)))
  rw [Bool.not_eq_true] at hg
  rw [hg]
  refine condF ?_
  have k14 := k13.trans k4
  have hn14 := k14.1
  have k24 := k3.trans k4
  have hc4 := hc.keep k14
  have ha4 := ha.keep k14
  refine Exists.intro _ (Exists.intro _ (And.intro (k24.cl c1 (by simp)).of (And.intro (show row 2 [_, _] _ = some [.slice c.pa c.pn c.pcap, .slice c.ga c.gn c.gcap] from rfl) ?_)))
  refine Exists.intro _ (Exists.intro _ (And.intro (k24.cl c2 (by simp)).of (And.intro (show row 3 _ _ = some h.v from rfl) ?_)))
  obtain ⟨H5, h5, k5⟩ := steady_ok (kn := kn) (lo := lo) hc4 ha4 (by omega)
  refine Exists.intro _ (Exists.intro _ (And.intro (callX_args h5) ?_))
  by_cases he : steadyE c h = 0
  rotate_left
  · rw [if_neg he]
    refine And.intro rfl (Exists.intro _ (And.intro rfl ?_))
    refine And.intro rfl (Exists.intro _ (And.intro rfl ?_))
    refine And.intro (fun _ => ?_) (fun w => absurd (show steadyE c h = 0 by simpa using w) he)
    refine And.intro rfl (Exists.intro (.bool true) (And.intro rfl ?_))
    refine Exists.intro _ (Exists.intro _ (And.intro (callX_known hkn) ?_))
    refine And.intro rfl (Exists.intro (.bool true) (And.intro rfl ?_))
    exact And.intro trivial (Exists.intro _ (And.intro rfl (by unfold everB; rw [if_neg (by rw [hg]; decide), if_pos he]; rfl)))
  rw [if_pos he]
  refine And.intro rfl (Exists.intro _ (And.intro rfl ?_))
  refine And.intro rfl (Exists.intro _ (And.intro rfl ?_))
  refine condF ?_
  have hok : c.ok = true ∧ hourB h c.pn c.gn = true := by
    simp only [steadyE, checkE] at he
    rw [if_neg (by omega)] at he
    split at he
    · rename_i q; simpa using q
    · omega
  have v : c.Vd := Ch.vd hok.1 hc.lp hc.lg hc.lw
  have k15 := k14.trans k5
  have hn15 := k15.1
  have hc5 := hc.keep k15
  have k25 := k24.trans k5
  refine Exists.intro _ (Exists.intro _ (And.intro (k25.cl c1 (by simp)).of (And.intro (show row 2 [_, _] _ = some [.slice c.pa c.pn c.pcap, .slice c.ga c.gn c.gcap] from rfl) ?_)))
  obtain ⟨H6, h6, k6⟩ := refwat_ok (kn := kn) (lo := lo) (H := H5) (ga := c.ga) (gn := c.gn) (gcap := c.gcap) hc5.p hc5.lp hc5.w hc5.lw (by have := v.h16; omega) (by omega)
  refine Exists.intro _ (Exists.intro _ (And.intro (callX_args h6) ?_))
  by_cases hw : refWaterB c.ponds c.ss c.pn c.wn = true
  rotate_left
  · rw [Bool.not_eq_true] at hw
    rw [hw]
    refine And.intro rfl (Exists.intro (.bool true) (And.intro rfl ?_))
    refine condT ?_
    exact And.intro trivial (Exists.intro _ (And.intro rfl (by unfold everB; rw [if_neg (by rw [hg]; decide), if_neg (by omega), if_neg (by rw [hw]; decide)]; rfl)))
  rw [hw]
  refine And.intro rfl (Exists.intro (.bool false) (And.intro rfl ?_))
  refine condF ?_
  have k16 := k15.trans k6
  have k26 := k25.trans k6
  have hn16 := k16.1
  have hc6 := hc.keep k16
  have ha6 := ha.keep k16
  have hwr : IntKind.wrap .i64 (t : Int) = (t : Int) := by
    show (let m := (t : Int) % (2 ^ 64 : Int); if (true && decide (m ≥ (2 ^ (64 - 1) : Int))) = true then m - (2 ^ 64 : Int) else m) = _
    have e1 : (t : Int) % (2 ^ 64 : Int) = t := by omega
    simp only [e1]
    rw [if_neg (by simp; omega)]
  refine And.intro rfl (Exists.intro (.int .i64 (IntKind.wrap .i64 (t : Int))) (And.intro (by kernel_rfl) ?_))
  rw [hwr]
  refine And.intro (by omega) (And.intro (by omega) (And.intro ⟨by omega, by omega⟩ (And.intro ⟨by omega, by omega⟩ ?_)))
  refine And.intro (show InR (1 + (t : Int) % 200) from ⟨by omega, by omega⟩) ?_
  have hm : (1 : Int) + (t : Int) % 200 = ((1 + t % 200 : Nat) : Int) := by omega
  rw [hm]
  refine ever1 (F := H6) (m := 1 + t % 200) (b6 := H1.next) (b4 := H.next) (wv := c.wv) (is := steadyB c h) (h := h) ⟨rfl, rfl, rfl, rfl, rfl, rfl, rfl, trivial⟩ (by omega) (by omega) (Keep.refl _ _) (k26.cl c2 (by simp)).rd ?_
  intro v1 H7 k7 acc7
  have hn7 := k7.1
  have hc7 := hc6.keep k7
  refine ever2 (F := H7) (wa := c.wa) (wn := c.wn) (wcap := c.wcap) (b4 := H.next) (is := steadyB c h) (ss := c.ss) (hv := v1) ⟨rfl, rfl, rfl, rfl, rfl, rfl, rfl, rfl, trivial⟩ (by have := v.h16; have := v.wp; omega) (by omega) (Keep.refl _ _) hc7.w hc7.lw ?_
  intro v2 H8 k8 acc8
  have hn8 := k8.1
  have k68 := k7.trans k8
  have k18 := k16.trans k68
  have k28 := k26.trans k68
  refine Exists.intro _ (Exists.intro _ (And.intro (k28.cl c1 (by simp)).of (And.intro (show row 2 [_, _] _ = some [.slice c.pa c.pn c.pcap, .slice c.ga c.gn c.gcap] from rfl) ?_)))
  obtain ⟨la, lcap, rfl, sl1, _⟩ := (acc7.keep k8).sl
  obtain ⟨ma, mcap, rfl, sl2, _⟩ := acc8.sl
  obtain ⟨H9, h9, k9⟩ := low_ok (kn := kn) (lo := lo) (H := H8) (q := ⟨c, la, 1 + t % 200, lcap, List.replicate (1 + t % 200) h, ma, c.wn, mcap, c.ss.map (·.1)⟩) (hc.keep k18) sl1 (by simp) (fun x hx => by rw [(List.mem_replicate.1 hx).2]; exact ha.keep k18) sl2 (by simp [hc.lw]) (by omega)
  refine Exists.intro _ (Exists.intro _ (And.intro (callX_args h9) ?_))
  refine And.intro rfl (Exists.intro _ (And.intro rfl ?_))
  refine And.intro rfl (Exists.intro _ (And.intro rfl ?_))
  refine And.intro rfl (Exists.intro _ (And.intro rfl ?_))
  obtain ⟨f, hf⟩ : ∃ f, lowV c (List.replicate (1 + t % 200) h) (1 + t % 200) (c.ss.map (·.1)) c.wn = f := ⟨_, rfl⟩
  have hev : everB c h t = if steadyB c h then f.2.2 == 4 else f.2.2 == 0 && f.1 == 0 := by
    unfold everB
    rw [if_neg (by rw [hg]; decide), if_neg (by omega), if_pos hw, hf]
  rw [hev]
  refine And.intro (fun hs => ?_) (fun hs => ?_)
  · rw [hs, if_pos rfl]
    intro b hb
    have hb : (f.2.2 == 4) = b := by rw [← hf]; exact hb
    rw [hb]
    cases b
    · refine And.intro rfl (Exists.intro (.bool false) (And.intro rfl ?_))
      exact And.intro trivial (Exists.intro _ (And.intro rfl rfl))
    · refine Exists.intro _ (Exists.intro _ (And.intro (callX_known hkn) ?_))
      refine And.intro rfl (Exists.intro (.bool true) (And.intro rfl ?_))
      exact And.intro trivial (Exists.intro _ (And.intro rfl rfl))
  · rw [hs, if_neg (by decide)]
    intro b hb
    have hb : (f.2.2 == 0) = b := by rw [← hf]; exact hb
    rw [hb]
    cases b
    · refine And.intro rfl (Exists.intro (.bool false) (And.intro rfl ?_))
      refine And.intro rfl (Exists.intro (.bool false) (And.intro rfl ?_))
      exact And.intro trivial (Exists.intro _ (And.intro rfl rfl))
    · intro b2 hb2
      have hb2 : (f.1 == 0) = b2 := by rw [← hf]; exact hb2
      rw [hb2]
      refine And.intro rfl (Exists.intro (.bool b2) (And.intro rfl ?_))
      cases b2
      · refine And.intro rfl (Exists.intro (.bool false) (And.intro rfl ?_))
        exact And.intro trivial (Exists.intro _ (And.intro rfl rfl))
      · refine Exists.intro _ (Exists.intro _ (And.intro (callX_known hkn) ?_))
        refine And.intro rfl (Exists.intro (.bool true) (And.intro rfl ?_))
        exact And.intro trivial (Exists.intro _ (And.intro rfl rfl))
end
end Go.Ax
namespace Go.Ax
open Go Go.RowKit Go.Proofs

/-- No pond has more in the first one. -/
def Le (u w : List Int) : Prop := u.length = w.length ∧ ∀ i, u.getD i 0 ≤ w.getD i 0
theorem Le.trans {u v w : List Int} (h : Le u v) (k : Le v w) : Le u w := ⟨h.1.trans k.1, fun i => Int.le_trans (h.2 i) (k.2 i)⟩
theorem getD_set (l : List Int) (i j : Nat) (x : Int) : (l.set i x).getD j 0 = if i = j ∧ i < l.length then x else l.getD j 0 := by
  by_cases h : i = j
  · subst h
    by_cases q : i < l.length
    · rw [if_pos ⟨rfl, q⟩, getD_set_eq q]
    · rw [if_neg (fun w => q w.2), List.set_eq_of_length_le (by omega)]
  · rw [if_neg (fun w => h w.1), getD_set_ne (fun w => h w.symm)]
theorem Le.set {u w : List Int} (h : Le u w) {i : Nat} {x y : Int} (hx : x ≤ y) : Le (u.set i x) (w.set i y) := by
  refine ⟨by simp [h.1], fun j => ?_⟩
  rw [getD_set, getD_set, h.1]
  split
  · exact hx
  · exact h.2 j
theorem Le.move {u w : List Int} (h : Le u w) {fr : Nat} {to l m : Int} (h1 : u.getD fr 0 - l ≤ w.getD fr 0 - m) (h2 : l ≤ m) : Le (moveW u fr to l) (moveW w fr to m) := by
  have k := h.set (i := fr) h1
  unfold moveW
  simp only
  split
  · exact k
  · exact k.set (by have := k.2 to.toNat; omega)
theorem fold_mono {α : Type} {f : St → α → St} : ∀ {l : List α}, (∀ x s t, x ∈ l → Le s.ws t.ws → Le (f s x).ws (f t x).ws) → ∀ s t, Le s.ws t.ws → Le (l.foldl f s).ws (l.foldl f t).ws
  | [], _, _, _, h => h
  | x :: r, hf, s, t, h => fold_mono (l := r) (fun y s t hy => hf y s t (List.mem_cons_of_mem _ hy)) (f s x) (f t x) (hf x s t (List.mem_cons_self ..) h)
theorem fold_len {α : Type} {f : St → α → St} (hf : ∀ x s, (f s x).ws.length = s.ws.length) : ∀ (l : List α) (s : St), (l.foldl f s).ws.length = s.ws.length
  | [], _ => rfl
  | x :: r, s => (fold_len hf r (f s x)).trans (hf x s)
theorem hour_mono {c : Ch} {h : Hr} {gs : List Gt} (hp : ∀ p ∈ c.ponds, p.hi ≤ 1000000) {s t : St} (hs : Le s.ws t.ws) : Le (hourF c false h gs s).ws (hourF c false h gs t).ws := by
  unfold hourF hourS
  have h1 : Le (comesS (mkX c h ⟨0, 0, none, 0⟩ false 0) s).ws (comesS (mkX c h ⟨0, 0, none, 0⟩ false 0) t).ws := fold_mono (fun x s t _ h => by
    exact h.set (by have := h.2 x.2; omega)) _ _ hs
  have h2 := fold_mono (f := flowS) (l := boardsS (mkX c h ⟨0, 0, none, 0⟩ false 0) gs) (fun g s t _ h => by
    have := h.2 g.fr.toNat
    refine h.move ?_ ?_
    · unfold flowL; generalize g.sill + g.boards * g.step = z; omega
    · unfold flowL; generalize g.sill + g.boards * g.step = z; omega) _ _ h1
  have h3 := fold_mono (f := takeS) (l := (mkX c h ⟨0, 0, none, 0⟩ false 0).ts) (fun t s s' _ h => by
    have := h.2 t.pond.toNat
    refine h.set ?_
    unfold takeL; omega) _ _ h2
  have h4 := fold_mono (f := seepS false) (l := c.ponds.zipIdx) (fun p s s' hx h => by
    have h5 := h.2 p.2
    refine h.set ?_
    have hh : p.1.hi ≤ 1000000 := hp p.1 (by
      have := List.mem_zipIdx' (x := p.1) (i := p.2) hx
      rw [this.2]; exact List.getElem_mem _)
    show s.ws.getD p.2 0 - (s.ws.getD p.2 0 * p.1.hi + 1000000 - 1) / 1000000 ≤ s'.ws.getD p.2 0 - (s'.ws.getD p.2 0 * p.1.hi + 1000000 - 1) / 1000000
    generalize s.ws.getD p.2 0 = a at *
    generalize s'.ws.getD p.2 0 = b at *
    obtain ⟨d, hd⟩ : ∃ d, d = b - a := ⟨_, rfl⟩
    have hb : b = a + d := by omega
    have hd0 : 0 ≤ d := by omega
    have hm := Int.mul_le_mul_of_nonneg_left hh hd0
    subst hb
    rw [Int.add_mul]
    generalize a * p.1.hi = P at *
    generalize d * p.1.hi = Q at *
    omega) _ _ h3
  exact fold_mono (f := spillS) (l := c.ponds.zipIdx) (fun p s s' _ h => by
    have := h.2 p.2
    refine h.move ?_ ?_
    · unfold spillL; omega
    · unfold spillL; omega) _ _ h4
theorem hour_len {c : Ch} {h : Hr} {g : Bool} {gs : List Gt} (s : St) : (hourF c g h gs s).ws.length = s.ws.length := by
  unfold hourF hourS spillsS seepsS takesS gatesS comesS
  rw [fold_len (fun x s => by simp [spillS, moveW_len]), fold_len (fun x s => by simp [seepS]), fold_len (fun x s => by simp [takeS]), fold_len (fun x s => by simp [flowS, moveW_len]), fold_len (fun x s => by simp [comeS])]
/-- the boards that are told last -/
def lastB : List Bd → Nat → Option Int
  | [], _ => none
  | b :: r, i => match lastB r i with
    | some x => some x
    | none => if b.gate.toNat = i then some b.boards else none
theorem boards_get : ∀ (bs : List Bd) (gs : List Gt) (i : Nat), (bs.foldl boardS gs)[i]? = gs[i]?.map fun g => match lastB bs i with | some x => { g with boards := x } | none => g
  | [], gs, i => by simp [lastB]
  | b :: r, gs, i => by
    rw [List.foldl_cons, boards_get r, boardS]
    by_cases q : b.gate.toNat = i
    · subst q
      by_cases w : b.gate.toNat < gs.length
      · rw [List.getElem?_set_self w, List.getElem?_eq_getElem w]
        simp only [lastB, Option.map_some, List.getD, List.getElem?_eq_getElem w, Option.getD_some]
        cases lastB r b.gate.toNat <;> simp
      · rw [List.getElem?_eq_none (by simp; omega), List.getElem?_eq_none (by omega)]
        rfl
    · rw [List.getElem?_set_ne q]
      simp only [lastB, if_neg q]
      cases lastB r i <;> rfl
theorem boards_twice (h : Hr) (gs : List Gt) : boardsF h (boardsF h gs) = boardsF h gs := by
  apply List.ext_getElem?
  intro i
  unfold boardsF
  rw [boards_get, boards_get]
  cases gs[i]? with
  | none => rfl
  | some g => cases lastB h.bs i <;> rfl
theorem hour_boards (c : Ch) (g : Bool) (h : Hr) (gs : List Gt) (s : St) : hourF c g h (boardsF h gs) s = hourF c g h gs s := by
  show spillsS _ (seepsS _ (takesS _ (gatesS (boardsF h (boardsF h gs)) (comesS _ s)))) = spillsS _ (seepsS _ (takesS _ (gatesS (boardsF h gs) (comesS _ s))))
  rw [boards_twice]
theorem firstB_none : ∀ (ws ms : List Int) (i : Nat), firstB ws ms i = none ↔ ∀ j, j < ws.length → ms.getD j 0 ≤ ws.getD j 0
  | [], _, _ => by simp [firstB]
  | v :: vs, ms, i => by
    rw [firstB]
    have e0 : ms.headD 0 = ms.getD 0 0 := by cases ms <;> rfl
    have e1 : ∀ j, ms.tail.getD j 0 = ms.getD (j + 1) 0 := by intro j; cases ms <;> rfl
    split
    · rename_i q
      constructor
      · intro w; cases w
      · intro w
        have := w 0 (by simp)
        rw [e0] at q
        have e2 : (v :: vs).getD 0 0 = v := rfl
        omega
    · rename_i q
      rw [firstB_none vs ms.tail (i + 1)]
      constructor
      · intro w j hj
        cases j with
        | zero => rw [e0] at q; have e2 : (v :: vs).getD 0 0 = v := rfl; omega
        | succ j => have := w j (by simpa using hj); rw [e1] at this; exact this
      · intro w j hj
        have := w (j + 1) (by simpa using hj)
        rw [e1]; exact this
theorem low_steady {c : Ch} {h : Hr} {ms : List Int} (hp : ∀ p ∈ c.ponds, p.hi ≤ 1000000) (gs0 : List Gt) (hf : Le ms (hourF c false h gs0 ⟨ms, 0, 0, 0, 0⟩).ws) : ∀ (n i : Nat) (gs : List Gt) (s : St), (gs = gs0 ∨ gs = boardsF h gs0) → Le ms s.ws → lowGo c ms gs s (List.replicate n h) i = none
  | 0, _, _, _, _, _ => rfl
  | n + 1, i, gs, s, hg, hs => by
    have e : hourF c false h gs s = hourF c false h gs0 s := by
      rcases hg with rfl | rfl
      · rfl
      · exact hour_boards c false h gs0 s
    have e2 : boardsF h gs = boardsF h gs0 := by
      rcases hg with rfl | rfl
      · rfl
      · exact boards_twice h gs0
    have hle : Le ms (hourF c false h gs s).ws := by
      rw [e]; exact hf.trans (hour_mono hp (s := ⟨ms, 0, 0, 0, 0⟩) (t := s) hs)
    rw [List.replicate_succ, lowGo, (firstB_none _ _ _).2 (fun j _ => hle.2 j)]
    exact low_steady hp gs0 hf n (i + 1) _ _ (.inr e2) hle
theorem s0_ws (c : Ch) : s0 false c = ⟨c.ss.map (·.1), 0, 0, 0, 0⟩ := by
  unfold s0 endS endV; simp
/-- The law holds. -/
theorem ever_true {c : Ch} {h : Hr} {t : Nat} (lp : c.ponds.length = c.pn) (lg : c.gs.length = c.gn) (lw : c.ss.length = c.wn) : everB c h t = true := by
  unfold everB
  split
  · rfl
  split
  · rfl
  rename_i he
  have he : steadyE c h = 0 := by omega
  have hok : c.ok = true ∧ hourB h c.pn c.gn = true := by
    simp only [steadyE, checkE] at he
    rw [if_neg (by omega)] at he
    split at he
    · rename_i q; simpa using q
    · omega
  have v : c.Vd := Ch.vd hok.1 lp lg lw
  have hw := List.all_eq_true.1 v.w
  have hin : ∀ p ∈ c.ponds.zip c.ss, 0 ≤ p.2.1 ∧ p.2.1 ≤ p.2.2 ∧ p.2.2 ≤ p.1.full := by
    intro p hp
    have := hw p hp
    simp [withinB] at this
    omega
  have hpd : ∀ p ∈ c.ponds, p.hi ≤ 1000000 := by
    intro p hp
    obtain ⟨i, hi, rfl⟩ := List.getElem_of_mem hp
    have := List.all_eq_true.1 v.p (c.ponds[i], i) (List.mem_zipIdx_iff_getElem?.2 (by simp [hi]))
    simp [pondB, withinB] at this
    omega
  have hr : refWaterB c.ponds c.ss c.pn c.wn = true := by
    unfold refWaterB
    rw [Bool.and_eq_true]
    refine ⟨by have := v.wp; simp; omega, List.all_eq_true.2 fun p hp => ?_⟩
    have := hin p hp
    simp [refWithinB]; omega
  rw [if_pos hr]
  have hlb : leastB c.ponds (c.ss.map (·.1)) c.pn c.wn = true := by
    unfold leastB
    rw [Bool.and_eq_true]
    refine ⟨by have := v.wp; simp; omega, List.all_eq_true.2 fun p hp => ?_⟩
    rw [List.zip_map_right] at hp
    obtain ⟨x, hx, rfl⟩ := List.mem_map.1 hp
    have := hin x hx
    simp; omega
  have hce : checkE c (List.replicate (1 + t % 200) h) (1 + t % 200) = 0 := by
    unfold checkE
    rw [if_neg (by omega), if_pos]
    rw [hok.1, Bool.true_and]
    exact List.all_eq_true.2 fun x hx => by rw [(List.mem_replicate.1 hx).2]; exact hok.2
  have hlv : lowV c (List.replicate (1 + t % 200) h) (1 + t % 200) (c.ss.map (·.1)) c.wn = match lowGo c (c.ss.map (·.1)) c.gs (s0 false c) (List.replicate (1 + t % 200) h) 0 with | some (i, p) => ((i : Int), (p : Int), 0) | none => (0, 0, 4) := by
    unfold lowV LQ.v LQ.go
    simp only
    rw [if_pos hce, if_pos hlb]
    all_goals (cases lowGo c (c.ss.map (·.1)) c.gs (s0 false c) (List.replicate (1 + t % 200) h) 0 <;> rfl)
  have hend : endS false c.ss = c.ss.map (·.1) := congrArg St.ws (s0_ws c)
  simp only [hlv]
  cases hfb : firstB (hourF c false h c.gs (s0 false c)).ws (c.ss.map (·.1)) 0 with
  | some p =>
    have hst : steadyB c h = false := by unfold steadyB; rw [hend, hfb]
    rw [hst, Nat.add_comm 1, List.replicate_succ, lowGo, hfb]
    rfl
  | none =>
    have hst : steadyB c h = true := by unfold steadyB; rw [hend, hfb]
    have hle : Le (c.ss.map (·.1)) (hourF c false h c.gs ⟨c.ss.map (·.1), 0, 0, 0, 0⟩).ws := by
      rw [← s0_ws]
      have hl : (hourF c false h c.gs (s0 false c)).ws.length = (c.ss.map (·.1)).length := by rw [hour_len, s0_ws]
      refine ⟨hl.symm, fun j => ?_⟩
      by_cases q : j < (hourF c false h c.gs (s0 false c)).ws.length
      · exact (firstB_none _ _ _).1 hfb j q
      · simp only [List.getD]
        rw [List.getElem?_eq_none (by omega), List.getElem?_eq_none (by omega)]
        exact Int.le_refl _
    rw [hst, low_steady hpd c.gs hle _ _ _ _ (.inl rfl) (by rw [s0_ws]; exact ⟨rfl, fun _ => Int.le_refl _⟩)]
    rfl
end Go.Ax
namespace Go.Ax
open Go Go.RowKit Go.Proofs Go.ChangeShapes Go.WideShapes Go.Deep

/-- A type whose cells are whole numbers. -/
def IntT (P : Program) (t : TypeId) : Prop := ∀ (H : Type) (enc : TypeId × Value → H) (w : World) (base : Nat) (spare : Nat → Bool) (held : Bool) (fuel : Nat) (cs : List Value) (x : DataW H × List MemPlace),
  DataW.trod enc P w base spare held fuel t cs = some x → cs.length = P.cellsOf t ∧ ∀ j, j < cs.length → ∃ n, cs[j]? = some (.int .i64 n)
theorem IntT.int {P : Program} {t : TypeId} (ht : P.underlying t = some (.int .i64)) (hc : P.cellsOf t = 1) : IntT P t := by
  intro H enc w base spare held fuel cs x h
  obtain ⟨n, rfl, _⟩ := DataW.trod_int ht h
  refine ⟨by rw [hc]; rfl, fun j hj => ⟨n, ?_⟩⟩
  have : j = 0 := by simp at hj; omega
  subst this; rfl
theorem IntT.struct {P : Program} {t : TypeId} {fs : Array Field} (ht : P.underlying t = some (.struct fs)) (hf : ∀ f ∈ fs.toList, IntT P f.type)
    (hcov : ((List.range (P.cellsOf t)).all fun j => fs.toList.any fun f => decide (f.offset ≤ j) && decide (j < f.offset + P.cellsOf f.type)) = true) : IntT P t := by
  intro H enc w base spare held fuel cs x h
  obtain ⟨xs, n, _, _, hlen, hxl, hg⟩ := DataW.trod_struct ht h
  refine ⟨hlen, fun j hj => ?_⟩
  have h1 := List.all_eq_true.1 hcov j (List.mem_range.2 (by omega))
  obtain ⟨f, hfm, h2⟩ := List.any_eq_true.1 h1
  simp only [Bool.and_eq_true, decide_eq_true_eq] at h2
  obtain ⟨i, hi, hfi⟩ := List.getElem_of_mem hfm
  have hfs : fs[i]? = some f := by
    rw [← Array.getElem?_toList, List.getElem?_eq_getElem hi, hfi]
  have hi2 : i < xs.length := by simpa [hxl] using hi
  have h3 := hg i f hfs
  rw [List.getElem?_eq_getElem hi2] at h3
  obtain ⟨h4, h5⟩ := hf f hfm _ _ _ _ _ _ _ _ _ h3
  obtain ⟨m, hm⟩ := h5 (j - f.offset) (by omega)
  refine ⟨m, ?_⟩
  rw [List.getElem?_take] at hm
  split at hm
  · rw [List.getElem?_drop, show f.offset + (j - f.offset) = j by omega] at hm; exact hm
  · cases hm

/-- A slice of rows of whole numbers, as it is given. -/
structure Given {α : Type} (w : World) (v : Value) (f : α → List Value) (l : List α) (x : Imp) : Prop where
  ok : ∀ (i : Nat) u, x.cs[i]? = some u → w.cell? ⟨x.blk, x.off + i, none⟩ = some u ∧ flat1 u = true
  cs : x.cs = l.flatMap f
  v : ((v = .slice none 0 0 ∨ ∃ a', v = .slice (some a') 0 0) ∧ l = []) ∨ ∃ cap, v = .slice (some ⟨x.blk, x.off, none⟩) l.length cap ∧ l.length ≤ cap
theorem flat_get {α : Type} {f : α → List Value} {k : Nat} (hk : 0 < k) : ∀ {l : List α} (_ : ∀ x ∈ l, (f x).length = k) (i : Nat) (u : Value), (l.flatMap f)[i]? = some u → ∃ x, l[i / k]? = some x ∧ (f x)[i % k]? = some u
  | [], _, i, u, h => by simp at h
  | y :: r, hl, i, u, h => by
    have hy := hl y (List.mem_cons_self ..)
    rw [List.flatMap_cons, List.getElem?_append] at h
    split at h
    · rename_i q
      rw [hy] at q
      refine ⟨y, ?_, ?_⟩
      · rw [Nat.div_eq_of_lt q]; rfl
      · rw [Nat.mod_eq_of_lt q]; exact h
    · rename_i q
      rw [hy] at q h
      obtain ⟨x, h1, h2⟩ := flat_get hk (fun x hx => hl x (List.mem_cons_of_mem _ hx)) _ u h
      refine ⟨x, ?_, ?_⟩
      · rw [Nat.div_eq_sub_div hk (by omega)]; exact h1
      · rw [Nat.mod_eq_sub_mod (by omega)]; exact h2
theorem slice_given {H : Type} {enc : TypeId × Value → H} {P : Program} {w : World} {base b0 : Nat} {r : Reach} {held : Bool} {α : Type} (f : α → List Value) (mk : (Nat → Int) → α) (k : Nat) {t e : TypeId} {fuel : Nat} {v : Value} {x : DataW H × List MemPlace}
    (ht : P.underlying t = some (.slice e)) (hI : IntT P e) (hc : P.cellsOf e = k) (hk : 0 < k) (hmk : ∀ N : Nat → Int, f (mk N) = (List.range k).map fun j => Value.int .i64 (N j))
    (hok : Cell.okWide P w r b0 t v) (h : DataW.trod enc P w base (fun _ => true) held fuel t [v] = some x) : ∃ (l : List α) (y : Imp), Given w v f l y := by
  rcases open_slice ht h with ⟨h0, _⟩ | ⟨a, len, cap, m, n, D, Pl, hcs, hb, hl, hm, hmm, hx, hi⟩
  · cases h0
    exact ⟨[], ⟨0, 0, []⟩, fun i u e => by simp at e, rfl, .inl ⟨.inl rfl, rfl⟩⟩
  · cases hcs
    obtain ⟨blk, off, spot⟩ := a
    have hs : spot = none := by
      unfold Cell.okWide at hok
      rw [ht] at hok
      unfold Cell.ok at hok
      simp only [ht] at hok
      exact hok.2.2.2.1
    subst hs
    simp only [if_true] at hmm
    subst hmm
    have hcell : ∀ i, i < len → ∀ j, j < k → ∃ n, w.cell? ⟨blk, off + (i * k + j), none⟩ = some (.int .i64 n) := by
      intro i hil j hj
      obtain ⟨cs', h1, h2⟩ := hi i (by omega)
      obtain ⟨h3, h4⟩ := hI _ _ _ _ _ _ _ _ _ h2
      obtain ⟨_, h5, h6⟩ := World.cells?_some h1
      obtain ⟨n, hn⟩ := h4 j (by omega)
      refine ⟨n, ?_⟩
      have h7 := h6 j (by omega)
      rw [hn, hc, add_add] at h7
      have e : (⟨blk, off, none⟩ : Addr).add (i * k + j) = ⟨blk, off + (i * k + j), none⟩ := by
        unfold Addr.add
        by_cases q : i * k + j = 0
        · simp [q]
        · simp
      rw [e] at h7
      exact h7
    refine ⟨(List.range len).map fun i => mk fun j => match w.cell? ⟨blk, off + (i * k + j), none⟩ with | some (.int _ n) => n | _ => 0, ⟨blk, off, _⟩, ?_, rfl, .inr ⟨m, by simp, by simpa using hl⟩⟩
    intro i u hu
    obtain ⟨y, h1, h2⟩ := flat_get hk (fun y hy => by
      obtain ⟨i, _, rfl⟩ := List.mem_map.1 hy
      rw [hmk]; simp) i u hu
    have hlt : i / k < len := by
      have := get_lt h1
      simpa using this
    rw [List.getElem?_map, List.getElem?_range hlt] at h1
    simp only [Option.map_some, Option.some.injEq] at h1
    subst h1
    have hj : i % k < k := Nat.mod_lt _ hk
    rw [hmk, List.getElem?_map, List.getElem?_range hj] at h2
    simp only [Option.map_some, Option.some.injEq] at h2
    obtain ⟨n, hn⟩ := hcell _ hlt _ hj
    rw [hn] at h2
    subst h2
    rw [Nat.div_add_mod' ] at hn
    exact ⟨hn, rfl⟩
theorem Given.rel {α : Type} {w : World} {v : Value} {f : α → List Value} {l : List α} {x : Imp} (g : Given w v f l x) {r : Ren} {H : Hp} {b : Nat} (hr : r b = some ⟨x.blk, x.off, none⟩) (hb : b < H.next) (hc : cellsOf H b = some x.cs) :
    ∃ a cap, VR r (.slice a l.length cap) v ∧ Sl H a l.length cap (l.flatMap f) := by
  rcases g.v with ⟨rfl | ⟨a', rfl⟩, rfl⟩ | ⟨cap, rfl, hl⟩
  · exact ⟨none, 0, .nilSlice, .inl ⟨.inl rfl, rfl, rfl, rfl⟩⟩
  · exact ⟨some ⟨0, 0, some 0⟩, 0, .weird, .inl ⟨.inr rfl, rfl, rfl, rfl⟩⟩
  · refine ⟨some ⟨b, 0, none⟩, cap, ?_, .inr ⟨b, rfl, ⟨hb, by rw [hc, g.cs]⟩, hl⟩⟩
    have := VR.slice (o := 0) (n := l.length) (c := cap) hr rfl hl
    simpa using this
end Go.Ax

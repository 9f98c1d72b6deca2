import Derived.Test.YtfdapdcfnognfaaXd
import Derived.Test.YtfdapdcfnognfaaAxR3
set_option linter.all false
namespace Go.Ax
open Go Go.RowKit Go.Proofs

/-! ChainTrue's mathematics: what is true lies between the two courses, and nothing is lost. -/
/-- What is there, seeped, went away and was taken is what was there and came. -/
def Cn (a : Int) (s : St) : Prop := s.ws.sum + s.seeped + s.river + s.taken = a + s.came
def seepT (s : St) (i : Nat) (n : Int) : St := { s with ws := s.ws.set i (s.ws.getD i 0 - n), seeped := s.seeped + n }
/-- What is true, between the least and the greatest course. -/
structure Tru (n : Nat) (M B a : Int) (sl s sg : St) : Prop where
  l : LeS sl s
  g : LeS s sg
  d : Good n M B s
  c : Cn a s
theorem Tru.mono {n : Nat} {M B M' B' a : Int} {sl s sg : St} (h : Tru n M B a sl s sg) (hm : M ≤ M') (hb : B ≤ B') : Tru n M' B' a sl s sg := ⟨h.l, h.g, h.d.mono hm hb, h.c⟩
theorem sum_move {ws : List Int} {fr : Nat} {to l : Int} (hf : fr < ws.length) (ht : to = -1 ∨ 0 ≤ to ∧ to < ws.length) : (moveW ws fr to l).sum = ws.sum - if to = -1 then l else 0 := by
  have h1 := sum_set ws fr (ws.getD fr 0 - l) hf
  unfold moveW
  simp only
  split
  · rw [h1]; omega
  · have h2 := sum_set (ws.set fr (ws.getD fr 0 - l)) to.toNat ((ws.set fr (ws.getD fr 0 - l)).getD to.toNat 0 + l) (by simp; omega)
    rw [h2, h1]; omega
theorem cn_move {a : Int} {s : St} {fr : Nat} {to l : Int} (h : Cn a s) (hf : fr < s.ws.length) (ht : to = -1 ∨ 0 ≤ to ∧ to < s.ws.length) : Cn a { s with ws := moveW s.ws fr to l, river := moveR s.river to l } := by
  have := sum_move (l := l) hf ht
  unfold Cn at h ⊢
  simp only [moveR] at this ⊢
  rw [this]
  split <;> omega
theorem les_move {s t : St} (h : LeS s t) {fr : Nat} {to l m : Int} (h1 : s.ws.getD fr 0 - l ≤ t.ws.getD fr 0 - m) (h2 : l ≤ m) : LeS { s with ws := moveW s.ws fr to l, river := moveR s.river to l } { t with ws := moveW t.ws fr to m, river := moveR t.river to m } :=
  ⟨h.w.move h1 h2, h.cm, h.sd, river_le h.rv h2, h.tk⟩
theorem les_come {s t : St} (h : LeS s t) {x y : Int} {i : Nat} (hx : x ≤ y) : LeS (comeS s (x, i)) (comeS t (y, i)) :=
  ⟨h.w.set (by have := h.w.2 i; show s.ws.getD i 0 + x ≤ t.ws.getD i 0 + y; omega), by have := h.cm; show s.came + x ≤ t.came + y; omega, h.sd, h.rv, h.tk⟩
theorem les_flow {s t : St} (h : LeS s t) (g : Gt) : LeS (flowS s g) (flowS t g) := by
  have := h.w.2 g.fr.toNat
  refine les_move h ?_ ?_ <;> (unfold flowL; generalize g.sill + g.boards * g.step = z; omega)
theorem les_take {s t : St} (h : LeS s t) (x : Tk) : LeS (takeS s x) (takeS t x) := by
  have := h.w.2 x.pond.toNat
  have hf : takeL s.ws x ≤ takeL t.ws x := by unfold takeL; omega
  exact ⟨h.w.set (by unfold takeL; omega), h.cm, h.sd, h.rv, by have := h.tk; show s.taken + takeL s.ws x ≤ t.taken + takeL t.ws x; omega⟩
theorem les_spill {s t : St} (h : LeS s t) (p : Pd × Nat) : LeS (spillS s p) (spillS t p) := by
  have := h.w.2 p.2
  refine les_move h ?_ ?_ <;> (unfold spillL; omega)
section
variable {n : Nat} {M B a : Int} {sl s sg : St}
theorem tru_come (h : Tru n M B a sl s sg) {x1 x x2 : Int} {i : Nat} (h1 : x1 ≤ x) (h2 : x ≤ x2) (hx : 0 ≤ x) (hx2 : x ≤ 68719476736) (hi : i < n) (hM : M ≤ 4398046511104) (hB : B ≤ 2305843009213693952) :
    ComeOk s (x, i) ∧ Tru n (M + 68719476736) (B + 68719476736) a (comeS sl (x1, i)) (comeS s (x, i)) (comeS sg (x2, i)) := by
  obtain ⟨q1, q2⟩ := come_good h.d hx hx2 hi hM hB
  refine ⟨q1, les_come h.l h1, les_come h.g h2, q2, ?_⟩
  have hc := h.c
  have := sum_set s.ws i (s.ws.getD i 0 + x) (by rw [h.d.len]; exact hi)
  unfold Cn at hc ⊢
  simp only [comeS, this]
  omega
theorem tru_flow (h : Tru n M B a sl s sg) {g : Gt} (hv : gateB g n = true) (hM : M ≤ 4398046511104) (hB : B ≤ 4611686018427387904) : FlowOk s g ∧ Tru n M B a (flowS sl g) (flowS s g) (flowS sg g) := by
  obtain ⟨q1, q2⟩ := flow_good h.d hv hM hB
  refine ⟨q1, les_flow h.l g, les_flow h.g g, q2, ?_⟩
  simp [gateB, indexB, waterB, boardsB] at hv
  exact cn_move h.c (by rw [h.d.len]; omega) (by rw [h.d.len]; omega)
theorem tru_take (h : Tru n M B a sl s sg) {t : Tk} (h1 : 0 ≤ t.pond) (h2 : t.pond < n) (h3 : 0 ≤ t.amount) (hM : M ≤ 4398046511104) (hB : B ≤ 4611686018427387904) : TakeOk s t ∧ Tru n M B a (takeS sl t) (takeS s t) (takeS sg t) := by
  obtain ⟨q1, q2⟩ := take_good h.d h1 h2 h3 hM hB
  refine ⟨q1, les_take h.l t, les_take h.g t, q2, ?_⟩
  have hc := h.c
  have := sum_set s.ws t.pond.toNat (s.ws.getD t.pond.toNat 0 - takeL s.ws t) (by rw [h.d.len]; omega)
  unfold Cn at hc ⊢
  simp only [takeS, this]
  omega
theorem tru_seep (h : Tru n M B a sl s sg) {p : Pd} {i : Nat} {e : Int} (hi : i < n) (h1 : 0 ≤ p.lo) (h2 : p.lo ≤ p.hi) (h3 : p.hi ≤ 1000000) (e1 : s.ws.getD i 0 * p.lo / 1000000 ≤ e) (e2 : e ≤ (s.ws.getD i 0 * p.hi + 1000000 - 1) / 1000000) (hM : M ≤ 4398046511104) (hB : B ≤ 2305843009213693952) :
    (0 ≤ s.ws.getD i 0 ∧ s.ws.getD i 0 ≤ 4398046511104 ∧ 0 ≤ e ∧ e ≤ s.ws.getD i 0 ∧ InR (s.seeped + e)) ∧ Tru n M (B + 4398046511104) a (seepS false sl (p, i)) (seepT s i e) (seepS true sg (p, i)) := by
  have hg := h.d.get i
  have q1 := h.d.cB; have q2 := h.d.c0; have q3 := h.d.sum; have q4 := h.d.all; have q5 := h.d.r0; have q6 := h.d.t0; have q7 := h.d.sB; have q8 := h.d.s0
  have hsn := sum_nonneg _ h.d.pos
  have b1 := seep_bounds (v := s.ws.getD i 0) (a := p.lo) hg.1 h1 (by omega)
  have b2 := seep_bounds (v := s.ws.getD i 0) (a := p.hi) hg.1 (by omega) h3
  have hs := sum_set s.ws i (s.ws.getD i 0 - e) (by rw [h.d.len]; omega)
  have l1 := h.l.w.2 i
  have l2 := h.g.w.2 i
  have hc := h.c
  refine ⟨⟨hg.1, by omega, by omega, by omega, ⟨by omega, by omega⟩⟩, ⟨h.l.w.set ?_, h.l.cm, ?_, h.l.rv, h.l.tk⟩, ⟨h.g.w.set ?_, h.g.cm, ?_, h.g.rv, h.g.tk⟩, ⟨by simp [seepT, h.d.len], set_nonneg h.d.pos (by omega), ?_, q2, ?_, q5, q6, ?_, ?_, ?_⟩, ?_⟩
  · show stayV false (sl.ws.getD i 0) p.lo p.hi ≤ s.ws.getD i 0 - e
    have := (stay_mono h3 l1).2
    unfold stayV; simp only [Bool.false_eq_true, if_false]; omega
  · show sl.seeped + seepV false (sl.ws.getD i 0) p.lo p.hi ≤ s.seeped + e
    have := (seep_mono h1 l1).1
    have := h.l.sd
    unfold seepV; simp only [Bool.false_eq_true, if_false]; omega
  · show s.ws.getD i 0 - e ≤ stayV true (sg.ws.getD i 0) p.lo p.hi
    have := (stay_mono (show p.lo ≤ 1000000 by omega) l2).1
    unfold stayV; simp only [if_true]; omega
  · show s.seeped + e ≤ sg.seeped + seepV true (sg.ws.getD i 0) p.lo p.hi
    have := (seep_mono (show 0 ≤ p.hi by omega) l2).2
    have := h.g.sd
    unfold seepV; simp only [if_true]; omega
  all_goals simp only [seepT]
  · rw [hs]; omega
  · omega
  · omega
  · omega
  · rw [hs]; omega
  · unfold Cn at hc ⊢
    simp only [hs]
    omega
theorem tru_spill (h : Tru n M B a sl s sg) {p : Pd} {i : Nat} (hi : i < n) (hp : 1 ≤ p.full) (hp2 : p.full ≤ 68719476736) (ht : p.spill = -1 ∨ 0 ≤ p.spill ∧ p.spill < n) (hM : M ≤ 4398046511104) (hB : B ≤ 4611686018427387904) :
    SpillOk s (p, i) ∧ Tru n M B a (spillS sl (p, i)) (spillS s (p, i)) (spillS sg (p, i)) := by
  obtain ⟨q1, q2⟩ := spill_good h.d hi hp hp2 ht hM hB
  refine ⟨q1, les_spill h.l (p, i), les_spill h.g (p, i), q2, ?_⟩
  exact cn_move h.c (by rw [h.d.len]; omega) (by rw [h.d.len]; omega)
end
/-- An hour's start: from what lies behind the hour before. -/
theorem tru_start {c : Ch} (v : c.Vd) {B a : Int} {sl s sg : St} (hl : LeS sl s) (hg : LeS s sg) (al : Ahead c.ponds B sl) (ag : Ahead c.ponds B sg) (hc : Cn a s) : Tru c.pn 1099511627776 (B + 1099511627776) a sl s sg := by
  have hpf := pond_facts v
  have hlen : s.ws.length = c.pn := by rw [hg.w.1, ag.len, v.lp]
  have h16 := v.h16
  have pos : ∀ x ∈ s.ws, 0 ≤ x := fun x hx => by
    obtain ⟨i, hi, rfl⟩ := List.getElem_of_mem hx
    have h1 := hl.w.2 i
    have h2 := (getD_sum sl.ws i al.pos).2
    have h3 : s.ws.getD i 0 = s.ws[i] := by simp [List.getD, hi]
    omega
  have hsum : s.ws.sum ≤ c.pn * 68719476736 := by
    have := sum_le s.ws 68719476736 fun j hj => by
      obtain ⟨p, hx⟩ := get_some (l := c.ponds) (i := j) (by rw [v.lp]; omega)
      have h1 := ag.full j p hx
      have h2 := (hpf p (List.mem_of_getElem? hx)).2
      have h3 := hg.w.2 j
      omega
    rw [hlen] at this
    exact this
  have hn0 := sum_nonneg _ pos
  have := al.c0; have := al.s0; have := al.r0; have := al.t0
  have := ag.cB; have := ag.sB; have := ag.all
  have := hl.cm; have := hl.sd; have := hl.rv; have := hl.tk
  have := hg.cm; have := hg.sd; have := hg.rv; have := hg.tk
  exact ⟨hl, hg, ⟨hlen, pos, by omega, by omega, by omega, by omega, by omega, by omega, by omega, by omega⟩, hc⟩
/-- All hours of a valid list: both courses stay within bounds, with the same boards. -/
theorem fo_ahead {c : Ch} (v : c.Vd) {hs : List Hr} (hh : ∀ h ∈ hs, hourB h c.pn c.gn = true) (hcl : ∀ h ∈ hs, h.cs.length = h.cn) (g : Bool) : ∀ i : Nat, i ≤ 200 →
    Ahead c.ponds (i * perHour) (foG g c hs i).2 ∧ (foG g c hs i).1.all (fun g => gateB g c.pn) = true ∧ (foG g c hs i).1.length = c.gn
  | 0, _ => ⟨by have := v.ahead g; simpa [foG] using this, by simpa [foG] using v.g, by simpa [foG] using v.lg⟩
  | i + 1, hi => by
    obtain ⟨h1, h2, h3⟩ := fo_ahead v hh hcl g i (by omega)
    cases e : hs[i]? with
    | none =>
      have : foG g c hs (i + 1) = foG g c hs i := by
        have hl : hs.length ≤ i := by rw [List.getElem?_eq_none_iff] at e; exact e
        unfold foG
        rw [List.take_of_length_le (by omega), List.take_of_length_le hl]
      rw [this]
      exact ⟨⟨h1.len, h1.pos, h1.full, h1.c0, h1.s0, h1.r0, h1.t0, by have := h1.cB; rw [perHour_eq] at *; omega, by have := h1.sB; rw [perHour_eq] at *; omega, by have := h1.all; rw [perHour_eq] at *; omega⟩, h2, h3⟩
    | some h =>
      have hv := hh h (List.mem_of_getElem? e)
      have hcl := hcl h (List.mem_of_getElem? e)
      have es : foG g c hs (i + 1) = (boardsF h (foG g c hs i).1, hourF c g h (foG g c hs i).1 (foG g c hs i).2) := by
        unfold foG; rw [take_step e]
      have h16 := v.h16; have hwp := v.wp
      have hv0 := hv
      simp only [hourB, Bool.and_eq_true] at hv
      obtain ⟨⟨⟨⟨⟨v1, v2⟩, v3⟩, v4⟩, v5⟩, v6⟩ := hv
      have hcn : h.cn = c.pn := by simp at v2; omega
      obtain ⟨_, ah, gg, gl'⟩ := hour_safe (X := mkX c h ⟨0, 0, none, 0⟩ g 0) (gs := (foG g c hs i).1) (s := (foG g c hs i).2) (B := i * perHour) (by show c.wn = c.ponds.length; rw [v.lp, v.wp]) (by show c.wn ≤ 16; omega) (by show c.pn = c.wn; omega) (by show h.cn = c.wn; omega) (by show c.gn = _; rw [h3]) hcl
        (by show c.ponds.zipIdx.all (fun p => pondB p.1 p.2 c.wn) = true; rw [hwp]; exact v.p) (by show (foG g c hs i).1.all (fun g => gateB g c.wn) = true; rw [hwp]; exact h2) v4 v5 (by show h.ts.all (fun t => indexB t.pond c.wn && waterB t.amount) = true; rw [hwp]; exact v6) h1 (by rw [perHour_eq]; omega) (by rw [perHour_eq]; omega)
      rw [es]
      have e1 : ((i + 1 : Nat) : Int) * perHour = i * perHour + perHour := by rw [Int.natCast_add, Int.add_mul]; simp
      rw [e1]
      refine ⟨ah, ?_, ?_⟩
      · have e2 : (mkX c h ⟨0, 0, none, 0⟩ g 0).n = c.wn := rfl
        rw [e2, hwp] at gg
        exact gg
      · show (boardsS (mkX c h ⟨0, 0, none, 0⟩ g 0) (foG g c hs i).1).length = _
        rw [gl', h3]
theorem fo_gates {c : Ch} {hs : List Hr} : ∀ i, (foG true c hs i).1 = (foG false c hs i).1
  | 0 => rfl
  | i + 1 => by
    have ih := fo_gates (c := c) (hs := hs) i
    cases e : hs[i]? with
    | none =>
      have hl : hs.length ≤ i := by rw [List.getElem?_eq_none_iff] at e; exact e
      unfold foG at ih ⊢
      rw [List.take_of_length_le (show hs.length ≤ i + 1 by omega)]
      rw [List.take_of_length_le hl] at ih
      exact ih
    | some h =>
      unfold foG at ih ⊢
      rw [take_step e, take_step e]
      simp only
      rw [ih]
theorem fo_step {c : Ch} {hs : List Hr} {g : Bool} {i : Nat} {h : Hr} (e : hs[i]? = some h) : foG g c hs (i + 1) = (boardsF h (foG g c hs i).1, hourF c g h (foG g c hs i).1 (foG g c hs i).2) := by
  unfold foG; rw [take_step e]
end Go.Ax
namespace Go.Ax
open Go Go.RowKit Go.Proofs

/-! ChainTrue: what is true, in the heap. -/
structure Tx where
  T : Nat
  pb : Nat
  pcap : Nat
  ga : Option Addr
  gcap : Nat
def Tx.W (p : Tx) : List Nat := p.T :: p.pb :: gl p.ga
def Tx.cells (p : Tx) (gn n : Nat) (s : St) : List Value := [.slice p.ga gn p.gcap, .slice (some ⟨p.pb, 0, none⟩) n p.pcap, iv s.came, iv s.seeped, iv s.river, iv s.taken]
structure TAt (gn n L : Nat) (p : Tx) (H : Hp) (gs : List Gt) (s : St) : Prop where
  hT : Cl H p.T (p.cells gn n s)
  hP : Cl H p.pb (ints s.ws)
  hG : Own L H p.ga gn (gtc gs)
  lg : gs.length = gn
  lws : s.ws.length = n
  lT : L ≤ p.T
  lP : L ≤ p.pb
  ne : p.T ≠ p.pb
  gT : p.T ∉ gl p.ga
  gP : p.pb ∉ gl p.ga
section
variable {gn n L : Nat} {p : Tx} {H H1 : Hp} {gs : List Gt} {s : St}
theorem TAt.off (h : TAt gn n L p H gs s) {b : Nat} (hb : b < L) : b ∉ p.W := by
  have h1 := h.lT; have h2 := h.lP
  intro q
  simp only [Tx.W, List.mem_cons] at q
  rcases q with q | q | q
  · omega
  · omega
  · rcases h.hG with ⟨e, _⟩ | ⟨gb, e, l, _⟩
    · rw [e] at q; simp [gl] at q
    · rw [mem_gl e] at q; simp at q; omega
theorem TAt.offNew (h : TAt gn n L p H gs s) {b : Nat} (hb : H.next ≤ b) : b ∉ p.W := by
  have h1 := h.hT.lt; have h2 := h.hP.lt
  intro q
  simp only [Tx.W, List.mem_cons] at q
  rcases q with q | q | q
  · omega
  · omega
  · rcases h.hG with ⟨e, _⟩ | ⟨gb, e, l, c⟩
    · rw [e] at q; simp [gl] at q
    · rw [mem_gl e] at q; simp at q; have := c.lt; omega
theorem TAt.keep0 (h : TAt gn n L p H gs s) (k : Keep H H1 []) : TAt gn n L p H1 gs s :=
  ⟨k.cl h.hT (by simp), k.cl h.hP (by simp), h.hG.keep k (fun _ _ => by simp), h.lg, h.lws, h.lT, h.lP, h.ne, h.gT, h.gP⟩
theorem TAt.stT (h : TAt gn n L p H gs s) {s' : St} (k : Keep H H1 [p.T]) (c : Cl H1 p.T (p.cells gn n s')) (hw : s'.ws = s.ws) : TAt gn n L p H1 gs s' :=
  ⟨c, by rw [hw]; exact k.cl h.hP (by have := h.ne; simp; omega), h.hG.keep k (fun b e q => by simp at q; subst q; have := h.gT; rw [mem_gl e] at this; simp at this), h.lg, by rw [hw]; exact h.lws, h.lT, h.lP, h.ne, h.gT, h.gP⟩
theorem TAt.stP (h : TAt gn n L p H gs s) {ws : List Int} (k : Keep H H1 [p.pb]) (c : Cl H1 p.pb (ints ws)) (hl : ws.length = s.ws.length) : TAt gn n L p H1 gs { s with ws := ws } :=
  ⟨k.cl h.hT (by have := h.ne; simp; omega), c, h.hG.keep k (fun b e q => by simp at q; subst q; have := h.gP; rw [mem_gl e] at this; simp at this), h.lg, by have := h.lws; simp only; omega, h.lT, h.lP, h.ne, h.gT, h.gP⟩
theorem TAt.stG (h : TAt gn n L p H gs s) {gs' : List Gt} {gb : Nat} (e : p.ga = some ⟨gb, 0, none⟩) (k : Keep H H1 [gb]) (c : Cl H1 gb (gtc gs')) (hl : gs'.length = gs.length) : TAt gn n L p H1 gs' s := by
  have g1 := h.gT; have g2 := h.gP
  rw [mem_gl e] at g1 g2
  have hlo : L ≤ gb := by
    rcases h.hG with ⟨e', _⟩ | ⟨b, e', l, _⟩
    · rw [e] at e'; cases e'
    · rw [e] at e'; cases e'; exact l
  exact ⟨k.cl h.hT g1, k.cl h.hP g2, .inr ⟨gb, e, hlo, c⟩, by rw [hl]; exact h.lg, h.lws, h.lT, h.lP, h.ne, h.gT, h.gP⟩
end
/-- What an hour of the truth reads. -/
structure TE (c : Ch) (h : Hr) (ba : Option Addr) (bl bcap : Nat) (bs : List Nat) (b5 b6 b7 : Nat) (p : Tx) (F : Hp) : Prop where
  e5 : Rd F b5 [pt p.T]
  e6 : Rd F b6 [.slice c.pa c.pn c.pcap, .slice c.ga c.gn c.gcap]
  e7 : Rd F b7 h.v
  hp : Sl F c.pa c.pn c.pcap (pdc c.ponds)
  hh : h.At F
  hy : Sl F ba bl bcap (u32s bs)
  o5 : b5 ∉ p.W
  o6 : b6 ∉ p.W
  o7 : b7 ∉ p.W
  op : Off p.W c.pa
  ob : Off p.W h.ba
  oc : Off p.W h.ca
  ot : Off p.W h.ta
  oy : Off p.W ba
theorem TE.keep {c : Ch} {h : Hr} {ba : Option Addr} {bl bcap : Nat} {bs : List Nat} {b5 b6 b7 : Nat} {p : Tx} {F H : Hp} {w : List Nat} (t : TE c h ba bl bcap bs b5 b6 b7 p F) (k : Keep F H w) (hw : ∀ b, b ∈ w → b ∈ p.W) : TE c h ba bl bcap bs b5 b6 b7 p H := by
  have k := k.mono hw
  exact ⟨k.rd t.e5 t.o5, k.rd t.e6 t.o6, k.rd t.e7 t.o7, k.sl t.hp t.op, ⟨k.sl t.hh.b t.ob, k.sl t.hh.c t.oc, k.sl t.hh.t t.ot, t.hh.lb, t.hh.lc, t.hh.lt⟩, k.sl t.hy t.oy, t.o5, t.o6, t.o7, t.op, t.ob, t.oc, t.ot, t.oy⟩
/-- The number of the list by which something is chosen. -/
structure By (bl : Nat) (bs : List Nat) : Prop where
  hbl : bs.length = bl
  h0 : 0 < bl
  hr : ∀ n ∈ bs, n ≤ 4294967295
  h2 : bl ≤ 9223372036854775807
def giveS (s : St) (to n : Int) : St := { s with ws := if to = -1 then s.ws else s.ws.set to.toNat (s.ws.getD to.toNat 0 + n), river := moveR s.river to n }
def hasB (a b n : Int) : Bool := decide (a ≤ n) && decide (n ≤ b)
section
variable {kn : FuncId → Option Bool} {lo : Nat} {H : Hp}
theorem has_ok {a b n : Int} : ∃ H', FnX Try.prog kn lo 36 [sp a b, iv n] H (.bool (hasB a b n)) H' ∧ Keep H H' [] := by
  have key := fnX_low (kn := kn) (lo := lo) (H := H) (args := [sp a b, iv n]) (Q := fun v H' => v = .bool (hasB a b n) ∧ Keep H H' []) Try.func36 B36 N36 Z36 L36 (by simp) ?_
  · obtain ⟨v, H', h, rfl, q⟩ := key; exact ⟨H', h, q⟩
  intro H1 hH1
  obtain ⟨k1, n1, c1⟩ := new_facts hH1
  have c1 : Cl H1 H.next [iv a, iv b] := c1
  repeat' first
    | refine Exists.intro _ (Exists.intro _ (And.intro c1.of (And.intro rfl ?_)))
    | (intro t ht; cases t)
    | exact And.intro trivial (Exists.intro _ (And.intro rfl ⟨by simp_all [retV, hasB] <;> (intros; omega), k1⟩))
    | refine And.intro rfl (Exists.intro _ (And.intro rfl ?_))
theorem give_ok {gn n L : Nat} {p : Tx} {gs : List Gt} {s : St} {b5 : Nat} {to l : Int} (ta : TAt gn n L p H gs s) (h5 : Rd H b5 [pt p.T]) (hlo : lo ≤ L) (ht : to = -1 ∨ 0 ≤ to ∧ to < n)
    (b2 : InR (s.river + l)) (b3 : InR (s.ws.getD to.toNat 0 + l)) :
    ∃ H', FnX Try.prog kn lo 69 [iv to, iv l, pt b5] H unit H' ∧ TAt gn n L p H' gs (giveS s to l) ∧ Keep H H' p.W := by
  have key := fnX_low (kn := kn) (lo := lo) (H := H) (args := [iv to, iv l, pt b5]) (Q := fun v H' => v = unit ∧ TAt gn n L p H' gs (giveS s to l) ∧ Keep H H' p.W) Try.func69 B69 N69 Z69 L69 (by simp) ?_
  · obtain ⟨v, H', h, rfl, q⟩ := key; exact ⟨H', h, q⟩
  have hlT := ta.lT; have hlP := ta.lP; have hlw := ta.lws
  refine And.intro (fun hb => ?_) (fun hb => ?_)
  · have h0 : 0 ≤ to := by simpa using hb
    have hto : to ≠ -1 := by omega
    have c5 := ta.hT
    have cP := ta.hP
    refine Exists.intro _ (Exists.intro _ (And.intro h5.of (And.intro rfl ?_)))
    refine Exists.intro _ (Exists.intro _ (And.intro c5.of (And.intro (show (p.cells gn n s)[1]? = some (.slice (some ⟨p.pb, 0, none⟩) n p.pcap) from rfl) ?_)))
    refine Exists.intro to.toNat (And.intro (by omega) (And.intro (by omega) ?_))
    refine Exists.intro _ (Exists.intro _ (And.intro cP.of (And.intro (by rw [Nat.zero_add, Nat.mul_one]; exact ints_get (by omega)) ?_)))
    refine And.intro b3 ?_
    refine Exists.intro to.toNat (And.intro (by omega) (And.intro (by omega) ?_))
    obtain ⟨_, e1, l1, g1⟩ := id cP
    refine Exists.intro _ (Exists.intro _ (Exists.intro _ (And.intro g1 (And.intro (by omega) (And.intro rfl (And.intro rfl (And.intro (by rw [ints_len]; omega) ?_)))))))
    intro H1 hH1
    rw [Nat.zero_add, Nat.mul_one, ints_set] at hH1
    obtain ⟨k1, n1, c1⟩ := up_facts cP hH1
    have t1 := ta.stP k1 c1 (by simp)
    refine And.intro trivial (Exists.intro _ (And.intro rfl ⟨rfl, ?_, k1.mono (by simp [Tx.W])⟩))
    have e : giveS s to l = { s with ws := s.ws.set to.toNat (s.ws.getD to.toNat 0 + l) } := by unfold giveS moveR; rw [if_neg hto, if_neg hto]
    rw [e]; exact t1
  · have h0 : ¬ 0 ≤ to := by simpa using hb
    have hto : to = -1 := by omega
    have c5 := ta.hT
    refine Exists.intro _ (Exists.intro _ (And.intro h5.of (And.intro rfl ?_)))
    refine Exists.intro _ (Exists.intro _ (And.intro c5.of (And.intro (show (p.cells gn n s)[4]? = some (iv s.river) from rfl) ?_)))
    refine And.intro b2 ?_
    obtain ⟨_, e1, l1, g1⟩ := id c5
    refine Exists.intro _ (Exists.intro _ (Exists.intro _ (And.intro g1 (And.intro (by omega) (And.intro rfl (And.intro rfl (And.intro (by simp [Tx.cells]) ?_)))))))
    intro H1 hH1
    obtain ⟨k1, n1, c1⟩ := up_facts c5 hH1
    have c1 : Cl H1 p.T (p.cells gn n { s with river := s.river + l }) := c1
    have t1 := ta.stT k1 c1 rfl
    refine And.intro trivial (Exists.intro _ (And.intro rfl ⟨rfl, ?_, k1.mono (by simp [Tx.W])⟩))
    have e : giveS s to l = { s with river := s.river + l } := by unfold giveS moveR; rw [if_pos hto, if_pos hto]
    rw [e]; exact t1

variable {c : Ch} {h : Hr} {ba : Option Addr} {bl bcap : Nat} {bs : List Nat} {b5 b6 b7 L : Nat} {p : Tx} {F : Hp}
theorem lv_boards {gs : List Gt} {s : St} {S : Rg} {K : Exit → Rg → Hp → Prop} {tv : Value} (te : TE c h ba bl bcap bs b5 b6 b7 p H) (ta : TAt c.gn c.pn L p H gs s) (hloL : lo ≤ L) (hlo : lo ≤ H.next)
    (hbn : h.bn ≤ 1000) (hgn : c.gn ≤ 1000) (hv : ∀ b ∈ h.bs, 0 ≤ b.gate ∧ b.gate < c.gn)
    (hS : Subs [(30, .slice h.ba h.bn h.bcap), (31, iv (h.bn : Int)), (32, iv ((0 : Nat) : Int)), (5, pt b5), (6, pt b6), (7, pt b7), (3, .slice ba bl bcap), (4, tv)] S)
    (hK : ∀ H1, TAt c.gn c.pn L p H1 (h.bs.foldl boardS gs) s → Keep H H1 p.W → K (.exit 0) [(33, .bool (decide ((h.bn : Int) < h.bn))), (30, .slice h.ba h.bn h.bcap), (31, iv (h.bn : Int)), (32, iv (h.bn : Int)), (5, pt b5), (6, pt b6), (7, pt b7), (3, .slice ba bl bcap), (4, tv)] H1) :
    Tri Try.prog kn lo 268 false (at_ Try.f35 [1, 0, 1, 0]) S H K := by
  have hlb := te.hh.lb
  refine loop_low (fn := Try.f35) E35_1 N35 L35x1 (fun i : Nat => [(30, .slice h.ba h.bn h.bcap), (31, iv (h.bn : Int)), (32, iv (i : Int)), (5, pt b5), (6, pt b6), (7, pt b7), (3, .slice ba bl bcap), (4, tv)])
    (fun k i H1 => i + k = h.bn ∧ TAt c.gn c.pn L p H1 ((h.bs.take i).foldl boardS gs) s ∧ Keep H H1 p.W) h.bn 0 ⟨by omega, by simpa using ta, Keep.refl _ _⟩ hS ?_
  rintro k i H1 ⟨hik, ta1, hk⟩
  refine And.intro (fun hlt => ?_) (fun hge => ?_)
  · have hi : i < h.bn := by simpa using hlt
    have te1 := te.keep hk (fun _ h => h)
    have hba := te1.hh.b
    rcases hba with ⟨_, h0, _⟩ | ⟨bb, eba, hr, _⟩
    · omega
    obtain ⟨x, hx⟩ := get_some (l := h.bs) (i := i) (by omega)
    obtain ⟨v1, v2⟩ := hv x (List.mem_of_getElem? hx)
    generalize hgs : (h.bs.take i).foldl boardS gs = gs1 at *
    rw [eba]
    have hkn := hk.1
    refine Exists.intro i (And.intro rfl (And.intro hi ?_))
    refine Exists.intro _ (Exists.intro _ (And.intro hr.of (And.intro (row_flat (f := Bd.v) (fun _ _ => rfl) hx) ?_)))
    intro H2 hH2
    obtain ⟨k2, n2, c2⟩ := new_facts hH2
    obtain ⟨_, e2, l2, g2⟩ := id c2
    refine Exists.intro _ (Exists.intro _ (Exists.intro _ (And.intro g2 (And.intro (by omega) (And.intro rfl (And.intro rfl (And.intro (by simp) ?_)))))))
    intro H3 hH3
    obtain ⟨k3, n3, c3⟩ := up_facts c2 hH3
    have k13 : Keep H1 H3 [] := k2.new k3 (by simp)
    have ta3 := ta1.keep0 k13
    have te3 := te1.keep k13 (by simp)
    have e5 := te3.e5
    have cT := ta3.hT
    refine Exists.intro _ (Exists.intro _ (And.intro e5.of (And.intro rfl (And.intro e5.lt ?_))))
    refine Exists.intro _ (Exists.intro _ (And.intro cT.of (And.intro (show (p.cells c.gn c.pn s)[0]? = some (.slice p.ga c.gn p.gcap) from rfl) (And.intro cT.lt ?_))))
    refine Exists.intro _ (Exists.intro _ (And.intro c3.of (And.intro rfl (And.intro c3.lt ?_))))
    refine Exists.intro _ (Exists.intro _ (And.intro c3.of (And.intro rfl (And.intro c3.lt ?_))))
    have hgn' : (gs1[x.gate.toNat]?) = some (gs1.getD x.gate.toNat gt0) := by
      have hl : x.gate.toNat < gs1.length := by rw [ta1.lg]; omega
      simp [List.getD, hl]
    have hg3 := ta3.hG
    rcases hg3 with ⟨_, h0, _⟩ | ⟨gb, ega, hgl, hgc⟩
    · omega
    rw [ega]
    refine Exists.intro x.gate.toNat (And.intro (by omega) (And.intro (by omega) ?_))
    obtain ⟨_, eg, lg, gg⟩ := id hgc
    refine Exists.intro _ (Exists.intro _ (Exists.intro _ (And.intro gg (And.intro (by omega) (And.intro rfl (And.intro rfl (And.intro (by rw [gtc_len, ta1.lg]; omega) ?_)))))))
    intro H4 hH4
    rw [gtc, flat_set (f := Gt.v) (fun _ _ => rfl) (k := 4) (y := { gs1.getD x.gate.toNat gt0 with boards := x.boards }) hgn' (by decide) rfl] at hH4
    obtain ⟨k4, n4, c4⟩ := up_facts hgc hH4
    refine And.intro (by repeat' first | exact True.intro | exact (fun h => h) | refine And.intro ?_ ?_) ?_
    refine And.intro ⟨by omega, by omega⟩ ?_
    have hW : ∀ b, b ∈ [gb] → b ∈ p.W := fun b q => by simp [Tx.W, mem_gl ega] at q ⊢; exact .inr (.inr q)
    have hat : TAt c.gn c.pn L p H4 (boardS gs1 x) s := ta3.stG ega k4 c4 (by simp [boardS])
    refine ⟨k - 1, i + 1, by omega, ⟨by omega, ?_, ?_⟩, rfl, rfl, rfl, rfl, rfl, rfl, rfl, rfl, trivial⟩
    · rw [take_step hx, hgs]; exact hat
    · exact (hk.trans (k13.mono (by simp))).trans (k4.mono hW)
  · have hi : ¬ i < h.bn := by simpa using hge
    have hin : i = h.bn := by omega
    subst hin
    rw [List.take_of_length_le (by omega)] at ta1
    exact hK H1 ta1 hk
end
end Go.Ax
namespace Go.Ax
open Go Go.RowKit Go.Proofs

/-! ChainTrue: an hour of the truth, loop by loop. -/
abbrev clo69 (b5 : Nat) : Value := .func (.func 69) #[] #[pt b5]
section
variable {kn : FuncId → Option Bool} {lo : Nat} {H : Hp} {c : Ch} {h : Hr} {ba : Option Addr} {bl bcap : Nat} {bs : List Nat} {b5 b6 b7 L turn : Nat} {p : Tx} {M B a : Int} {sl s sg : St} {gs : List Gt}
theorem lv_comes {S : Rg} {K : Exit → Rg → Hp → Prop} (te : TE c h ba bl bcap bs b5 b6 b7 p H) (by_ : By bl bs) (ta : TAt c.gn c.pn L p H gs s) (hloL : lo ≤ L) (hlo : lo ≤ H.next)
    (hcn : h.cn = c.pn) (h16 : c.pn ≤ 16) (hturn : turn ≤ 100000) (hv : ∀ x ∈ h.cs, 0 ≤ x.1 ∧ x.1 ≤ x.2 ∧ x.2 ≤ 68719476736) (tr : Tru c.pn M B a sl s sg) (hM : M ≤ 1099511627776) (hB : B ≤ 1152921504606846976)
    (hS : Subs [(48, .slice h.ca h.cn h.ccap), (49, iv (h.cn : Int)), (50, iv ((0 : Nat) : Int)), (5, pt b5), (6, pt b6), (7, pt b7), (3, .slice ba bl bcap), (4, iv (turn : Int))] S)
    (hK : ∀ s' H1, TAt c.gn c.pn L p H1 gs s' → Tru c.pn (M + h.cn * 68719476736) (B + h.cn * 68719476736) a ((endS false h.cs).zipIdx.foldl comeS sl) s' ((endS true h.cs).zipIdx.foldl comeS sg) → Keep H H1 p.W →
      K (.exit 2) [(51, .bool (decide ((h.cn : Int) < h.cn))), (48, .slice h.ca h.cn h.ccap), (49, iv (h.cn : Int)), (50, iv (h.cn : Int)), (5, pt b5), (6, pt b6), (7, pt b7), (3, .slice ba bl bcap), (4, iv (turn : Int))] H1) :
    Tri Try.prog kn lo 268 false (at_ Try.f35 [1, 1, 0, 1, 0]) S H K := by
  have hlc := te.hh.lc
  have hbl := by_.hbl; have hb0 := by_.h0; have hb2 := by_.h2
  refine loop_low (fn := Try.f35) E35_2 N35 L35x2 (fun i : Nat => [(48, .slice h.ca h.cn h.ccap), (49, iv (h.cn : Int)), (50, iv (i : Int)), (5, pt b5), (6, pt b6), (7, pt b7), (3, .slice ba bl bcap), (4, iv (turn : Int))])
    (fun k i H1 => i + k = h.cn ∧ ∃ s', TAt c.gn c.pn L p H1 gs s' ∧ Tru c.pn (M + i * 68719476736) (B + i * 68719476736) a (((endS false h.cs).zipIdx.take i).foldl comeS sl) s' (((endS true h.cs).zipIdx.take i).foldl comeS sg) ∧ Keep H H1 p.W) h.cn 0 ⟨by omega, s, ta, by simpa using tr, Keep.refl _ _⟩ hS ?_
  rintro k i H1 ⟨hik, s1, ta1, tr1, hk⟩
  refine And.intro (fun hlt => ?_) (fun hge => ?_)
  · have hi : i < h.cn := by simpa using hlt
    have te1 := te.keep hk (fun _ h => h)
    have hca := te1.hh.c
    rcases hca with ⟨_, h0, _⟩ | ⟨cb, eca, hr, _⟩
    · omega
    obtain ⟨x, hx⟩ := get_some (l := h.cs) (i := i) (by omega)
    obtain ⟨v1, v2, v3⟩ := hv x (List.mem_of_getElem? hx)
    have z1 : (endS false h.cs).zipIdx[i]? = some (x.1, i) := zip_get (by simp [endS, hx, endV])
    have z2 : (endS true h.cs).zipIdx[i]? = some (x.2, i) := zip_get (by simp [endS, hx, endV])
    rw [eca]
    have hkn := hk.1
    refine Exists.intro i (And.intro rfl (And.intro hi ?_))
    refine Exists.intro _ (Exists.intro _ (And.intro hr.of (And.intro (row_flat (f := fun s : Int × Int => [iv s.1, iv s.2]) (fun _ _ => rfl) hx) ?_)))
    intro H2 hH2; obtain ⟨k2, n2, c2⟩ := new_facts hH2; clear hH2
    obtain ⟨_, e2, l2, g2⟩ := id c2
    refine Exists.intro _ (Exists.intro _ (Exists.intro _ (And.intro g2 (And.intro (by omega) (And.intro rfl (And.intro rfl (And.intro (by simp) ?_)))))))
    intro H3 hH3; obtain ⟨k3, n3, c3⟩ := up_facts c2 hH3; clear hH3
    have c3 : Cl H3 H1.next [iv x.1, iv x.2] := c3
    have k13 : Keep H1 H3 [] := k2.new k3 (by simp)
    have ta3 := ta1.keep0 k13
    have te3 := te1.keep k13 (by simp)
    have hn3 := k13.1
    have hy := te3.hy
    rcases hy with ⟨_, w, _⟩ | ⟨yb, eya, hyr, _⟩
    · omega
    have hmod : (turn + i) % bl < bl := Nat.mod_lt _ hb0
    obtain ⟨y, hy⟩ := get_some (l := bs) (i := (turn + i) % bl) (by omega)
    have hy2 := by_.hr y (List.mem_of_getElem? hy)
    obtain ⟨H4, f4, k4⟩ := inner_ok (kn := kn) (lo := lo) (H := H3) (s := x) ⟨v1, v2, by omega⟩ hy2
    obtain ⟨i1, i2⟩ := innerV_in (s := x) (x := y) v2
    rw [eya]
    refine Exists.intro _ (Exists.intro _ (And.intro c3.of (And.intro (show row 2 _ _ = some [iv x.1, iv x.2] from rfl) (And.intro c3.lt ?_))))
    refine And.intro (show InR ((turn : Int) + (i : Int)) from ⟨by omega, by omega⟩) ?_
    refine And.intro (by omega) (And.intro (by omega) (And.intro ⟨by omega, by omega⟩ (And.intro ⟨by omega, by omega⟩ ?_)))
    refine Exists.intro ((turn + i) % bl) (And.intro (by simp) (And.intro hmod ?_))
    refine Exists.intro _ (Exists.intro _ (And.intro hyr.of (And.intro (show _ = some (.int .u32 (y : Int)) by rw [Nat.zero_add, Nat.mul_one]; simp [u32s, hy]) (And.intro hyr.lt ?_))))
    refine Exists.intro _ (Exists.intro _ (And.intro (callX_args f4) ?_))
    refine And.intro (by repeat' first | exact True.intro | exact (fun h => h) | refine And.intro ?_ ?_) ?_
    have ta4 := ta3.keep0 k4
    have te4 := te3.keep k4 (by simp)
    have hn4 := k4.1
    have e5 := te4.e5
    have cT := ta4.hT
    have cP := ta4.hP
    have hlw := ta4.lws
    have hi2 : i < c.pn := by omega
    obtain ⟨q1, q2⟩ := tru_come tr1 (x1 := x.1) (x := innerV x y) (x2 := x.2) (i := i) i1 i2 (by omega) (by omega) hi2 (by omega) (by omega)
    generalize innerV x y = e at *
    refine Exists.intro _ (Exists.intro _ (And.intro e5.of (And.intro rfl ?_)))
    refine Exists.intro _ (Exists.intro _ (And.intro cT.of (And.intro (show (p.cells c.gn c.pn s1)[1]? = some (.slice (some ⟨p.pb, 0, none⟩) c.pn p.pcap) from rfl) ?_)))
    refine Exists.intro i (And.intro rfl (And.intro hi2 ?_))
    refine Exists.intro _ (Exists.intro _ (And.intro cP.of (And.intro (by rw [Nat.zero_add, Nat.mul_one]; exact ints_get (by omega)) ?_)))
    refine And.intro q1.1 ?_
    refine Exists.intro i (And.intro rfl (And.intro hi2 ?_))
    have hlP := ta.lP; have hlT := ta.lT
    obtain ⟨_, e5', l5, g5⟩ := id cP
    refine Exists.intro _ (Exists.intro _ (Exists.intro _ (And.intro g5 (And.intro (by omega) (And.intro rfl (And.intro rfl (And.intro (by rw [ints_len]; omega) ?_)))))))
    intro H5 hH5
    rw [Nat.zero_add, Nat.mul_one, ints_set] at hH5
    obtain ⟨k5, n5, c5⟩ := up_facts cP hH5; clear hH5
    have ta5 := ta4.stP k5 c5 (by simp)
    have te5 := te4.keep k5 (by simp [Tx.W])
    have e5 := te5.e5
    have cT := ta5.hT
    refine Exists.intro _ (Exists.intro _ (And.intro e5.of (And.intro rfl ?_)))
    refine Exists.intro _ (Exists.intro _ (And.intro cT.of (And.intro (show _ = some (iv s1.came) from rfl) ?_)))
    refine And.intro q1.2 ?_
    obtain ⟨_, e6', l6, g6⟩ := id cT
    refine Exists.intro _ (Exists.intro _ (Exists.intro _ (And.intro g6 (And.intro (by omega) (And.intro rfl (And.intro rfl (And.intro (by simp [Tx.cells]) ?_)))))))
    intro H6 hH6
    obtain ⟨k6, n6, c6⟩ := up_facts cT hH6; clear hH6
    have ta6 : TAt c.gn c.pn L p H6 gs (comeS s1 (e, i)) := ta5.stT k6 c6 rfl
    refine And.intro ⟨by omega, by omega⟩ ?_
    refine ⟨k - 1, i + 1, by omega, ⟨by omega, comeS s1 (e, i), ta6, ?_, ?_⟩, rfl, rfl, rfl, rfl, rfl, rfl, rfl, rfl, trivial⟩
    · rw [take_step z1, take_step z2]
      have e1 : ((i + 1 : Nat) : Int) * 68719476736 = i * 68719476736 + 68719476736 := by rw [Int.natCast_add, Int.add_mul]; simp
      rw [e1, ← Int.add_assoc, ← Int.add_assoc]
      exact q2
    · exact (((hk.trans (k13.mono (by simp))).trans (k4.mono (by simp))).trans (k5.mono (by simp [Tx.W]))).trans (k6.mono (by simp [Tx.W]))
  · have hi : ¬ i < h.cn := by simpa using hge
    have hin : i = h.cn := by omega
    subst hin
    rw [List.take_of_length_le (by simp [endS]; omega), List.take_of_length_le (by simp [endS]; omega)] at tr1
    exact hK s1 H1 ta1 tr1 hk
theorem lv_takes {S : Rg} {K : Exit → Rg → Hp → Prop} (te : TE c h ba bl bcap bs b5 b6 b7 p H) (ta : TAt c.gn c.pn L p H gs s) (hloL : lo ≤ L) (hlo : lo ≤ H.next)
    (htn : h.tn ≤ 32) (hv : ∀ x ∈ h.ts, 0 ≤ x.pond ∧ x.pond < c.pn ∧ 0 ≤ x.amount) (tr : Tru c.pn M B a sl s sg) (hM : M ≤ 4398046511104) (hB : B ≤ 4611686018427387904)
    (hS : Subs [(135, .slice h.ta h.tn h.tcap), (136, iv (h.tn : Int)), (137, iv ((0 : Nat) : Int)), (5, pt b5), (6, pt b6), (7, pt b7), (3, .slice ba bl bcap), (4, iv (turn : Int)), (15, clo69 b5)] S)
    (hK : ∀ s' H1, TAt c.gn c.pn L p H1 gs s' → Tru c.pn M B a (h.ts.foldl takeS sl) s' (h.ts.foldl takeS sg) → Keep H H1 p.W →
      K (.exit 6) [(138, .bool (decide ((h.tn : Int) < h.tn))), (135, .slice h.ta h.tn h.tcap), (136, iv (h.tn : Int)), (137, iv (h.tn : Int)), (5, pt b5), (6, pt b6), (7, pt b7), (3, .slice ba bl bcap), (4, iv (turn : Int)), (15, clo69 b5)] H1) :
    Tri Try.prog kn lo 268 false (at_ Try.f35 [1, 1, 1, 1, 1, 0, 1, 0]) S H K := by
  have hlt2 := te.hh.lt
  refine loop_low (fn := Try.f35) E35_4 N35 L35x4 (fun i : Nat => [(135, .slice h.ta h.tn h.tcap), (136, iv (h.tn : Int)), (137, iv (i : Int)), (5, pt b5), (6, pt b6), (7, pt b7), (3, .slice ba bl bcap), (4, iv (turn : Int)), (15, clo69 b5)])
    (fun k i H1 => i + k = h.tn ∧ ∃ s', TAt c.gn c.pn L p H1 gs s' ∧ Tru c.pn M B a ((h.ts.take i).foldl takeS sl) s' ((h.ts.take i).foldl takeS sg) ∧ Keep H H1 p.W) h.tn 0 ⟨by omega, s, ta, by simpa using tr, Keep.refl _ _⟩ hS ?_
  rintro k i H1 ⟨hik, s1, ta1, tr1, hk⟩
  refine And.intro (fun hlt => ?_) (fun hge => ?_)
  · have hi : i < h.tn := by simpa using hlt
    have te1 := te.keep hk (fun _ h => h)
    have hta := te1.hh.t
    rcases hta with ⟨_, h0, _⟩ | ⟨tb, eta, hr, _⟩
    · omega
    obtain ⟨x, hx⟩ := get_some (l := h.ts) (i := i) (by omega)
    obtain ⟨v1, v2, v3⟩ := hv x (List.mem_of_getElem? hx)
    rw [eta]
    have hkn := hk.1
    refine Exists.intro i (And.intro rfl (And.intro hi ?_))
    refine Exists.intro _ (Exists.intro _ (And.intro hr.of (And.intro (row_flat (f := Tk.v) (fun _ _ => rfl) hx) ?_)))
    intro H2 hH2; obtain ⟨k2, n2, c2⟩ := new_facts hH2; clear hH2
    obtain ⟨_, e2, l2, g2⟩ := id c2
    refine Exists.intro _ (Exists.intro _ (Exists.intro _ (And.intro g2 (And.intro (by omega) (And.intro rfl (And.intro rfl (And.intro (by simp) ?_)))))))
    intro H3 hH3; obtain ⟨k3, n3, c3⟩ := up_facts c2 hH3; clear hH3
    have c3 : Cl H3 H1.next [iv x.pond, iv x.amount] := c3
    have k13 : Keep H1 H3 [] := k2.new k3 (by simp)
    have ta3 := ta1.keep0 k13
    have te3 := te1.keep k13 (by simp)
    have hn3 := k13.1
    have e5 := te3.e5
    have cT := ta3.hT
    have cP := ta3.hP
    have hlw := ta3.lws
    obtain ⟨q1, q2⟩ := tru_take tr1 v1 v2 v3 hM hB
    have hx2 : x.pond.toNat < c.pn := by omega
    refine Exists.intro _ (Exists.intro _ (And.intro c3.of (And.intro rfl (And.intro c3.lt ?_))))
    refine Exists.intro _ (Exists.intro _ (And.intro e5.of (And.intro rfl (And.intro e5.lt ?_))))
    refine Exists.intro _ (Exists.intro _ (And.intro cT.of (And.intro (show (p.cells c.gn c.pn s1)[1]? = some (.slice (some ⟨p.pb, 0, none⟩) c.pn p.pcap) from rfl) (And.intro cT.lt ?_))))
    refine Exists.intro _ (Exists.intro _ (And.intro c3.of (And.intro rfl (And.intro c3.lt ?_))))
    refine Exists.intro x.pond.toNat (And.intro (by omega) (And.intro hx2 ?_))
    refine Exists.intro _ (Exists.intro _ (And.intro cP.of (And.intro (by rw [Nat.zero_add, Nat.mul_one]; exact ints_get (by omega)) (And.intro cP.lt ?_))))
    refine And.intro (by repeat' first | exact True.intro | exact (fun h => h) | refine And.intro ?_ ?_) ?_
    refine Exists.intro _ (Exists.intro _ (And.intro e5.of (And.intro rfl (And.intro e5.lt ?_))))
    refine Exists.intro _ (Exists.intro _ (And.intro cT.of (And.intro (show (p.cells c.gn c.pn s1)[1]? = some (.slice (some ⟨p.pb, 0, none⟩) c.pn p.pcap) from rfl) (And.intro cT.lt ?_))))
    refine Exists.intro _ (Exists.intro _ (And.intro c3.of (And.intro rfl (And.intro c3.lt ?_))))
    refine Exists.intro x.pond.toNat (And.intro (by omega) (And.intro hx2 ?_))
    refine Exists.intro _ (Exists.intro _ (And.intro cP.of (And.intro (by rw [Nat.zero_add, Nat.mul_one]; exact ints_get (by omega)) (And.intro cP.lt ?_))))
    refine And.intro q1.1 ?_
    refine Exists.intro x.pond.toNat (And.intro (by omega) (And.intro hx2 ?_))
    have hlP := ta.lP; have hlT := ta.lT
    obtain ⟨_, e5', l5, g5⟩ := id cP
    refine Exists.intro _ (Exists.intro _ (Exists.intro _ (And.intro g5 (And.intro (by omega) (And.intro rfl (And.intro rfl (And.intro (by rw [ints_len]; omega) ?_)))))))
    intro H5 hH5
    rw [Nat.zero_add, Nat.mul_one] at hH5
    rw [ints_set] at hH5
    obtain ⟨k5, n5, c5⟩ := up_facts cP hH5; clear hH5
    refine And.intro (by repeat' first | exact True.intro | exact (fun h => h) | refine And.intro ?_ ?_) ?_
    have ta5 := ta3.stP k5 c5 (by simp)
    have te5 := te3.keep k5 (by simp [Tx.W])
    have e5 := te5.e5
    have cT := ta5.hT
    refine Exists.intro _ (Exists.intro _ (And.intro e5.of (And.intro rfl ?_)))
    refine Exists.intro _ (Exists.intro _ (And.intro cT.of (And.intro (show _ = some (iv s1.taken) from rfl) ?_)))
    refine And.intro q1.2 ?_
    obtain ⟨_, e6', l6, g6⟩ := id cT
    refine Exists.intro _ (Exists.intro _ (Exists.intro _ (And.intro g6 (And.intro (by omega) (And.intro rfl (And.intro rfl (And.intro (by simp [Tx.cells]) ?_)))))))
    intro H6 hH6
    obtain ⟨k6, n6, c6⟩ := up_facts cT hH6; clear hH6
    have ta6 : TAt c.gn c.pn L p H6 gs (takeS s1 x) := ta5.stT k6 c6 rfl
    refine And.intro ⟨by omega, by omega⟩ ?_
    refine ⟨k - 1, i + 1, by omega, ⟨by omega, takeS s1 x, ta6, ?_, ?_⟩, rfl, rfl, rfl, rfl, rfl, rfl, rfl, rfl, rfl, trivial⟩
    · rw [take_step hx, take_step hx]
      exact q2
    · exact ((hk.trans (k13.mono (by simp))).trans (k5.mono (by simp [Tx.W]))).trans (k6.mono (by simp [Tx.W]))
  · have hi : ¬ i < h.tn := by simpa using hge
    have hin : i = h.tn := by omega
    subst hin
    rw [List.take_of_length_le (by omega)] at tr1
    exact hK s1 H1 ta1 tr1 hk
end
end Go.Ax
namespace Go.Ax
open Go Go.RowKit Go.Proofs

/-! ChainTrue: the gates, what seeps, what spills. -/
section
variable {P : Program} {kn : FuncId → Option Bool} {lo n : Nat} {rd : Bool} {masks : List Nat} {r : List RO} {ks : List Kd} {S : Rg} {H : Hp} {K : Rg → Hp → Prop} {d : Option Nat} {x y : Operand}
theorem wD_mul {a b : Int} (hx : evS S x = some (.int .i64 a)) (hy : evS S y = some (.int .i64 b)) (h2 : InR (a * b)) (h : wDraw P kn lo n masks r (.pure :: ks) (putS S d (.int .i64 (a * b))) H K) : wDraw P kn lo n masks (⟨d, none, .ari .mul x y⟩ :: r) ks S H K := by
  simp only [wDraw, wRO, wRI, hx, hy]; exact ⟨h2, h⟩
theorem wD_sub {a b : Int} (hx : evS S x = some (.int .i64 a)) (hy : evS S y = some (.int .i64 b)) (h2 : InR (a - b)) (h : wDraw P kn lo n masks r (.pure :: ks) (putS S d (.int .i64 (a - b))) H K) : wDraw P kn lo n masks (⟨d, none, .ari .sub x y⟩ :: r) ks S H K := by
  simp only [wDraw, wRO, wRI, hx, hy]; exact ⟨h2, h⟩
theorem wD_quo {a b : Int} (hx : evS S x = some (.int .i64 a)) (hy : evS S y = some (.int .i64 b)) (h0 : 0 ≤ a) (h1 : 0 < b) (h2 : InR a) (h : wDraw P kn lo n masks r (.pure :: ks) (putS S d (.int .i64 (a / b))) H K) : wDraw P kn lo n masks (⟨d, none, .ari .quo x y⟩ :: r) ks S H K := by
  simp only [wDraw, wRO, wRI, hx, hy]; exact ⟨h0, h1, h2, h⟩
theorem end_pf {rest : List Kd} {ms : List Nat} {m0 m1 : Nat} (hc : rest.all calm = true) (h0 : m0 = 2 ^ (rest.length + 1) - 1) (h1 : m1 = 2 ^ rest.length - 1) : (bif (Kd.pure :: Kd.full :: rest).all calm then True else pairsP (.pure :: .full :: rest) (m0 :: m1 :: ms)) := by
  have : (Kd.pure :: Kd.full :: rest).all calm = false := rfl
  rw [this]
  exact ⟨below_full _ _ _ (by simpa using h0), below_full _ _ _ (by simpa using h1), pairs_calm _ _ hc⟩
end
section
variable {kn : FuncId → Option Bool} {lo : Nat} {H : Hp}
theorem inner_big {s : Int × Int} {x : Nat} (hs : 0 ≤ s.1 ∧ s.1 ≤ s.2 ∧ s.2 ≤ 1000000000000000) (hx : x ≤ 4294967295) : ∃ H', FnX Try.prog kn lo 34 [sp s.1 s.2, .int .u32 (x : Int)] H (iv (innerV s x)) H' ∧ Keep H H' [] := by
  have key := fnX_low (kn := kn) (lo := lo) (H := H) (args := [sp s.1 s.2, .int .u32 (x : Int)]) (Q := fun v H' => v = iv (innerV s x) ∧ Keep H H' []) Try.func34 B34 N34 Z34 L34 (by simp) ?_
  · obtain ⟨v, H', h, rfl, q⟩ := key; exact ⟨H', h, q⟩
  intro H1 hH1; obtain ⟨k1, n1, c1⟩ := new_facts hH1; clear hH1
  have c1 : Cl H1 H.next [iv s.1, iv s.2] := c1
  have h1 := Int.emod_nonneg (x : Int) (b := s.2 - s.1 + 1) (by omega)
  have h2 := Int.emod_lt_of_pos (x : Int) (b := s.2 - s.1 + 1) (by omega)
  refine Exists.intro _ (Exists.intro _ (And.intro c1.of (And.intro rfl (And.intro c1.lt ?_))))
  refine And.intro rfl (Exists.intro (.int .i64 (IntKind.wrap .i64 (x : Int))) (And.intro (by kernel_rfl) ?_))
  rw [wrap_id ⟨by omega, by omega⟩]
  refine Exists.intro _ (Exists.intro _ (And.intro c1.of (And.intro rfl (And.intro c1.lt ?_))))
  refine Exists.intro _ (Exists.intro _ (And.intro c1.of (And.intro rfl (And.intro c1.lt ?_))))
  refine And.intro ⟨by omega, by omega⟩ ?_
  refine And.intro ⟨by omega, by omega⟩ ?_
  refine And.intro (by omega) (And.intro (by omega) (And.intro ⟨by omega, by omega⟩ (And.intro ⟨by omega, by omega⟩ ?_)))
  refine And.intro ⟨by omega, by omega⟩ ?_
  refine And.intro trivial ?_
  exact And.intro trivial (Exists.intro _ (And.intro rfl ⟨rfl, k1⟩))
theorem seep_w {S : Rg} {H H4 : Hp} {c : RC} {K : Exit → Rg → Hp → Prop} {B yb bl bcap turn i y : Nat} {u : Int} {x : Pd} {bs : List Nat} (h24 : lk S 24 = some (iv u)) (h23 : lk S 23 = some (pt B)) (h3 : lk S 3 = some (.slice (some ⟨yb, 0, none⟩) bl bcap)) (h4 : lk S 4 = some (iv (turn : Int))) (h22 : lk S 22 = some (iv (i : Int)))
    (c3 : Rd H B [iv x.full, iv x.lo, iv x.hi, iv x.spill]) (hyr : Rd H yb (u32s bs)) (hy : bs[(turn + 2 * i + 1) % bl]? = some y) (hmod : (turn + 2 * i + 1) % bl < bl) (hb0 : 0 < bl) (hb2 : bl ≤ 9223372036854775807) (hturn : turn ≤ 100000) (hi : i < 16)
    (p1 : 0 ≤ u * x.lo) (p2 : u * x.lo ≤ u * x.hi) (p3 : u * x.hi ≤ 4398046511104 * 1000000)
    (f4 : FnX Try.prog kn lo 34 [sp (u * x.lo / 1000000) ((u * x.hi + 1000000 - 1) / 1000000), .int .u32 (y : Int)] H (iv (innerV (u * x.lo / 1000000, (u * x.hi + 1000000 - 1) / 1000000) y)) H4)
    (hK : wC Try.prog kn lo 268 false c ((25, iv (innerV (u * x.lo / 1000000, (u * x.hi + 1000000 - 1) / 1000000) y)) :: (213, iv (innerV (u * x.lo / 1000000, (u * x.hi + 1000000 - 1) / 1000000) y)) :: (212, .int .u32 (y : Int)) :: (211, .pointer (some ⟨yb, 0 + (turn + 2 * i + 1) % bl * 1, none⟩)) :: (210, iv (((turn : Int) + 2 * (i : Int) + 1) % (bl : Int))) :: (209, iv (bl : Int)) :: (208, .slice (some ⟨yb, 0, none⟩) bl bcap) :: (207, iv ((turn : Int) + 2 * (i : Int) + 1)) :: (206, iv ((turn : Int) + 2 * (i : Int))) :: (205, iv (2 * (i : Int))) :: (204, iv (i : Int)) :: (203, iv (turn : Int)) :: (202, .slice (some ⟨yb, 0, none⟩) bl bcap) :: (201, .agg #[iv (u * x.lo / 1000000), iv ((u * x.hi + 1000000 - 1) / 1000000)]) :: (200, iv ((u * x.hi + 1000000 - 1) / 1000000)) :: (199, iv (u * x.hi + 1000000 - 1)) :: (198, iv (u * x.hi + 1000000)) :: (197, iv (u * x.hi)) :: (196, iv x.hi) :: (195, .pointer (some ⟨B, 0 + 1 + 1, none⟩)) :: (194, .pointer (some ⟨B, 0 + 1, none⟩)) :: (193, iv u) :: (192, iv (u * x.lo / 1000000)) :: (191, iv (u * x.lo)) :: (190, iv x.lo) :: (189, .pointer (some ⟨B, 0 + 1 + 0, none⟩)) :: (188, .pointer (some ⟨B, 0 + 1, none⟩)) :: (187, iv u) :: S) H4 K) :
    wC Try.prog kn lo 268 false (.seq (.dreg [⟨(some 187), none, (.mov (.tmp 24))⟩, ⟨(some 188), none, (.addo (.tmp 23) 1)⟩, ⟨(some 189), none, (.addo (.tmp 188) 0)⟩, ⟨(some 190), none, (.ld (.tmp 189) 1)⟩, ⟨(some 191), none, (.ari .mul (.tmp 187) (.tmp 190))⟩, ⟨(some 192), none, (.ari .quo (.tmp 191) (.const (.int .i64 1000000)))⟩, ⟨(some 193), none, (.mov (.tmp 24))⟩, ⟨(some 194), none, (.addo (.tmp 23) 1)⟩, ⟨(some 195), none, (.addo (.tmp 194) 1)⟩, ⟨(some 196), none, (.ld (.tmp 195) 1)⟩, ⟨(some 197), none, (.ari .mul (.tmp 193) (.tmp 196))⟩, ⟨(some 198), none, (.ari .add (.tmp 197) (.const (.int .i64 1000000)))⟩, ⟨(some 199), none, (.ari .sub (.tmp 198) (.const (.int .i64 1)))⟩, ⟨(some 200), none, (.ari .quo (.tmp 199) (.const (.int .i64 1000000)))⟩, ⟨(some 201), none, (.pur ⟨(some 201), (.build 35 (List.toArray [(0, (.tmp 192)), (1, (.tmp 200))])), 35, "", (List.toArray []), none⟩)⟩, ⟨(some 202), none, (.mov (.tmp 3))⟩, ⟨(some 203), none, (.mov (.tmp 4))⟩, ⟨(some 204), none, (.mov (.tmp 22))⟩, ⟨(some 205), none, (.ari .mul (.const (.int .i64 2)) (.tmp 204))⟩, ⟨(some 206), none, (.ari .add (.tmp 203) (.tmp 205))⟩, ⟨(some 207), none, (.ari .add (.tmp 206) (.const (.int .i64 1)))⟩, ⟨(some 208), none, (.mov (.tmp 3))⟩, ⟨(some 209), none, (.len (.tmp 208))⟩, ⟨(some 210), none, (.ari .rem (.tmp 207) (.tmp 209))⟩, ⟨(some 211), none, (.idx (.tmp 202) (.tmp 210) 1)⟩, ⟨(some 212), none, (.ld (.tmp 211) 1)⟩, ⟨(some 213), none, (.call ⟨(.value (.func 34)), (List.toArray [(.tmp 201), (.tmp 212)]), (List.toArray [35, 67])⟩ true)⟩, ⟨(some 25), none, (.mov (.tmp 213))⟩] [134217727, 67108863, 33521664, 16744448, 8323072, 2097152, 0, 983040, 458752, 131072, 0, 0, 0, 16383, 8128, 4032, 1984, 960, 384, 128, 0, 0, 31, 15, 6, 2, 0, 0]) c) S H K := by
  refine wD_seq ?_
  refine wD_mov (v := iv u) h24 ?_
  refine wD_addo (b := B) (o := 0) h23 ?_
  refine wD_addo (b := B) rfl ?_
  refine wD_ld (b := B) (v := iv x.lo) rfl c3 rfl ?_
  refine wD_mul (a := u) (b := x.lo) rfl rfl ⟨by omega, by omega⟩ ?_
  refine wD_quo (a := u * x.lo) (b := 1000000) rfl rfl (by omega) (by omega) ⟨by omega, by omega⟩ ?_
  refine wD_mov (v := iv u) h24 ?_
  refine wD_addo (b := B) (o := 0) h23 ?_
  refine wD_addo (b := B) rfl ?_
  refine wD_ld (b := B) (v := iv x.hi) rfl c3 rfl ?_
  refine wD_mul (a := u) (b := x.hi) rfl rfl ⟨by omega, by omega⟩ ?_
  refine wD_add (a := u * x.hi) (b := 1000000) rfl rfl ⟨by omega, by omega⟩ ?_
  refine wD_sub (a := u * x.hi + 1000000) (b := 1) rfl rfl ⟨by omega, by omega⟩ ?_
  refine wD_quo (a := u * x.hi + 1000000 - 1) (b := 1000000) rfl rfl (by omega) (by omega) ⟨by omega, by omega⟩ ?_
  refine wD_pur (v := .agg #[iv (u * x.lo / 1000000), iv ((u * x.hi + 1000000 - 1) / 1000000)]) rfl (pure_span (lo := lo) rfl rfl) ?_
  refine wD_mov (v := .slice (some ⟨yb, 0, none⟩) bl bcap) h3 ?_
  refine wD_mov (v := iv (turn : Int)) h4 ?_
  refine wD_mov (v := iv (i : Int)) h22 ?_
  refine wD_mul (a := 2) (b := (i : Int)) rfl rfl ⟨by omega, by omega⟩ ?_
  refine wD_add (a := (turn : Int)) (b := 2 * (i : Int)) rfl rfl ⟨by omega, by omega⟩ ?_
  refine wD_add (a := (turn : Int) + 2 * (i : Int)) (b := 1) rfl rfl ⟨by omega, by omega⟩ ?_
  refine wD_mov (v := .slice (some ⟨yb, 0, none⟩) bl bcap) h3 ?_
  refine wD_len (m := bl) rfl ?_
  refine wD_rem (a := (turn : Int) + 2 * (i : Int) + 1) (b := bl) rfl rfl (by omega) (by omega) ⟨by omega, by omega⟩ ⟨by omega, by omega⟩ ?_
  refine wD_idx (b := yb) (o := 0) (k := (turn + 2 * i + 1) % bl) (j := ((turn : Int) + 2 * (i : Int) + 1) % (bl : Int)) rfl rfl (by simp) hmod ?_
  refine wD_ld (b := yb) (o := 0 + (turn + 2 * i + 1) % bl * 1) (v := .int .u32 (y : Int)) rfl hyr (by rw [Nat.zero_add, Nat.mul_one]; simp [u32s, hy]) ?_
  refine wD_callf (vs := [sp (u * x.lo / 1000000) ((u * x.hi + 1000000 - 1) / 1000000), .int .u32 (y : Int)]) rfl (callX_args f4) ?_
  refine wD_mov (v := iv (innerV (u * x.lo / 1000000, (u * x.hi + 1000000 - 1) / 1000000) y)) rfl ?_
  refine wD_end (end_pf (by rfl) (by simp only [List.length_cons, List.length_nil, Nat.reduceAdd, Nat.reducePow, Nat.reduceSub]) (by simp only [List.length_cons, List.length_nil, Nat.reduceAdd, Nat.reducePow, Nat.reduceSub])) ?_
  exact hK
variable {c : Ch} {h : Hr} {ba : Option Addr} {bl bcap : Nat} {bs : List Nat} {b5 b6 b7 L turn : Nat} {p : Tx} {M B a : Int} {sl s sg : St} {gs : List Gt}
theorem lv_gates {S : Rg} {K : Exit → Rg → Hp → Prop} (te : TE c h ba bl bcap bs b5 b6 b7 p H) (ta : TAt c.gn c.pn L p H gs s) (hloL : lo ≤ L) (hlo : lo ≤ H.next)
    (h32 : c.gn ≤ 32) (hv : gs.all (fun g => gateB g c.pn) = true) (tr : Tru c.pn M B a sl s sg) (hM : M ≤ 4398046511104) (hB : B ≤ 4611686018427387904)
    (hS : Subs [(89, .slice p.ga c.gn p.gcap), (90, iv (c.gn : Int)), (91, iv ((0 : Nat) : Int)), (5, pt b5), (6, pt b6), (7, pt b7), (3, .slice ba bl bcap), (4, iv (turn : Int)), (15, clo69 b5)] S)
    (hK : ∀ s' H1, TAt c.gn c.pn L p H1 gs s' → Tru c.pn M B a (gs.foldl flowS sl) s' (gs.foldl flowS sg) → Keep H H1 p.W →
      K (.exit 4) [(92, .bool (decide ((c.gn : Int) < c.gn))), (89, .slice p.ga c.gn p.gcap), (90, iv (c.gn : Int)), (91, iv (c.gn : Int)), (5, pt b5), (6, pt b6), (7, pt b7), (3, .slice ba bl bcap), (4, iv (turn : Int)), (15, clo69 b5)] H1) :
    Tri Try.prog kn lo 268 false (at_ Try.f35 [1, 1, 1, 1, 0, 1, 0]) S H K := by
  have hlg := ta.lg
  refine loop_low (fn := Try.f35) E35_3 N35 L35x3 (fun i : Nat => [(89, .slice p.ga c.gn p.gcap), (90, iv (c.gn : Int)), (91, iv (i : Int)), (5, pt b5), (6, pt b6), (7, pt b7), (3, .slice ba bl bcap), (4, iv (turn : Int)), (15, clo69 b5)])
    (fun k i H1 => i + k = c.gn ∧ ∃ s', TAt c.gn c.pn L p H1 gs s' ∧ Tru c.pn M B a ((gs.take i).foldl flowS sl) s' ((gs.take i).foldl flowS sg) ∧ Keep H H1 p.W) c.gn 0 ⟨by omega, s, ta, by simpa using tr, Keep.refl _ _⟩ hS ?_
  rintro k i H1 ⟨hik, s1, ta1, tr1, hk⟩
  refine And.intro (fun hlt => ?_) (fun hge => ?_)
  · have hi : i < c.gn := by simpa using hlt
    have te1 := te.keep hk (fun _ h => h)
    have hG := ta1.hG
    rcases hG with ⟨_, h0, _⟩ | ⟨gb, ega, hgl, hr⟩
    · omega
    obtain ⟨x, hx⟩ := get_some (l := gs) (i := i) (by omega)
    have hv1 := List.all_eq_true.1 hv x (List.mem_of_getElem? hx)
    obtain ⟨q1, q2⟩ := tru_flow tr1 hv1 hM hB
    simp [gateB, indexB, waterB, boardsB] at hv1
    obtain ⟨⟨⟨⟨⟨⟨f1, f2⟩, ht⟩, a1, a2⟩, d1, d2⟩, m1, m2⟩, o1, o2⟩ := hv1
    have hbs : 0 ≤ x.boards * x.step := Int.mul_nonneg o1 d1
    have hbs2 : x.boards * x.step ≤ 16 * 68719476736 := Int.mul_le_mul o2 d2 d1 (by omega)
    have hg := tr1.d.get x.fr.toNat
    rw [ega]
    have hkn := hk.1
    refine Exists.intro i (And.intro rfl (And.intro hi ?_))
    refine Exists.intro _ (Exists.intro _ (And.intro hr.rd.of (And.intro (row_flat (f := Gt.v) (fun _ _ => rfl) hx) ?_)))
    intro H2 hH2; obtain ⟨k2, n2, c2⟩ := new_facts hH2; clear hH2
    obtain ⟨_, e2, l2, g2⟩ := id c2
    refine Exists.intro _ (Exists.intro _ (Exists.intro _ (And.intro g2 (And.intro (by omega) (And.intro rfl (And.intro rfl (And.intro (by simp) ?_)))))))
    intro H3 hH3; obtain ⟨k3, n3, c3⟩ := up_facts c2 hH3; clear hH3
    have c3 : Cl H3 H1.next [iv x.fr, iv x.to, iv x.sill, iv x.step, iv x.boards, iv x.most] := c3
    have k13 : Keep H1 H3 [] := k2.new k3 (by simp)
    have ta3 := ta1.keep0 k13
    have te3 := te1.keep k13 (by simp)
    have hn3 := k13.1
    have e5 := te3.e5
    have cT := ta3.hT
    have cP := ta3.hP
    have hlw := ta3.lws
    have hx2 : x.fr.toNat < c.pn := by omega
    refine Exists.intro _ (Exists.intro _ (And.intro e5.of (And.intro rfl (And.intro e5.lt ?_))))
    refine Exists.intro _ (Exists.intro _ (And.intro cT.of (And.intro (show (p.cells c.gn c.pn s1)[1]? = some (.slice (some ⟨p.pb, 0, none⟩) c.pn p.pcap) from rfl) (And.intro cT.lt ?_))))
    refine Exists.intro _ (Exists.intro _ (And.intro c3.of (And.intro rfl (And.intro c3.lt ?_))))
    refine Exists.intro x.fr.toNat (And.intro (by omega) (And.intro hx2 ?_))
    refine Exists.intro _ (Exists.intro _ (And.intro cP.of (And.intro (by rw [Nat.zero_add, Nat.mul_one]; exact ints_get (by omega)) (And.intro cP.lt ?_))))
    refine Exists.intro _ (Exists.intro _ (And.intro c3.of (And.intro rfl (And.intro c3.lt ?_))))
    refine And.intro ⟨by omega, by omega⟩ ?_
    refine Exists.intro _ (Exists.intro _ (And.intro c3.of (And.intro rfl (And.intro c3.lt ?_))))
    refine Exists.intro _ (Exists.intro _ (And.intro c3.of (And.intro rfl (And.intro c3.lt ?_))))
    refine And.intro q1.1 ?_
    refine And.intro ⟨by omega, by omega⟩ ?_
    refine And.intro (by repeat' first | exact True.intro | exact (fun h => h) | refine And.intro ?_ ?_) ?_
    refine Exists.intro _ (Exists.intro _ (And.intro c3.of (And.intro rfl ?_)))
    have hl : min (max (s1.ws.getD x.fr.toNat 0 - x.sill - x.boards * x.step) 0) x.most = flowL s1.ws x := by unfold flowL; omega
    refine Exists.intro _ (Exists.intro _ (And.intro e5.of (And.intro rfl (And.intro e5.lt ?_))))
    refine Exists.intro _ (Exists.intro _ (And.intro cT.of (And.intro (show (p.cells c.gn c.pn s1)[1]? = some (.slice (some ⟨p.pb, 0, none⟩) c.pn p.pcap) from rfl) (And.intro cT.lt ?_))))
    refine Exists.intro _ (Exists.intro _ (And.intro c3.of (And.intro rfl (And.intro c3.lt ?_))))
    refine Exists.intro x.fr.toNat (And.intro (by omega) (And.intro hx2 ?_))
    refine Exists.intro _ (Exists.intro _ (And.intro cP.of (And.intro (by rw [Nat.zero_add, Nat.mul_one]; exact ints_get (by omega)) (And.intro cP.lt ?_))))
    refine And.intro (show InR (s1.ws.getD x.fr.toNat 0 - min (max (s1.ws.getD x.fr.toNat 0 - x.sill - x.boards * x.step) 0) x.most) by rw [hl]; exact q1.2.2.2.1) ?_
    refine Exists.intro x.fr.toNat (And.intro (by omega) (And.intro hx2 ?_))
    have hlP := ta.lP; have hlT := ta.lT
    obtain ⟨_, e5', l5, g5⟩ := id cP
    refine Exists.intro _ (Exists.intro _ (Exists.intro _ (And.intro g5 (And.intro (by omega) (And.intro rfl (And.intro rfl (And.intro (by rw [ints_len]; omega) ?_)))))))
    intro H5 hH5
    rw [Nat.zero_add, Nat.mul_one] at hH5
    have hH5 : H3.up p.pb (.cells ((ints s1.ws).set x.fr.toNat (iv (s1.ws.getD x.fr.toNat 0 - min (max (s1.ws.getD x.fr.toNat 0 - x.sill - x.boards * x.step) 0) x.most))) e5' l5) = H5 := hH5
    rw [hl, ints_set] at hH5
    obtain ⟨k5, n5, c5⟩ := up_facts cP hH5; clear hH5
    refine And.intro (by repeat' first | exact True.intro | exact (fun h => h) | refine And.intro ?_ ?_) ?_
    have ta5 := ta3.stP k5 c5 (by simp)
    have te5 := te3.keep k5 (by simp [Tx.W])
    have hne : p.pb ≠ H1.next := by have := ta1.hP.lt; omega
    have c35 := k5.cl c3 (by simp; omega)
    refine Exists.intro _ (Exists.intro _ (And.intro c35.of (And.intro rfl ?_)))
    obtain ⟨H6, f6, ta6, k6⟩ := give_ok (kn := kn) (lo := lo) (to := x.to) (l := min (max (s1.ws.getD x.fr.toNat 0 - x.sill - x.boards * x.step) 0) x.most) ta5 te5.e5 hloL (by omega) (by rw [hl]; exact q1.2.2.2.2.1) (by rw [hl]; exact q1.2.2.2.2.2)
    refine Exists.intro _ (Exists.intro _ (And.intro (callX_func (args := [iv x.to, iv (min (max (s1.ws.getD x.fr.toNat 0 - x.sill - x.boards * x.step) 0) x.most)]) rfl (by simpa using f6)) ?_))
    rw [hl] at ta6
    have ta6 : TAt c.gn c.pn L p H6 gs (flowS s1 x) := ta6
    refine And.intro ⟨by omega, by omega⟩ ?_
    refine ⟨k - 1, i + 1, by omega, ⟨by omega, flowS s1 x, ta6, ?_, ?_⟩, rfl, rfl, rfl, rfl, rfl, rfl, rfl, rfl, rfl, trivial⟩
    · rw [take_step hx, take_step hx]
      exact q2
    · exact ((hk.trans (k13.mono (by simp))).trans (k5.mono (by simp [Tx.W]))).trans k6
  · have hi : ¬ i < c.gn := by simpa using hge
    have hin : i = c.gn := by omega
    subst hin
    rw [List.take_of_length_le (by omega)] at tr1
    exact hK s1 H1 ta1 tr1 hk
theorem lv_spills {S : Rg} {K : Exit → Rg → Hp → Prop} (te : TE c h ba bl bcap bs b5 b6 b7 p H) (ta : TAt c.gn c.pn L p H gs s) (hloL : lo ≤ L) (hlo : lo ≤ H.next) (v : c.Vd)
    (tr : Tru c.pn M B a sl s sg) (hM : M ≤ 4398046511104) (hB : B ≤ 4611686018427387904)
    (hS : Subs [(234, .slice c.pa c.pn c.pcap), (235, iv (c.pn : Int)), (236, iv ((0 : Nat) : Int)), (5, pt b5), (15, clo69 b5)] S)
    (hK : ∀ s' H1, TAt c.gn c.pn L p H1 gs s' → Tru c.pn M B a (c.ponds.zipIdx.foldl spillS sl) s' (c.ponds.zipIdx.foldl spillS sg) → Keep H H1 p.W →
      K (.exit 10) [(237, .bool (decide ((c.pn : Int) < c.pn))), (234, .slice c.pa c.pn c.pcap), (235, iv (c.pn : Int)), (236, iv (c.pn : Int)), (5, pt b5), (15, clo69 b5)] H1) :
    Tri Try.prog kn lo 268 false (at_ Try.f35 [1, 1, 1, 1, 1, 1, 1, 1, 0]) S H K := by
  have hlp := v.lp
  have h16 := v.h16
  have hvp := List.all_eq_true.1 v.p
  refine loop_low (fn := Try.f35) E35_6 N35 L35x6 (fun i : Nat => [(234, .slice c.pa c.pn c.pcap), (235, iv (c.pn : Int)), (236, iv (i : Int)), (5, pt b5), (15, clo69 b5)])
    (fun k i H1 => i + k = c.pn ∧ ∃ s', TAt c.gn c.pn L p H1 gs s' ∧ Tru c.pn M B a ((c.ponds.zipIdx.take i).foldl spillS sl) s' ((c.ponds.zipIdx.take i).foldl spillS sg) ∧ Keep H H1 p.W) c.pn 0 ⟨by omega, s, ta, by simpa using tr, Keep.refl _ _⟩ hS ?_
  rintro k i H1 ⟨hik, s1, ta1, tr1, hk⟩
  refine And.intro (fun hlt => ?_) (fun hge => ?_)
  · have hi : i < c.pn := by simpa using hlt
    have te1 := te.keep hk (fun _ h => h)
    have hpa := te1.hp
    rcases hpa with ⟨_, h0, _⟩ | ⟨cb, eca, hr, _⟩
    · omega
    obtain ⟨x, hx⟩ := get_some (l := c.ponds) (i := i) (by omega)
    have hz := zip_getP hx
    have hpd := hvp (x, i) (List.mem_of_getElem? hz)
    simp [pondB, withinB] at hpd
    obtain ⟨q1, q2⟩ := tru_spill tr1 (p := x) (i := i) hi (by omega) (by omega) (by omega) hM hB
    have hg := tr1.d.get i
    rw [eca]
    have hkn := hk.1
    refine Exists.intro i (And.intro rfl (And.intro hi ?_))
    refine Exists.intro _ (Exists.intro _ (And.intro hr.of (And.intro (row_flat (f := Pd.v) (fun _ _ => rfl) hx) ?_)))
    intro H2 hH2; obtain ⟨k2, n2, c2⟩ := new_facts hH2; clear hH2
    obtain ⟨_, e2, l2, g2⟩ := id c2
    refine Exists.intro _ (Exists.intro _ (Exists.intro _ (And.intro g2 (And.intro (by omega) (And.intro rfl (And.intro rfl (And.intro (by simp) ?_)))))))
    intro H3 hH3; obtain ⟨k3, n3, c3⟩ := up_facts c2 hH3; clear hH3
    have c3 : Cl H3 H1.next [iv x.full, iv x.lo, iv x.hi, iv x.spill] := c3
    have k13 : Keep H1 H3 [] := k2.new k3 (by simp)
    have ta3 := ta1.keep0 k13
    have te3 := te1.keep k13 (by simp)
    have hn3 := k13.1
    have e5 := te3.e5
    have cT := ta3.hT
    have cP := ta3.hP
    have hlw := ta3.lws
    refine Exists.intro _ (Exists.intro _ (And.intro e5.of (And.intro rfl (And.intro e5.lt ?_))))
    refine Exists.intro _ (Exists.intro _ (And.intro cT.of (And.intro (show (p.cells c.gn c.pn s1)[1]? = some (.slice (some ⟨p.pb, 0, none⟩) c.pn p.pcap) from rfl) (And.intro cT.lt ?_))))
    refine Exists.intro i (And.intro rfl (And.intro hi ?_))
    refine Exists.intro _ (Exists.intro _ (And.intro cP.of (And.intro (by rw [Nat.zero_add, Nat.mul_one]; exact ints_get (by omega)) (And.intro cP.lt ?_))))
    refine Exists.intro _ (Exists.intro _ (And.intro c3.of (And.intro rfl (And.intro c3.lt ?_))))
    refine And.intro q1.1 ?_
    refine And.intro (by repeat' first | exact True.intro | exact (fun h => h) | refine And.intro ?_ ?_) ?_
    have hl : max 0 (s1.ws.getD i 0 - x.full) = spillL s1 (x, i) := rfl
    refine Exists.intro _ (Exists.intro _ (And.intro e5.of (And.intro rfl ?_)))
    refine Exists.intro _ (Exists.intro _ (And.intro cT.of (And.intro (show (p.cells c.gn c.pn s1)[1]? = some (.slice (some ⟨p.pb, 0, none⟩) c.pn p.pcap) from rfl) ?_)))
    refine Exists.intro i (And.intro rfl (And.intro hi ?_))
    refine Exists.intro _ (Exists.intro _ (And.intro cP.of (And.intro (by rw [Nat.zero_add, Nat.mul_one]; exact ints_get (by omega)) ?_)))
    refine And.intro q1.2.1 ?_
    refine Exists.intro i (And.intro rfl (And.intro hi ?_))
    have hlP := ta.lP; have hlT := ta.lT
    obtain ⟨_, e5', l5, g5⟩ := id cP
    refine Exists.intro _ (Exists.intro _ (Exists.intro _ (And.intro g5 (And.intro (by omega) (And.intro rfl (And.intro rfl (And.intro (by rw [ints_len]; omega) ?_)))))))
    intro H5 hH5
    rw [Nat.zero_add, Nat.mul_one] at hH5
    have hH5 : H3.up p.pb (.cells ((ints s1.ws).set i (iv (s1.ws.getD i 0 - spillL s1 (x, i)))) e5' l5) = H5 := hH5
    rw [ints_set] at hH5
    obtain ⟨k5, n5, c5⟩ := up_facts cP hH5; clear hH5
    have ta5 := ta3.stP k5 c5 (by simp)
    have te5 := te3.keep k5 (by simp [Tx.W])
    have hne : p.pb ≠ H1.next := by have := ta1.hP.lt; omega
    have c35 := k5.cl c3 (by simp; omega)
    refine Exists.intro _ (Exists.intro _ (And.intro c35.of (And.intro rfl ?_)))
    obtain ⟨H6, f6, ta6, k6⟩ := give_ok (kn := kn) (lo := lo) (to := x.spill) (l := spillL s1 (x, i)) ta5 te5.e5 hloL (by omega) q1.2.2.1 q1.2.2.2
    refine Exists.intro _ (Exists.intro _ (And.intro (callX_func (args := [iv x.spill, iv (spillL s1 (x, i))]) rfl (by simpa using f6)) ?_))
    have ta6 : TAt c.gn c.pn L p H6 gs (spillS s1 (x, i)) := ta6
    refine And.intro ⟨by omega, by omega⟩ ?_
    refine ⟨k - 1, i + 1, by omega, ⟨by omega, spillS s1 (x, i), ta6, ?_, ?_⟩, rfl, rfl, rfl, rfl, rfl, trivial⟩
    · rw [take_step hz, take_step hz]
      exact q2
    · exact ((hk.trans (k13.mono (by simp))).trans (k5.mono (by simp [Tx.W]))).trans k6
  · have hi : ¬ i < c.pn := by simpa using hge
    have hin : i = c.pn := by omega
    subst hin
    rw [List.take_of_length_le (by simp; omega)] at tr1
    exact hK s1 H1 ta1 tr1 hk
end
end Go.Ax
namespace Go.Ax
open Go Go.RowKit Go.Proofs

/-! Pieces of a body that are walked by themselves. -/
section
variable {P : Program} {kn : FuncId → Option Bool} {lo n : Nat} {rd : Bool}
inductive LT (P : Program) (n : Nat) : Code → RC → Prop
  | low {c : Code} {r : RC} : Go.Ax.low P n c = some r → LT P n c r
  | other (c : Code) : LT P n c (.other c)
  | seq {x y : Code} {a b : RC} : LT P n x a → LT P n y b → LT P n (.seq x y) (.seq a b)
  | block (id : Nat) {x : Code} {a : RC} : LT P n x a → LT P n (.block id x) (.block id a)
theorem Tri.block {id : Nat} {b : Code} {S : Rg} {H : Hp} {K : Exit → Rg → Hp → Prop} (h : Tri P kn lo n rd b S H fun e S' H' => match e with | .exit j => (bif Nat.beq j id then K .normal S' H' else K (.exit j) S' H') | e => K e S' H') : Tri P kn lo n rd (.block id b) S H K := by
  intro A h1 h2 h3
  obtain ⟨e, S', H', T', p, q, N, r⟩ := h A h1 h2 h3
  have unf : ∀ f m k, runCode P lo (callF P kn m k) (f + 1) (.block id b) A H none = match runCode P lo (callF P kn m k) f b A H none with
    | some (.exit j, A', H', p') => bif Nat.beq j id then some (.normal, A', H', p') else some (.exit j, A', H', p')
    | r => r := fun f m k => by rw [runCode]; rfl
  cases e with
  | exit j =>
    simp only at p
    cases hj : Nat.beq j id with
    | true =>
      rw [hj] at p
      refine ⟨.normal, S', H', T', p, q, N + 1, fun f m k hf hm hk => ?_⟩
      obtain ⟨f, rfl⟩ : ∃ g, f = g + 1 := ⟨f - 1, by omega⟩
      rw [unf, r f m k (by omega) (by omega) (by omega)]
      simp only [hj, cond_true]
    | false =>
      rw [hj] at p
      refine ⟨.exit j, S', H', T', p, q, N + 1, fun f m k hf hm hk => ?_⟩
      obtain ⟨f, rfl⟩ : ∃ g, f = g + 1 := ⟨f - 1, by omega⟩
      rw [unf, r f m k (by omega) (by omega) (by omega)]
      simp only [hj, cond_false]
  | _ =>
    refine ⟨_, S', H', T', p, q, N + 1, fun f m k hf hm hk => ?_⟩
    obtain ⟨f, rfl⟩ : ∃ g, f = g + 1 := ⟨f - 1, by omega⟩
    rw [unf, r f m k (by omega) (by omega) (by omega)]
theorem wC_lt {c : Code} {r : RC} (hl : LT P n c r) : ∀ {S : Rg} {H : Hp} {K : Exit → Rg → Hp → Prop}, wC P kn lo n rd r S H K → Tri P kn lo n rd c S H K := by
  induction hl with
  | low h => exact fun w => wC_sound rd _ h w
  | other c => exact fun w => w
  | seq _ _ ih1 ih2 => exact fun w => Tri.seq ((ih1 w).mono fun e S' H' q => by
      cases e with
      | normal => exact ih2 q
      | _ => exact q)
  | block id _ ih => exact fun w => Tri.block (ih w)
/-- A loop whose body has pieces that are walked by themselves. -/
theorem loop_lt {α : Type} {c b : Code} {R : RC} {S : Rg} {H : Hp} {K : Exit → Rg → Hp → Prop} (hc : c = .loop b) (hL : LT P n b R) (SS : α → Rg) (I : Nat → α → Hp → Prop)
    (k : Nat) (a : α) (hI : I k a H) (hS : Subs (SS a) S)
    (hb : ∀ k a H, I k a H → wC P kn lo n rd R (SS a) H fun e S' H' => match e with | .normal => ∃ k' a', k' < k ∧ I k' a' H' ∧ Subs (SS a') S' | e => K e S' H') :
    Tri P kn lo n rd c S H K := by
  subst hc
  refine Tri.loop (fun k S H => ∃ a, I k a H ∧ Subs (SS a) S) (fun k S H q => ?_) k S H ⟨a, hI, hS⟩
  obtain ⟨a, q, hs⟩ := q
  refine Tri.forget ((wC_lt hL (hb k a H q)).mono fun e S' H' r => ?_) hs.get
  cases e with
  | normal => obtain ⟨k', a', x, y, z⟩ := r; exact ⟨k', x, a', y, z⟩
  | _ => exact r
/-- A piece, from some of what is known. -/
theorem tri_piece {c : Code} {R : RC} {S S0 : Rg} {H : Hp} {K : Exit → Rg → Hp → Prop} (hL : low P n c = some R) (hS : Subs S0 S) (h : wC P kn lo n rd R S0 H K) : Tri P kn lo n rd c S H K := Tri.forget (wC_sound rd _ hL h) hS.get
end
noncomputable def R35t : RC := (.seq (.dreg [⟨(some 187), none, (.mov (.tmp 24))⟩, ⟨(some 188), none, (.addo (.tmp 23) 1)⟩, ⟨(some 189), none, (.addo (.tmp 188) 0)⟩, ⟨(some 190), none, (.ld (.tmp 189) 1)⟩, ⟨(some 191), none, (.ari .mul (.tmp 187) (.tmp 190))⟩, ⟨(some 192), none, (.ari .quo (.tmp 191) (.const (.int .i64 1000000)))⟩, ⟨(some 193), none, (.mov (.tmp 24))⟩, ⟨(some 194), none, (.addo (.tmp 23) 1)⟩, ⟨(some 195), none, (.addo (.tmp 194) 1)⟩, ⟨(some 196), none, (.ld (.tmp 195) 1)⟩, ⟨(some 197), none, (.ari .mul (.tmp 193) (.tmp 196))⟩, ⟨(some 198), none, (.ari .add (.tmp 197) (.const (.int .i64 1000000)))⟩, ⟨(some 199), none, (.ari .sub (.tmp 198) (.const (.int .i64 1)))⟩, ⟨(some 200), none, (.ari .quo (.tmp 199) (.const (.int .i64 1000000)))⟩, ⟨(some 201), none, (.pur ⟨(some 201), (.build 35 (List.toArray [(0, (.tmp 192)), (1, (.tmp 200))])), 35, "", (List.toArray []), none⟩)⟩, ⟨(some 202), none, (.mov (.tmp 3))⟩, ⟨(some 203), none, (.mov (.tmp 4))⟩, ⟨(some 204), none, (.mov (.tmp 22))⟩, ⟨(some 205), none, (.ari .mul (.const (.int .i64 2)) (.tmp 204))⟩, ⟨(some 206), none, (.ari .add (.tmp 203) (.tmp 205))⟩, ⟨(some 207), none, (.ari .add (.tmp 206) (.const (.int .i64 1)))⟩, ⟨(some 208), none, (.mov (.tmp 3))⟩, ⟨(some 209), none, (.len (.tmp 208))⟩, ⟨(some 210), none, (.ari .rem (.tmp 207) (.tmp 209))⟩, ⟨(some 211), none, (.idx (.tmp 202) (.tmp 210) 1)⟩, ⟨(some 212), none, (.ld (.tmp 211) 1)⟩, ⟨(some 213), none, (.call ⟨(.value (.func 34)), (List.toArray [(.tmp 201), (.tmp 212)]), (List.toArray [35, 67])⟩ true)⟩, ⟨(some 25), none, (.mov (.tmp 213))⟩] [134217727, 67108863, 33521664, 16744448, 8323072, 2097152, 0, 983040, 458752, 131072, 0, 0, 0, 16383, 8128, 4032, 1984, 960, 384, 128, 0, 0, 31, 15, 6, 2, 0, 0])
  (.seq (.reg [⟨(some 214), none, (.ld (.tmp 5) 1)⟩, ⟨(some 215), none, (.nilc (.tmp 214))⟩, ⟨(some 216), none, (.addo (.tmp 215) 1)⟩, ⟨(some 217), none, (.ld (.tmp 216) 1)⟩, ⟨(some 218), none, (.mov (.tmp 22))⟩, ⟨(some 219), none, (.idx (.tmp 217) (.tmp 218) 1)⟩, ⟨(some 220), none, (.ld (.tmp 219) 1)⟩, ⟨(some 221), none, (.mov (.tmp 25))⟩, ⟨(some 222), none, (.ari .sub (.tmp 220) (.tmp 221))⟩, ⟨(some 223), none, (.idx (.tmp 217) (.tmp 218) 1)⟩, ⟨none, none, (.st (.tmp 223) (.tmp 222))⟩])
  (.reg [⟨(some 224), none, (.ld (.tmp 5) 1)⟩, ⟨(some 225), none, (.nilc (.tmp 224))⟩, ⟨(some 226), none, (.addo (.tmp 225) 3)⟩, ⟨(some 227), none, (.ld (.tmp 226) 1)⟩, ⟨(some 228), none, (.mov (.tmp 25))⟩, ⟨(some 229), none, (.ari .add (.tmp 227) (.tmp 228))⟩, ⟨(some 230), none, (.nilc (.tmp 224))⟩, ⟨(some 231), none, (.addo (.tmp 230) 3)⟩, ⟨none, none, (.st (.tmp 231) (.tmp 229))⟩])))
theorem L35t : low Try.prog 268 (at_ Try.f35 [1, 1, 1, 1, 1, 1, 0, 1, 0, 0, 1, 1, 0, 0, 1, 1]) = some R35t := by kernel_rfl
noncomputable def R35e : RC := (.reg [⟨(some 232), none, (.ari .add (.tmp 175) (.const (.int .i64 1)))⟩, ⟨(some 175), none, (.mov (.tmp 232))⟩])
theorem L35e : low Try.prog 268 (at_ Try.f35 [1, 1, 1, 1, 1, 1, 0, 1, 0, 0, 1, 1, 1]) = some R35e := by kernel_rfl
noncomputable def R35v : RC := (.seq (.reg [⟨(some 176), none, (.cmp .lss (.tmp 175) (.tmp 174))⟩])
  (.seq (.cond (.tmp 176) .skip
  (.exit 8))
  (.seq (.block 9 (.seq (.reg [⟨(some 177), none, (.mov (.tmp 175))⟩, ⟨(some 178), none, (.idx (.tmp 173) (.tmp 175) 4)⟩, ⟨(some 179), none, (.lda (.tmp 178) 4)⟩, ⟨(some 23), none, (.alc 71 [(.int .i64 0), (.int .i64 0), (.int .i64 0), (.int .i64 0)])⟩, ⟨(some 22), none, (.mov (.tmp 177))⟩, ⟨none, none, (.sta (.tmp 23) (.tmp 179) 4)⟩])
  (.seq (.reg [⟨(some 180), none, (.ld (.tmp 5) 1)⟩, ⟨(some 181), none, (.nilc (.tmp 180))⟩, ⟨(some 182), none, (.addo (.tmp 181) 1)⟩, ⟨(some 183), none, (.ld (.tmp 182) 1)⟩, ⟨(some 184), none, (.mov (.tmp 22))⟩, ⟨(some 185), none, (.idx (.tmp 183) (.tmp 184) 1)⟩, ⟨(some 186), none, (.ld (.tmp 185) 1)⟩, ⟨(some 24), none, (.mov (.tmp 186))⟩])
  (.other (at_ Try.f35 [1, 1, 1, 1, 1, 1, 0, 1, 0, 0, 1, 1, 0, 0, 1, 1])))))
  (.other (at_ Try.f35 [1, 1, 1, 1, 1, 1, 0, 1, 0, 0, 1, 1, 1])))))
theorem L35v : LT Try.prog 268 (at_ Try.f35 [1, 1, 1, 1, 1, 1, 0, 1, 0, 0]) R35v := by
  have e : at_ Try.f35 [1, 1, 1, 1, 1, 1, 0, 1, 0, 0] = .seq (at_ Try.f35 [1, 1, 1, 1, 1, 1, 0, 1, 0, 0, 0]) (.seq (at_ Try.f35 [1, 1, 1, 1, 1, 1, 0, 1, 0, 0, 1, 0]) (.seq (.block 9 (.seq (at_ Try.f35 [1, 1, 1, 1, 1, 1, 0, 1, 0, 0, 1, 1, 0, 0, 0]) (.seq (at_ Try.f35 [1, 1, 1, 1, 1, 1, 0, 1, 0, 0, 1, 1, 0, 0, 1, 0]) (at_ Try.f35 [1, 1, 1, 1, 1, 1, 0, 1, 0, 0, 1, 1, 0, 0, 1, 1])))) (at_ Try.f35 [1, 1, 1, 1, 1, 1, 0, 1, 0, 0, 1, 1, 1]))) := by kernel_rfl
  rw [e]
  exact .seq (.low (by kernel_rfl)) (.seq (.low (by kernel_rfl)) (.seq (.block 9 (.seq (.low (by kernel_rfl)) (.seq (.low (by kernel_rfl)) (.other _)))) (.other _)))
section
variable {kn : FuncId → Option Bool} {lo : Nat} {H : Hp}
variable {c : Ch} {h : Hr} {ba : Option Addr} {bl bcap : Nat} {bs : List Nat} {b5 b6 b7 L turn : Nat} {p : Tx} {M B a : Int} {sl s sg : St} {gs : List Gt}
theorem seep_tail {S : Rg} {K : Exit → Rg → Hp → Prop} {x : Pd} {i B' : Nat} {u : Int} {pv : Value} (te3 : TE c h ba bl bcap bs b5 b6 b7 p H) (by_ : By bl bs) (ta3 : TAt c.gn c.pn L p H gs s) (hloL : lo ≤ L) (hlo : lo ≤ H.next) (v : c.Vd) (hturn : turn ≤ 100000)
    (tr1 : Tru c.pn M B a sl s sg) (hM : M ≤ 4398046511104) (hB : B ≤ 1500000000000000000) (c3 : Cl H B' [iv x.full, iv x.lo, iv x.hi, iv x.spill]) (hi : i < c.pn) (hlo' : 0 ≤ x.lo ∧ x.lo ≤ x.hi ∧ x.hi ≤ 1000000) (hu : s.ws.getD i 0 = u)
    (hS : Subs [(24, iv u), (23, pt B'), (22, iv (i : Int)), (173, pv), (174, iv (c.pn : Int)), (175, iv (i : Int)), (5, pt b5), (6, pt b6), (3, .slice ba bl bcap), (4, iv (turn : Int)), (15, clo69 b5)] S)
    (hK : ∀ e S' H', Subs [(173, pv), (174, iv (c.pn : Int)), (175, iv (i : Int)), (5, pt b5), (6, pt b6), (3, .slice ba bl bcap), (4, iv (turn : Int)), (15, clo69 b5)] S' → TAt c.gn c.pn L p H' gs (seepT s i e) → Tru c.pn M (B + 4398046511104) a (seepS false sl (x, i)) (seepT s i e) (seepS true sg (x, i)) → Keep H H' p.W → K .normal S' H') :
    Tri Try.prog kn lo 268 false (at_ Try.f35 [1, 1, 1, 1, 1, 1, 0, 1, 0, 0, 1, 1, 0, 0, 1, 1]) S H K := by
  have h16 := v.h16
  have hbl := by_.hbl; have hb0 := by_.h0; have hb2 := by_.h2
  have hg := tr1.d.get i
  have hlw := ta3.lws
  have hy := te3.hy
  rcases hy with ⟨_, w, _⟩ | ⟨yb, rfl, hyr, _⟩
  · omega
  have hmod : (turn + 2 * i + 1) % bl < bl := Nat.mod_lt _ hb0
  obtain ⟨y, hy⟩ := get_some (l := bs) (i := (turn + 2 * i + 1) % bl) (by omega)
  have hy2 := by_.hr y (List.mem_of_getElem? hy)
  have seep := fun e => tru_seep (e := e) tr1 (p := x) (i := i) hi hlo'.1 hlo'.2.1 hlo'.2.2
  rw [hu] at hg
  simp only [hu] at seep
  have p1 : 0 ≤ u * x.lo := Int.mul_nonneg hg.1 hlo'.1
  have p2 : u * x.lo ≤ u * x.hi := Int.mul_le_mul_of_nonneg_left hlo'.2.1 hg.1
  have p3 : u * x.hi ≤ 4398046511104 * 1000000 := Int.mul_le_mul (by omega) hlo'.2.2 (by omega) (by omega)
  obtain ⟨H4, f4, k4⟩ := inner_big (kn := kn) (lo := lo) (H := H) (s := (u * x.lo / 1000000, (u * x.hi + 1000000 - 1) / 1000000)) ⟨by simp only; omega, by simp only; omega, by simp only; omega⟩ hy2
  obtain ⟨i1, i2⟩ := innerV_in (s := (u * x.lo / 1000000, (u * x.hi + 1000000 - 1) / 1000000)) (x := y) (by simp only; omega)
  obtain ⟨⟨_, _, s1', s2', s3'⟩, q2⟩ := seep _ i1 i2 (by omega) (by omega)
  refine tri_piece L35t hS ?_
  refine seep_w (i := i) (by rfl) (by rfl) (by rfl) (by rfl) (by rfl) c3.rd hyr hy hmod hb0 hb2 hturn (by omega) p1 p2 p3 f4 ?_
  generalize innerV (u * x.lo / 1000000, (u * x.hi + 1000000 - 1) / 1000000) y = e at *
  have ta4 := ta3.keep0 k4
  have te4 := te3.keep k4 (by simp)
  have hn4 := k4.1
  have e5 := te4.e5
  have cT := ta4.hT
  have cP := ta4.hP
  refine Exists.intro _ (Exists.intro _ (And.intro e5.of (And.intro rfl ?_)))
  refine Exists.intro _ (Exists.intro _ (And.intro cT.of (And.intro (show (p.cells c.gn c.pn s)[1]? = some (.slice (some ⟨p.pb, 0, none⟩) c.pn p.pcap) from rfl) ?_)))
  refine Exists.intro i (And.intro rfl (And.intro hi ?_))
  refine Exists.intro _ (Exists.intro _ (And.intro cP.of (And.intro (show _ = some (iv u) by rw [Nat.zero_add, Nat.mul_one, ints_get (by omega), hu]) ?_)))
  refine And.intro ⟨by omega, by omega⟩ ?_
  refine Exists.intro i (And.intro rfl (And.intro hi ?_))
  have hlP := ta3.lP; have hlT := ta3.lT
  obtain ⟨_, e5', l5, g5⟩ := id cP
  refine Exists.intro _ (Exists.intro _ (Exists.intro _ (And.intro g5 (And.intro (by omega) (And.intro rfl (And.intro rfl (And.intro (by rw [ints_len]; omega) ?_)))))))
  intro H5 hH5
  rw [Nat.zero_add, Nat.mul_one, ints_set] at hH5
  obtain ⟨k5, n5, c5⟩ := up_facts cP hH5; clear hH5
  have ta5 := ta4.stP k5 c5 (by simp)
  have te5 := te4.keep k5 (by simp [Tx.W])
  have e5 := te5.e5
  have cT := ta5.hT
  refine Exists.intro _ (Exists.intro _ (And.intro e5.of (And.intro rfl ?_)))
  refine Exists.intro _ (Exists.intro _ (And.intro cT.of (And.intro (show _ = some (iv s.seeped) from rfl) ?_)))
  refine And.intro s3' ?_
  obtain ⟨_, e6', l6, g6⟩ := id cT
  refine Exists.intro _ (Exists.intro _ (Exists.intro _ (And.intro g6 (And.intro (by omega) (And.intro rfl (And.intro rfl (And.intro (by simp [Tx.cells]) ?_)))))))
  intro H6 hH6
  obtain ⟨k6, n6, c6⟩ := up_facts cT hH6; clear hH6
  have ta6 : TAt c.gn c.pn L p H6 gs (seepT s i e) := by
    have := ta5.stT (s' := seepT s i e) k6 c6 (by simp only [seepT, hu])
    exact this
  exact hK e _ H6 ⟨rfl, rfl, rfl, rfl, rfl, rfl, rfl, rfl, trivial⟩ ta6 q2 ((k4.mono (by simp)).trans ((k5.mono (by simp [Tx.W])).trans (k6.mono (by simp [Tx.W]))))
theorem lv_seeps {S : Rg} {K : Exit → Rg → Hp → Prop} {h7 : Value} (te : TE c h ba bl bcap bs b5 b6 b7 p H) (by_ : By bl bs) (ta : TAt c.gn c.pn L p H gs s) (hloL : lo ≤ L) (hlo : lo ≤ H.next) (v : c.Vd) (hturn : turn ≤ 100000)
    (tr : Tru c.pn M B a sl s sg) (hM : M ≤ 4398046511104) (hB : B ≤ 1152921504606846976)
    (hS : Subs [(173, .slice c.pa c.pn c.pcap), (174, iv (c.pn : Int)), (175, iv ((0 : Nat) : Int)), (5, pt b5), (6, pt b6), (3, .slice ba bl bcap), (4, iv (turn : Int)), (15, clo69 b5)] S)
    (hK : ∀ s' H1, TAt c.gn c.pn L p H1 gs s' → Tru c.pn M (B + c.pn * 4398046511104) a (c.ponds.zipIdx.foldl (seepS false) sl) s' (c.ponds.zipIdx.foldl (seepS true) sg) → Keep H H1 p.W →
      K (.exit 8) [(176, .bool (decide ((c.pn : Int) < c.pn))), (173, .slice c.pa c.pn c.pcap), (174, iv (c.pn : Int)), (175, iv (c.pn : Int)), (5, pt b5), (6, pt b6), (3, .slice ba bl bcap), (4, iv (turn : Int)), (15, clo69 b5)] H1) :
    Tri Try.prog kn lo 268 false (at_ Try.f35 [1, 1, 1, 1, 1, 1, 0, 1, 0]) S H K := by
  have hlp := v.lp
  have h16 := v.h16
  have hvp := List.all_eq_true.1 v.p
  have hbl := by_.hbl; have hb0 := by_.h0; have hb2 := by_.h2
  refine loop_lt E35_5 L35v (fun i : Nat => [(173, .slice c.pa c.pn c.pcap), (174, iv (c.pn : Int)), (175, iv (i : Int)), (5, pt b5), (6, pt b6), (3, .slice ba bl bcap), (4, iv (turn : Int)), (15, clo69 b5)])
    (fun k i H1 => i + k = c.pn ∧ ∃ s', TAt c.gn c.pn L p H1 gs s' ∧ Tru c.pn M (B + i * 4398046511104) a ((c.ponds.zipIdx.take i).foldl (seepS false) sl) s' ((c.ponds.zipIdx.take i).foldl (seepS true) sg) ∧ Keep H H1 p.W) c.pn 0 ⟨by omega, s, ta, by simpa using tr, Keep.refl _ _⟩ hS ?_
  rintro k i H1 ⟨hik, s1, ta1, tr1, hk⟩
  refine And.intro (fun hlt => ?_) (fun hge => ?_)
  · have hi : i < c.pn := by simpa using hlt
    have te1 := te.keep hk (fun _ h => h)
    have hpa := te1.hp
    rcases hpa with ⟨_, h0, _⟩ | ⟨cb, eca, hr, _⟩
    · omega
    obtain ⟨x, hx⟩ := get_some (l := c.ponds) (i := i) (by omega)
    have hz := zip_getP hx
    have hpd := hvp (x, i) (List.mem_of_getElem? hz)
    simp [pondB, withinB] at hpd
    have hlo' : 0 ≤ x.lo ∧ x.lo ≤ x.hi ∧ x.hi ≤ 1000000 := by omega
    clear hpd
    have hg := tr1.d.get i
    rw [eca]
    have hkn := hk.1
    refine Exists.intro i (And.intro rfl (And.intro hi ?_))
    refine Exists.intro _ (Exists.intro _ (And.intro hr.of (And.intro (row_flat (f := Pd.v) (fun _ _ => rfl) hx) ?_)))
    intro H2 hH2; obtain ⟨k2, n2, c2⟩ := new_facts hH2; clear hH2
    obtain ⟨_, e2, l2, g2⟩ := id c2
    refine Exists.intro _ (Exists.intro _ (Exists.intro _ (And.intro g2 (And.intro (by omega) (And.intro rfl (And.intro rfl (And.intro (by simp) ?_)))))))
    intro H3 hH3; obtain ⟨k3, n3, c3⟩ := up_facts c2 hH3; clear hH3
    have c3 : Cl H3 H1.next [iv x.full, iv x.lo, iv x.hi, iv x.spill] := c3
    have k13 : Keep H1 H3 [] := k2.new k3 (by simp)
    have ta3 := ta1.keep0 k13
    have te3 := te1.keep k13 (by simp)
    have hn3 := k13.1
    have e5 := te3.e5
    have cT := ta3.hT
    have cP := ta3.hP
    have hlw := ta3.lws
    refine Exists.intro _ (Exists.intro _ (And.intro e5.of (And.intro rfl ?_)))
    refine Exists.intro _ (Exists.intro _ (And.intro cT.of (And.intro (show (p.cells c.gn c.pn s1)[1]? = some (.slice (some ⟨p.pb, 0, none⟩) c.pn p.pcap) from rfl) ?_)))
    refine Exists.intro i (And.intro rfl (And.intro hi ?_))
    refine Exists.intro _ (Exists.intro _ (And.intro cP.of (And.intro (by rw [Nat.zero_add, Nat.mul_one]; exact ints_get (by omega)) ?_)))
    obtain ⟨u, hu⟩ : ∃ u, s1.ws.getD i 0 = u := ⟨_, rfl⟩
    rw [hu]
    refine seep_tail (x := x) (i := i) (u := u) (B' := H1.next) (pv := .slice (some ⟨cb, 0, none⟩) c.pn c.pcap) te3 by_ ta3 hloL (by omega) v hturn tr1 hM (by omega) c3 hi hlo' hu ⟨rfl, rfl, rfl, rfl, rfl, rfl, rfl, rfl, rfl, rfl, rfl, trivial⟩ ?_
    intro e S' H6 hS' ta6 q2 k36
    refine tri_piece L35e hS' ?_
    refine And.intro ⟨by omega, by omega⟩ ?_
    refine ⟨k - 1, i + 1, by omega, ⟨by omega, seepT s1 i e, ta6, ?_, ?_⟩, rfl, rfl, rfl, rfl, rfl, rfl, rfl, rfl, trivial⟩
    · rw [take_step hz, take_step hz]
      have e1 : ((i + 1 : Nat) : Int) * 4398046511104 = i * 4398046511104 + 4398046511104 := by rw [Int.natCast_add, Int.add_mul]; simp
      rw [e1, ← Int.add_assoc]
      exact q2
    · exact (hk.trans (k13.mono (by simp))).trans k36
  · have hi : ¬ i < c.pn := by simpa using hge
    have hin : i = c.pn := by omega
    subst hin
    rw [List.take_of_length_le (by simp; omega)] at tr1
    exact hK s1 H1 ta1 tr1 hk
end
end Go.Ax
namespace Go.Ax
open Go Go.RowKit Go.Proofs

/-! ChainTrue: an hour of the truth. -/
section
variable {kn : FuncId → Option Bool} {lo : Nat} {H : Hp} {c : Ch} {h : Hr} {ba : Option Addr} {bl bcap : Nat} {bs : List Nat} {L turn : Nat} {p : Tx} {B a : Int} {sl s sg : St} {gs : List Gt}
theorem live_ok (ta : TAt c.gn c.pn L p H gs s) (hloL : lo ≤ L) (hlo : lo ≤ H.next) (v : c.Vd) (hp : Sl H c.pa c.pn c.pcap (pdc c.ponds)) (ha : h.At H) (hy : Sl H ba bl bcap (u32s bs)) (by_ : By bl bs)
    (op : ∀ b, c.pa = some ⟨b, 0, none⟩ → b < L) (ob : ∀ b, h.ba = some ⟨b, 0, none⟩ → b < L) (oc : ∀ b, h.ca = some ⟨b, 0, none⟩ → b < L) (ot : ∀ b, h.ta = some ⟨b, 0, none⟩ → b < L) (oy : ∀ b, ba = some ⟨b, 0, none⟩ → b < L)
    (hv : hourB h c.pn c.gn = true) (hgs : gs.all (fun g => gateB g c.pn) = true) (tr : Tru c.pn 1099511627776 (B + 1099511627776) a sl s sg) (hB0 : 0 ≤ B) (hB : B ≤ 576460752303423488) (hturn : turn ≤ 100000) :
    ∃ s' H', FnX Try.prog kn lo 35 [pt p.T, c.cv, .agg h.v.toArray, .slice ba bl bcap, iv (turn : Int)] H unit H' ∧ TAt c.gn c.pn L p H' (boardsF h gs) s' ∧ Keep H H' p.W ∧
      LeS (hourF c false h gs sl) s' ∧ LeS s' (hourF c true h gs sg) ∧ Cn a s' := by
  have key := fnX_low (kn := kn) (lo := lo) (H := H) (args := [pt p.T, c.cv, .agg h.v.toArray, .slice ba bl bcap, iv (turn : Int)]) (Q := fun w H' => ∃ s', w = unit ∧ TAt c.gn c.pn L p H' (boardsF h gs) s' ∧ Keep H H' p.W ∧
      LeS (hourF c false h gs sl) s' ∧ LeS s' (hourF c true h gs sg) ∧ Cn a s') Try.func35 B35 N35 Z35 L35 (by simp) ?_
  · obtain ⟨w, H', q, s', rfl, r⟩ := key; exact ⟨s', H', q, r⟩
  have h16 := v.h16; have h32 := v.h32
  have hv0 := hv
  have hbg := boards_good hgs hv
  simp only [hourB, Bool.and_eq_true] at hv
  obtain ⟨⟨⟨⟨⟨v1, v2⟩, v3⟩, v4⟩, v5⟩, v6⟩ := hv
  have hbn : h.bn ≤ 32 := by simp at v1; omega
  have hcn : h.cn = c.pn := by simp at v2; omega
  have htn : h.tn ≤ 32 := by simp at v3; omega
  intro H1 hH1; obtain ⟨k1, n1, c1⟩ := new_facts hH1; clear hH1
  intro H2 hH2; obtain ⟨k2, n2, c2⟩ := new_facts hH2; clear hH2
  intro H3 hH3; obtain ⟨k3, n3, c3⟩ := new_facts hH3; clear hH3
  have c1 : Cl H3 H.next [pt p.T] := k3.cl (k2.cl c1 (by simp)) (by simp)
  have c2 : Cl H3 H1.next [.slice c.pa c.pn c.pcap, .slice c.ga c.gn c.gcap] := k3.cl c2 (by simp)
  have c3 : Cl H3 H2.next h.v := c3
  have k03 : Keep H H3 [] := (k1.trans k2).trans k3
  have m1 := k1.1; have m2 := k2.1; have m3 := k3.1
  have ta3 := ta.keep0 k03
  have te3 : TE c h ba bl bcap bs H.next H1.next H2.next p H3 := ⟨c1.rd, c2.rd, c3.rd, k03.sl0 hp, ha.keep k03, k03.sl0 hy, ta.offNew (Nat.le_refl _), ta.offNew (by omega), ta.offNew (by omega),
    fun b e => ta.off (op b e), fun b e => ta.off (ob b e), fun b e => ta.off (oc b e), fun b e => ta.off (ot b e), fun b e => ta.off (oy b e)⟩
  clear c1 c2 c3
  -- the boards
  have e7 := te3.e7
  refine Exists.intro _ (Exists.intro _ (And.intro e7.of (And.intro (show h.v[0]? = some (.slice h.ba h.bn h.bcap) from rfl) ?_)))
  refine lv_boards (tv := iv (turn : Int)) te3 ta3 hloL (by omega) (by omega) (by omega) (fun b hb => ?_) ⟨rfl, rfl, rfl, rfl, rfl, rfl, rfl, rfl, trivial⟩ ?_
  · have := List.all_eq_true.1 v4 b hb
    simp [indexB, boardsB] at this; omega
  intro H4 ta4 k4
  have te4 := te3.keep k4 (fun _ h => h)
  have m4 := k4.1
  -- what comes
  have e7 := te4.e7
  refine Exists.intro _ (Exists.intro _ (And.intro e7.of (And.intro (show h.v[1]? = some (.slice h.ca h.cn h.ccap) from rfl) ?_)))
  refine lv_comes te4 by_ ta4 hloL (by omega) hcn h16 hturn (fun x hx => ?_) tr (by omega) (by omega) ⟨rfl, rfl, rfl, rfl, rfl, rfl, rfl, rfl, trivial⟩ ?_
  · have := List.all_eq_true.1 v5 x hx
    simp [withinB] at this; omega
  intro s5 H5 ta5 tr5 k5
  have te5 := te4.keep k5 (fun _ h => h)
  have m5 := k5.1
  -- the closure, and the gates
  refine And.intro rfl (Exists.intro (clo69 H.next) (And.intro rfl ?_))
  have e5 := te5.e5
  have cT := ta5.hT
  refine Exists.intro _ (Exists.intro _ (And.intro e5.of (And.intro rfl ?_)))
  refine Exists.intro _ (Exists.intro _ (And.intro cT.of (And.intro (show (p.cells c.gn c.pn s5)[0]? = some (.slice p.ga c.gn p.gcap) from rfl) ?_)))
  refine lv_gates (turn := turn) te5 ta5 hloL (by omega) h32 hbg tr5 (by omega) (by omega) ⟨rfl, rfl, rfl, rfl, rfl, rfl, rfl, rfl, rfl, trivial⟩ ?_
  intro s6 H6 ta6 tr6 k6
  have te6 := te5.keep k6 (fun _ h => h)
  have m6 := k6.1
  -- the takes
  have e7 := te6.e7
  refine Exists.intro _ (Exists.intro _ (And.intro e7.of (And.intro (show h.v[2]? = some (.slice h.ta h.tn h.tcap) from rfl) ?_)))
  refine lv_takes (turn := turn) te6 ta6 hloL (by omega) htn (fun x hx => ?_) tr6 (by omega) (by omega) ⟨rfl, rfl, rfl, rfl, rfl, rfl, rfl, rfl, rfl, trivial⟩ ?_
  · have := List.all_eq_true.1 v6 x hx
    simp [indexB, waterB] at this; omega
  intro s7 H7 ta7 tr7 k7
  have te7 := te6.keep k7 (fun _ h => h)
  have m7 := k7.1
  -- what seeps
  have e6 := te7.e6
  refine Exists.intro _ (Exists.intro _ (And.intro e6.of (And.intro rfl ?_)))
  refine lv_seeps (h7 := unit) te7 by_ ta7 hloL (by omega) v hturn tr7 (by omega) (by omega) ⟨rfl, rfl, rfl, rfl, rfl, rfl, rfl, rfl, trivial⟩ ?_
  intro s8 H8 ta8 tr8 k8
  have te8 := te7.keep k8 (fun _ h => h)
  have m8 := k8.1
  -- what spills
  have e6 := te8.e6
  refine Exists.intro _ (Exists.intro _ (And.intro e6.of (And.intro rfl ?_)))
  refine lv_spills te8 ta8 hloL (by omega) v tr8 (by omega) (by omega) ⟨rfl, rfl, rfl, rfl, rfl, trivial⟩ ?_
  intro s9 H9 ta9 tr9 k9
  refine And.intro trivial (Exists.intro _ (And.intro rfl ⟨s9, rfl, ta9, ?_, tr9.l, tr9.g, tr9.c⟩))
  exact (k03.mono (by simp)).trans (k4.trans (k5.trans (k6.trans (k7.trans (k8.trans k9)))))
end
end Go.Ax
namespace Go.Ax
open Go Go.RowKit Go.Proofs

/-! ChainTrue's law: its loops. -/
noncomputable def R7x1t90 : RC := (.seq (.dreg [⟨(some 90), none, (.addo (.tmp 12) 1)⟩, ⟨(some 91), none, (.ld (.tmp 90) 1)⟩, ⟨(some 92), none, (.lda (.tmp 15) 2)⟩, ⟨(some 93), none, (.mov (.tmp 3))⟩, ⟨(some 94), none, (.mov (.tmp 14))⟩, ⟨(some 95), none, (.mov (.tmp 3))⟩, ⟨(some 96), none, (.len (.tmp 95))⟩, ⟨(some 97), none, (.ari .rem (.tmp 94) (.tmp 96))⟩, ⟨(some 98), none, (.idx (.tmp 93) (.tmp 97) 1)⟩, ⟨(some 99), none, (.ld (.tmp 98) 1)⟩, ⟨(some 100), none, (.call ⟨(.value (.func 34)), (List.toArray [(.tmp 92), (.tmp 99)]), (List.toArray [35, 67])⟩ false)⟩, ⟨(some 101), none, (.mem ⟨(some 101), (.buildSlice 33 1 (List.toArray [(0, (.tmp 100))])), 33, "", (List.toArray []), none⟩)⟩, ⟨(some 102), none, (.mem ⟨(some 102), (.call ⟨(.builtin .append), (List.toArray [(.tmp 91), (.tmp 101)]), (List.toArray [33, 33])⟩), 33, "", (List.toArray []), none⟩)⟩, ⟨(some 103), none, (.addo (.tmp 12) 1)⟩, ⟨none, none, (.st (.tmp 103) (.tmp 102))⟩] [16383, 8191, 4095, 2044, 1020, 504, 248, 112, 32, 0, 0, 0, 0, 1, 0])
  (.reg [⟨(some 104), none, (.mov (.tmp 13))⟩, ⟨(some 105), none, (.addo (.tmp 12) 1)⟩, ⟨(some 106), none, (.ld (.tmp 105) 1)⟩, ⟨(some 107), none, (.mov (.tmp 14))⟩, ⟨(some 108), none, (.idx (.tmp 106) (.tmp 107) 1)⟩, ⟨(some 109), none, (.ld (.tmp 108) 1)⟩, ⟨(some 110), none, (.ari .add (.tmp 104) (.tmp 109))⟩, ⟨(some 13), none, (.mov (.tmp 110))⟩]))
theorem L7x1t90 : low Try.prog 214 (at_ Try.f7 [1, 1, 1, 1, 1, 1, 1, 0, 1, 0, 0, 1, 1, 0, 0, 1]) = some R7x1t90 := by kernel_rfl
noncomputable def R7x1e : RC := (.reg [⟨(some 111), none, (.ari .add (.tmp 85) (.const (.int .i64 1)))⟩, ⟨(some 85), none, (.mov (.tmp 111))⟩])
theorem L7x1e : low Try.prog 214 (at_ Try.f7 [1, 1, 1, 1, 1, 1, 1, 0, 1, 0, 0, 1, 1, 1]) = some R7x1e := by kernel_rfl
noncomputable def R7x1v : RC := (.seq (.reg [⟨(some 86), none, (.cmp .lss (.tmp 85) (.tmp 84))⟩])
  (.seq (.cond (.tmp 86) .skip
  (.exit 0))
  (.seq (.block 1 (.seq (.reg [⟨(some 87), none, (.mov (.tmp 85))⟩, ⟨(some 88), none, (.idx (.tmp 83) (.tmp 85) 2)⟩, ⟨(some 89), none, (.lda (.tmp 88) 2)⟩, ⟨(some 15), none, (.alc 35 [(.int .i64 0), (.int .i64 0)])⟩, ⟨(some 14), none, (.mov (.tmp 87))⟩, ⟨none, none, (.sta (.tmp 15) (.tmp 89) 2)⟩])
  (.other (at_ Try.f7 [1, 1, 1, 1, 1, 1, 1, 0, 1, 0, 0, 1, 1, 0, 0, 1]))))
  (.other (at_ Try.f7 [1, 1, 1, 1, 1, 1, 1, 0, 1, 0, 0, 1, 1, 1])))))
theorem V7x1 : LT Try.prog 214 (at_ Try.f7 [1, 1, 1, 1, 1, 1, 1, 0, 1, 0, 0]) R7x1v := by
  have e : at_ Try.f7 [1, 1, 1, 1, 1, 1, 1, 0, 1, 0, 0] = (.seq (at_ Try.f7 [1, 1, 1, 1, 1, 1, 1, 0, 1, 0, 0, 0]) (.seq (at_ Try.f7 [1, 1, 1, 1, 1, 1, 1, 0, 1, 0, 0, 1, 0]) (.seq (.block 1 (.seq (at_ Try.f7 [1, 1, 1, 1, 1, 1, 1, 0, 1, 0, 0, 1, 1, 0, 0, 0]) (at_ Try.f7 [1, 1, 1, 1, 1, 1, 1, 0, 1, 0, 0, 1, 1, 0, 0, 1]))) (at_ Try.f7 [1, 1, 1, 1, 1, 1, 1, 0, 1, 0, 0, 1, 1, 1])))) := by kernel_rfl
  rw [e]
  exact (.seq (.low (by kernel_rfl)) (.seq (.low (by kernel_rfl)) (.seq (.block 1 (.seq (.low (by kernel_rfl)) (.other _))) (.other _))))
noncomputable def R7x3t137 : RC := (.seq (.dreg [⟨(some 137), none, (.mov (.tmp 9))⟩, ⟨(some 138), none, (.mov (.tmp 19))⟩, ⟨(some 139), none, (.idx (.tmp 137) (.tmp 138) 2)⟩, ⟨(some 140), none, (.lda (.tmp 139) 2)⟩, ⟨(some 141), none, (.mov (.tmp 20))⟩, ⟨(some 142), none, (.call ⟨(.value (.func 36)), (List.toArray [(.tmp 140), (.tmp 141)]), (List.toArray [35, 3])⟩ true)⟩, ⟨(some 143), none, (.pur ⟨(some 143), (.unOp .not 4 (.tmp 142)), 4, "", (List.toArray []), none⟩)⟩, ⟨(some 144), none, (.mov (.tmp 143))⟩, ⟨(some 145), (some (144, false)), (.mov (.tmp 9))⟩, ⟨(some 146), (some (144, false)), (.mov (.tmp 19))⟩, ⟨(some 147), (some (144, false)), (.idx (.tmp 145) (.tmp 146) 2)⟩, ⟨(some 148), (some (144, false)), (.addo (.tmp 147) 0)⟩, ⟨(some 149), (some (144, false)), (.ld (.tmp 148) 1)⟩, ⟨(some 150), (some (144, false)), (.cmpb .lss (.tmp 149) (.const (.int .i64 0)))⟩, ⟨(some 151), none, (.pur ⟨(some 151), (.pick (.tmp 144) (.const (.bool true)) (.tmp 150)), 4, "", (List.toArray []), none⟩)⟩, ⟨(some 152), none, (.mov (.tmp 151))⟩, ⟨(some 153), (some (152, false)), (.mov (.tmp 9))⟩, ⟨(some 154), (some (152, false)), (.mov (.tmp 19))⟩, ⟨(some 155), (some (152, false)), (.idx (.tmp 153) (.tmp 154) 2)⟩, ⟨(some 156), (some (152, false)), (.addo (.tmp 155) 1)⟩, ⟨(some 157), (some (152, false)), (.ld (.tmp 156) 1)⟩, ⟨(some 158), (some (152, false)), (.addo (.tmp 4) 0)⟩, ⟨(some 159), (some (152, false)), (.ld (.tmp 158) 1)⟩, ⟨(some 160), (some (152, false)), (.mov (.tmp 19))⟩, ⟨(some 161), (some (152, false)), (.idx (.tmp 159) (.tmp 160) 4)⟩, ⟨(some 162), (some (152, false)), (.addo (.tmp 161) 0)⟩, ⟨(some 163), (some (152, false)), (.ld (.tmp 162) 1)⟩, ⟨(some 164), (some (152, false)), (.cmpb .gtr (.tmp 157) (.tmp 163))⟩, ⟨(some 165), none, (.pur ⟨(some 165), (.pick (.tmp 152) (.const (.bool true)) (.tmp 164)), 4, "", (List.toArray []), none⟩)⟩] [268435455, 134217727, 65077247, 31522815, 14745599, 65535, 2162687, 65535, 1048575, 524287, 262143, 65535, 65535, 32767, 16383, 8191, 4095, 2047, 1023, 255, 255, 127, 63, 31, 0, 7, 3, 0, 0])
  (.cond (.tmp 165) (.seq (.reg [⟨(some 8), none, (.mov (.const (.bool false)))⟩])
  .ret)
  .skip))
theorem L7x3t137 : low Try.prog 214 (at_ Try.f7 [1, 1, 1, 1, 1, 1, 1, 1, 1, 1, 0, 1, 0, 0, 1, 1, 0, 0, 1, 1]) = some R7x3t137 := by kernel_rfl
noncomputable def R7x3e : RC := (.reg [⟨(some 166), none, (.ari .add (.tmp 129) (.const (.int .i64 1)))⟩, ⟨(some 129), none, (.mov (.tmp 166))⟩])
theorem L7x3e : low Try.prog 214 (at_ Try.f7 [1, 1, 1, 1, 1, 1, 1, 1, 1, 1, 0, 1, 0, 0, 1, 1, 1]) = some R7x3e := by kernel_rfl
noncomputable def R7x3v : RC := (.seq (.reg [⟨(some 130), none, (.cmp .lss (.tmp 129) (.tmp 128))⟩])
  (.seq (.cond (.tmp 130) .skip
  (.exit 4))
  (.seq (.block 5 (.seq (.reg [⟨(some 131), none, (.mov (.tmp 129))⟩, ⟨(some 132), none, (.idx (.tmp 127) (.tmp 129) 1)⟩, ⟨(some 133), none, (.ld (.tmp 132) 1)⟩, ⟨(some 19), none, (.mov (.tmp 131))⟩, ⟨(some 20), none, (.mov (.tmp 133))⟩])
  (.seq (.reg [⟨(some 134), none, (.mov (.tmp 18))⟩, ⟨(some 135), none, (.mov (.tmp 20))⟩, ⟨(some 136), none, (.ari .add (.tmp 134) (.tmp 135))⟩, ⟨(some 18), none, (.mov (.tmp 136))⟩])
  (.other (at_ Try.f7 [1, 1, 1, 1, 1, 1, 1, 1, 1, 1, 0, 1, 0, 0, 1, 1, 0, 0, 1, 1])))))
  (.other (at_ Try.f7 [1, 1, 1, 1, 1, 1, 1, 1, 1, 1, 0, 1, 0, 0, 1, 1, 1])))))
theorem V7x3 : LT Try.prog 214 (at_ Try.f7 [1, 1, 1, 1, 1, 1, 1, 1, 1, 1, 0, 1, 0, 0]) R7x3v := by
  have e : at_ Try.f7 [1, 1, 1, 1, 1, 1, 1, 1, 1, 1, 0, 1, 0, 0] = (.seq (at_ Try.f7 [1, 1, 1, 1, 1, 1, 1, 1, 1, 1, 0, 1, 0, 0, 0]) (.seq (at_ Try.f7 [1, 1, 1, 1, 1, 1, 1, 1, 1, 1, 0, 1, 0, 0, 1, 0]) (.seq (.block 5 (.seq (at_ Try.f7 [1, 1, 1, 1, 1, 1, 1, 1, 1, 1, 0, 1, 0, 0, 1, 1, 0, 0, 0]) (.seq (at_ Try.f7 [1, 1, 1, 1, 1, 1, 1, 1, 1, 1, 0, 1, 0, 0, 1, 1, 0, 0, 1, 0]) (at_ Try.f7 [1, 1, 1, 1, 1, 1, 1, 1, 1, 1, 0, 1, 0, 0, 1, 1, 0, 0, 1, 1])))) (at_ Try.f7 [1, 1, 1, 1, 1, 1, 1, 1, 1, 1, 0, 1, 0, 0, 1, 1, 1])))) := by kernel_rfl
  rw [e]
  exact (.seq (.low (by kernel_rfl)) (.seq (.low (by kernel_rfl)) (.seq (.block 5 (.seq (.low (by kernel_rfl)) (.seq (.low (by kernel_rfl)) (.other _)))) (.other _))))

theorem Acc.cl {lo f : Nat} {e : TypeId} {H : Hp} {b n : Nat} {cs : List Value} (h : Acc lo f e H (.slice (some ⟨b, 0, none⟩) n n) n cs) : Cl H b cs ∧ f ≤ b := by
  rcases h with ⟨_, _, h⟩ | ⟨b', e, _, hf, _, hn, hg⟩
  · cases h
  · cases e; exact ⟨⟨hn, _, _, hg⟩, hf⟩
theorem ints_snoc (ns : List Int) (e : Int) : ints (ns ++ [e]) = ints ns ++ [iv e] := by simp [ints]
theorem se33' : sliceElem Try.prog 33 = some (3, 1) := by kernel_rfl
section
variable {kn : FuncId → Option Bool} {lo : Nat} {H : Hp} {c : Ch} {ba : Option Addr} {bl bcap : Nat} {bs : List Nat}
theorem start_tail {S : Rg} {K : Exit → Rg → Hp → Prop} {B T b4 b10 f : Nat} {s : Int × Int} {ns : List Int} {w gv wv lv ev wl : Value} {wn0 : Value} (hT : Cl H T [gv, w, iv 0, iv 0, iv 0, iv 0]) (hTf : T < f) (hf : f ≤ H.next) (hlT : lo ≤ T) (hlo : lo ≤ H.next) (acc : Acc lo f 3 H w ns.length (ints ns))
    (hB : Cl H B [iv s.1, iv s.2]) (hBT : B ≠ T) (hBf : f ≤ B) (hBa : B ∉ accB w) (hy : Sl H ba bl bcap (u32s bs)) (hyf : ∀ b, ba = some ⟨b, 0, none⟩ → b < f ∧ b ≠ T) (by_ : By bl bs) (hs : 0 ≤ s.1 ∧ s.1 ≤ s.2 ∧ s.2 ≤ 68719476736) (hn : ns.length < 16) (hsum : 0 ≤ ns.sum ∧ ns.sum ≤ 1099511627776)
    (hS : Subs [(15, pt B), (14, iv (ns.length : Int)), (13, iv ns.sum), (83, wl), (84, wn0), (85, iv (ns.length : Int)), (12, pt T), (4, pt b4), (1, wv), (2, lv), (3, .slice ba bl bcap), (9, ev), (10, pt b10)] S)
    (hK : ∀ e w' S' H', s.1 ≤ e → e ≤ s.2 → Subs [(13, iv (ns.sum + e)), (83, wl), (84, wn0), (85, iv (ns.length : Int)), (12, pt T), (4, pt b4), (1, wv), (2, lv), (3, .slice ba bl bcap), (9, ev), (10, pt b10)] S' → Cl H' T [gv, w', iv 0, iv 0, iv 0, iv 0] → Acc lo f 3 H' w' (ns.length + 1) (ints (ns ++ [e])) → Keep H H' (T :: accB w) → K .normal S' H') :
    Tri Try.prog kn lo 214 false (at_ Try.f7 [1, 1, 1, 1, 1, 1, 1, 0, 1, 0, 0, 1, 1, 0, 0, 1]) S H K := by
  have hbl := by_.hbl; have hb0 := by_.h0; have hb2 := by_.h2
  rcases hy with ⟨_, w0, _⟩ | ⟨yb, rfl, hyr, _⟩
  · omega
  obtain ⟨hy1, hy2⟩ := hyf yb rfl
  have hmod : ns.length % bl < bl := Nat.mod_lt _ hb0
  obtain ⟨y, hyy⟩ := get_some (l := bs) (i := ns.length % bl) (by omega)
  have hy3 := by_.hr y (List.mem_of_getElem? hyy)
  have hblk := acc.blk
  refine tri_piece L7x1t90 hS ?_
  refine Exists.intro _ (Exists.intro _ (And.intro hT.of (And.intro rfl (And.intro hT.lt ?_))))
  refine Exists.intro _ (Exists.intro _ (And.intro hB.of (And.intro (show row 2 _ _ = some [iv s.1, iv s.2] from rfl) (And.intro hB.lt ?_))))
  refine And.intro (by omega) (And.intro (by omega) (And.intro ⟨by omega, by omega⟩ (And.intro ⟨by omega, by omega⟩ ?_)))
  refine Exists.intro (ns.length % bl) (And.intro (by simp) (And.intro hmod ?_))
  refine Exists.intro _ (Exists.intro _ (And.intro hyr.of (And.intro (show _ = some (.int .u32 (y : Int)) by rw [Nat.zero_add, Nat.mul_one]; simp [u32s, hyy]) (And.intro hyr.lt ?_))))
  obtain ⟨H4, f4, k4⟩ := inner_ok (kn := kn) (lo := H.next) (H := H) (s := s) ⟨hs.1, hs.2.1, by omega⟩ hy3
  obtain ⟨i1, i2⟩ := innerV_in (s := s) (x := y) hs.2.1
  generalize innerV s y = e at *
  refine Exists.intro _ (Exists.intro _ (And.intro (callX_args f4) ?_))
  have m4 := k4.1
  obtain ⟨H6, hH6⟩ : ∃ H6, H4.new (.cells [iv e] 3 false) = H6 := ⟨_, rfl⟩
  refine And.intro rfl (Or.inr (And.intro rfl (Exists.intro _ (Exists.intro H6 (Exists.intro _ (And.intro ((heap_build1 (v := iv e) se33 z3 rfl rfl rfl (by decide)).trans (by rw [← hH6]; rfl)) (And.intro (fun b e => by cases e) ?_)))))))
  obtain ⟨k6, n6, c6⟩ := new_facts hH6
  clear hH6
  have m6 := k6.1
  have k06 := k4.trans k6
  have hsl : Sl H6 (some ⟨H4.next, 0, none⟩) 1 1 [iv e] := .inr ⟨H4.next, rfl, c6.rd, Nat.le_refl _⟩
  have acc6 := acc.keep k06
  obtain ⟨H7, kd, h7', hkd, acc7, k7, n7⟩ := heap_append_two (P := Try.prog) (lo := lo) (k := ns.length) (t1 := 33) se33 u33 hsl rfl (by decide) rfl (by rw [ints_len]; omega) (by omega) acc6 (by omega) (by omega)
  refine And.intro rfl (Or.inr (And.intro (by cases w <;> kernel_rfl) (Exists.intro _ (Exists.intro H7 (Exists.intro _ (And.intro (h7' _ _ _ _ _ _ _ rfl rfl) (And.intro (reg_ok hkd _) ?_)))))))
  rw [← ints_snoc] at acc7
  have hT6 := k06.cl hT (by simp)
  have hT7 : Cl H7 T [gv, w, iv 0, iv 0, iv 0, iv 0] := k7.cl hT6 (fun hb => by have := (hblk T hb).1; omega)
  have m7 := k7.1
  obtain ⟨ca7, fb7⟩ := acc7.cl
  rcases hkd with rfl | ⟨bk, rfl, hbk⟩
  all_goals
    obtain ⟨_, e8, l8, g8⟩ := id hT7
    refine Exists.intro _ (Exists.intro _ (Exists.intro _ (And.intro g8 (And.intro hlT (And.intro rfl (And.intro rfl (And.intro (by simp) ?_)))))))
    intro H8 hH8; obtain ⟨k8, n8, c8⟩ := up_facts hT7 hH8; clear hH8
    have c8 : Cl H8 T [gv, .slice (some ⟨H6.next, 0, none⟩) (ns.length + 1) (ns.length + 1), iv 0, iv 0, iv 0, iv 0] := c8
    have ca8 := k8.cl ca7 (by simp; omega)
    refine And.intro (by repeat' first | exact True.intro | exact (fun h => h) | refine And.intro ?_ ?_) ?_
    refine Exists.intro _ (Exists.intro _ (And.intro c8.of (And.intro rfl ?_)))
    refine Exists.intro ns.length (And.intro rfl (And.intro (by omega) ?_))
    refine Exists.intro _ (Exists.intro _ (And.intro ca8.of (And.intro (show _ = some (iv e) by rw [Nat.zero_add, Nat.mul_one]; simp [ints]) ?_)))
    refine And.intro ⟨by omega, by omega⟩ ?_
    refine hK e _ _ H8 i1 i2 ⟨rfl, rfl, rfl, rfl, rfl, rfl, rfl, rfl, rfl, rfl, rfl, trivial⟩ c8 (acc7.keepW k8 (fun b hb => by simp at hb; omega)) ?_
    exact ((k06.mono (by simp)).trans (k7.mono (fun b hb => List.mem_cons_of_mem _ hb))).trans (k8.mono (by simp))
end
end Go.Ax
namespace Go.Ax
open Go Go.RowKit Go.Proofs

section
variable {kn : FuncId → Option Bool} {lo : Nat} {F H : Hp} {c : Ch} {ba : Option Addr} {bl bcap : Nat} {bs : List Nat}
/-- The truth's start: a number of each span of the water. -/
theorem start_loop {S : Rg} {K : Exit → Rg → Hp → Prop} {T b4 b10 : Nat} {gv lv ev : Value} (hc : c.At F) (v : c.Vd) (hy : Sl F ba bl bcap (u32s bs)) (by_ : By bl bs) (kF : Keep F H []) (hT : Cl H T [gv, .slice none 0 0, iv 0, iv 0, iv 0, iv 0]) (hFT : F.next ≤ T) (hlo : lo ≤ F.next)
    (hS : Subs [(13, iv 0), (83, .slice c.wa c.wn c.wcap), (84, iv (c.wn : Int)), (85, iv ((0 : Nat) : Int)), (12, pt T), (4, pt b4), (1, c.wv), (2, lv), (3, .slice ba bl bcap), (9, ev), (10, pt b10)] S)
    (hK : ∀ ns b H', ns.length = c.wn → (∀ (j : Nat) x, ns[j]? = some x → ∃ s, c.ss[j]? = some s ∧ s.1 ≤ x ∧ x ≤ s.2) → Keep H H' [T] → Cl H' T [gv, .slice (some ⟨b, 0, none⟩) c.wn c.wn, iv 0, iv 0, iv 0, iv 0] → Cl H' b (ints ns) → H.next ≤ b →
      K (.exit 0) [(86, .bool false), (13, iv ns.sum), (83, .slice c.wa c.wn c.wcap), (84, iv (c.wn : Int)), (85, iv (c.wn : Int)), (12, pt T), (4, pt b4), (1, c.wv), (2, lv), (3, .slice ba bl bcap), (9, ev), (10, pt b10)] H') :
    Tri Try.prog kn lo 214 false (at_ Try.f7 [1, 1, 1, 1, 1, 1, 1, 0, 1, 0]) S H K := by
  have h16 := v.h16; have h1 := v.h1; have hwp := v.wp; have hlp := v.lp; have hlw := v.lw
  have hvw := List.all_eq_true.1 v.w
  have hpf := pond_facts v
  have hFH := kF.1
  have hTl := hT.lt
  refine loop_lt E7_1 V7x1 (fun x : Value × List Int => [(13, iv x.2.sum), (83, .slice c.wa c.wn c.wcap), (84, iv (c.wn : Int)), (85, iv (x.2.length : Int)), (12, pt T), (4, pt b4), (1, c.wv), (2, lv), (3, .slice ba bl bcap), (9, ev), (10, pt b10)])
    (fun k x H2 => x.2.length + k = c.wn ∧ (∀ (j : Nat) r, x.2[j]? = some r → ∃ s, c.ss[j]? = some s ∧ s.1 ≤ r ∧ r ≤ s.2) ∧ Keep H H2 [T] ∧ Acc lo H.next 3 H2 x.1 x.2.length (ints x.2) ∧ Cl H2 T [gv, x.1, iv 0, iv 0, iv 0, iv 0] ∧ 0 ≤ x.2.sum ∧ x.2.sum ≤ x.2.length * 68719476736)
    c.wn (.slice none 0 0, []) ⟨by simp, fun j r e => by simp at e, Keep.refl H _, .inl ⟨rfl, rfl, rfl⟩, hT, by simp, by simp⟩ hS ?_
  rintro k ⟨w, ns⟩ H2 ⟨hik, hns, hkH, hacc, htc, hs0, hs1⟩
  simp only at hik hns hacc htc hs0 hs1
  have hkn := hkH.1
  have hk : Keep F H2 [] := kF.new hkH (fun b hb => .inr (by simp at hb; omega))
  refine And.intro (fun hlt' => ?_) (fun hge => ?_)
  · have hi : ns.length < c.wn := by simpa using hlt'
    have hw2 := hk.sl0 hc.w
    rcases hw2 with ⟨_, h0, _⟩ | ⟨wb, ewa, hwc, _⟩
    · omega
    obtain ⟨s, hs⟩ := get_some (l := c.ss) (i := ns.length) (by omega)
    obtain ⟨p, hp⟩ := get_some (l := c.ponds) (i := ns.length) (by omega)
    have hws := hvw (p, s) (List.mem_of_getElem? (zip2_get hp hs))
    have hws : 0 ≤ s.1 ∧ s.1 ≤ s.2 ∧ s.2 ≤ p.full := by
      simp [withinB] at hws; omega
    have hp2 := (hpf p (List.mem_of_getElem? hp)).2
    rw [ewa]
    refine Exists.intro ns.length (And.intro rfl (And.intro hi ?_))
    refine Exists.intro _ (Exists.intro _ (And.intro hwc.of (And.intro (row_flat (f := fun s : Int × Int => [iv s.1, iv s.2]) (fun _ _ => rfl) hs) ?_)))
    intro H3 hH3; obtain ⟨k3, n3, c3⟩ := new_facts hH3; clear hH3
    obtain ⟨_, e3, l3, g3⟩ := id c3
    refine Exists.intro _ (Exists.intro _ (Exists.intro _ (And.intro g3 (And.intro (by omega) (And.intro rfl (And.intro rfl (And.intro (by simp) ?_)))))))
    intro H4 hH4; obtain ⟨k4, n4, c4⟩ := up_facts c3 hH4; clear hH4
    have c4 : Cl H4 H2.next [iv s.1, iv s.2] := c4
    have k24 : Keep H2 H4 [] := k3.new k4 (by simp)
    have hn24 := k24.1
    have hblk := hacc.blk
    have htl := htc.lt
    refine start_tail (f := H.next) (B := H2.next) (b4 := b4) (b10 := b10) (s := s) (wl := .slice (some ⟨wb, 0, none⟩) c.wn c.wcap) (wn0 := iv (c.wn : Int)) (wv := c.wv) (lv := lv) (ev := ev) (k24.cl htc (by simp)) hTl (by omega) (by omega) (by omega) (hacc.keep k24) c4 (by omega) (by omega) (fun hb => by have := (hblk _ hb).2; omega) ((hk.trans k24).sl0 hy) (fun b e => ?_) by_ ⟨hws.1, hws.2.1, by omega⟩ (by omega) ⟨hs0, by omega⟩ ⟨rfl, rfl, rfl, rfl, rfl, rfl, rfl, rfl, rfl, rfl, rfl, rfl, rfl, trivial⟩ ?_
    · have := hy.lt b e; omega
    intro e w' S' H5 e1 e2 hS' t5 acc5 k5
    refine tri_piece L7x1e hS' ?_
    refine And.intro (show InR ((ns.length : Int) + 1) from ⟨by omega, by omega⟩) ?_
    have kH5 : Keep H H5 [T] := hkH.new (k24.mono (by simp) |>.trans k5) (fun b hb => by
      simp only [List.mem_cons] at hb
      rcases hb with rfl | hb
      · exact .inl (by simp)
      · exact .inr (hblk b hb).1)
    refine ⟨k - 1, (w', ns ++ [e]), by omega, ⟨by simp; omega, fun j q eq => ?_, kH5, ?_, t5, by simp; omega, by simp; omega⟩, ?_, rfl, rfl, ?_, rfl, rfl, rfl, rfl, rfl, rfl, rfl, trivial⟩
    · simp only at eq
      rw [List.getElem?_append] at eq
      split at eq
      · exact hns j q eq
      · rename_i hj
        have : j = ns.length := by
          have := get_lt eq; simp at this; omega
        subst this
        simp at eq; subst eq
        exact ⟨s, hs, e1, e2⟩
    · show Acc lo H.next 3 H5 w' (ns ++ [e]).length (ints (ns ++ [e]))
      rw [List.length_append]; exact acc5
    · show some (iv (ns.sum + e)) = some (iv (ns ++ [e]).sum)
      simp
    · show some (iv ((ns.length : Int) + 1)) = some (iv ((ns ++ [e]).length : Int))
      simp
  · have hi : ¬ ns.length < c.wn := by simpa using hge
    have hl : ns.length = c.wn := by omega
    obtain ⟨av, cap, rfl, _, _⟩ := hacc.sl
    rcases id hacc with ⟨h0, _, _⟩ | ⟨b, eb, h0, hf, hlb, hn, hg⟩
    · omega
    cases eb
    rw [hl] at htc
    have := hK ns b H2 hl hns hkH htc ⟨hn, _, _, hg⟩ hf
    rw [hl]
    have hd2 : decide ((c.wn : Int) < (c.wn : Int)) = false := by simp
    rw [← hd2] at this
    exact this
/-- All hours of the truth. -/
theorem live_loop {S : Rg} {K : Exit → Rg → Hp → Prop} {q : BQ} {p : Tx} {L b4 b10 : Nat} {a : Int} {s : St} {fv ev : Value} (hc : q.c.At F) (v : q.c.Vd) (hl : Sl F q.la q.ln q.lcap (hrc q.hs)) (hln : q.hs.length = q.ln) (hh : ∀ h ∈ q.hs, h.At F) (hv : ∀ h ∈ q.hs, hourB h q.c.pn q.c.gn = true) (hn : q.ln ≤ 24)
    (hy : Sl F ba bl bcap (u32s bs)) (by_ : By bl bs) (hFL : F.next ≤ L) (h4 : Rd F b4 [.slice q.c.pa q.c.pn q.c.pcap, .slice q.c.ga q.c.gn q.c.gcap]) (kF : Keep F H []) (ta : TAt q.c.gn q.c.pn L p H q.c.gs s) (hlo : lo ≤ F.next)
    (l0 : LeS (s0 false q.c) s) (g0 : LeS s (s0 true q.c)) (c0 : Cn a s)
    (hS : Subs [(112, .slice q.la q.ln q.lcap), (113, iv (q.ln : Int)), (114, iv ((0 : Nat) : Int)), (12, pt p.T), (4, pt b4), (3, .slice ba bl bcap), (9, ev), (10, pt b10), (13, fv)] S)
    (hK : ∀ gs' s' H', TAt q.c.gn q.c.pn L p H' gs' s' → LeS q.s s' → LeS s' q.t → Cn a s' → Keep H H' p.W →
      K (.exit 2) [(115, .bool false), (112, .slice q.la q.ln q.lcap), (113, iv (q.ln : Int)), (114, iv (q.ln : Int)), (12, pt p.T), (4, pt b4), (3, .slice ba bl bcap), (9, ev), (10, pt b10), (13, fv)] H') :
    Tri Try.prog kn lo 214 false (at_ Try.f7 [1, 1, 1, 1, 1, 1, 1, 1, 0, 1, 0]) S H K := by
  have h16 := v.h16
  have hFH := kF.1
  have hcl : ∀ h ∈ q.hs, h.cs.length = h.cn := fun h hm => (hh h hm).lc
  refine loop_low (fn := Try.f7) E7_2 N7 L7x2 (fun i : Nat => [(112, .slice q.la q.ln q.lcap), (113, iv (q.ln : Int)), (114, iv (i : Int)), (12, pt p.T), (4, pt b4), (3, .slice ba bl bcap), (9, ev), (10, pt b10), (13, fv)])
    (fun k i H1 => i + k = q.ln ∧ ∃ s', TAt q.c.gn q.c.pn L p H1 (foG false q.c q.hs i).1 s' ∧ LeS (foG false q.c q.hs i).2 s' ∧ LeS s' (foG true q.c q.hs i).2 ∧ Cn a s' ∧ Keep H H1 p.W) q.ln 0 ⟨by omega, s, ta, l0, g0, c0, Keep.refl _ _⟩ hS ?_
  rintro k i H1 ⟨hik, s1, ta1, l1, g1, cn1, hk⟩
  have hk1 := hk.1
  have kF1 : Keep F H1 [] := kF.new hk (fun b hb => .inr (by
    rcases Nat.lt_or_ge b L with q' | q'
    · exact absurd hb (ta.off q')
    · omega))
  refine And.intro (fun hlt => ?_) (fun hge => ?_)
  · have hi : i < q.ln := by simpa using hlt
    have hl1 := kF1.sl0 hl
    rcases hl1 with ⟨_, h0, _⟩ | ⟨lb, ela, hlc, _⟩
    · omega
    obtain ⟨h, hx⟩ := get_some (l := q.hs) (i := i) (by omega)
    have hm := List.mem_of_getElem? hx
    obtain ⟨al, gl1, _⟩ := fo_ahead v hv hcl false i (by omega)
    obtain ⟨ag, _, _⟩ := fo_ahead v hv hcl true i (by omega)
    have hgt := fo_gates (c := q.c) (hs := q.hs) i
    rw [ela]
    refine Exists.intro i (And.intro rfl (And.intro hi ?_))
    refine Exists.intro _ (Exists.intro _ (And.intro hlc.of (And.intro (row_flat (f := Hr.v) (fun _ _ => rfl) hx) ?_)))
    intro H2 hH2; obtain ⟨k2, n2, c2⟩ := new_facts hH2; clear hH2
    obtain ⟨_, e2, l2, g2⟩ := id c2
    refine Exists.intro _ (Exists.intro _ (Exists.intro _ (And.intro g2 (And.intro (by omega) (And.intro rfl (And.intro rfl (And.intro (by simp) ?_)))))))
    intro H3 hH3; obtain ⟨k3, n3, c3⟩ := up_facts c2 hH3; clear hH3
    have c3 : Cl H3 H1.next h.v := c3
    have k13 : Keep H1 H3 [] := k2.new k3 (by simp)
    have ta3 := ta1.keep0 k13
    have hn3 := k13.1
    have kF3 := kF1.trans k13
    have hb4 := kF3.rd h4 (by simp)
    refine Exists.intro _ (Exists.intro _ (And.intro hb4.of (And.intro (show row 2 [_, _] _ = some [.slice q.c.pa q.c.pn q.c.pcap, .slice q.c.ga q.c.gn q.c.gcap] from rfl) ?_)))
    refine Exists.intro _ (Exists.intro _ (And.intro c3.of (And.intro (show row 3 _ _ = some h.v from rfl) ?_)))
    refine And.intro (show InR (3 * (i : Int)) from ⟨by omega, by omega⟩) ?_
    have hat := hh h hm
    have pk : (i : Int) * perHour ≤ 24 * perHour ∧ 0 ≤ (i : Int) * perHour := by rw [perHour_eq]; omega
    rw [perHour_eq] at pk
    have tr := tru_start v l1 g1 al ag cn1
    rw [perHour_eq] at tr
    obtain ⟨s', H4, f4, ta4, k4, l4, g4, cn4⟩ := live_ok (kn := kn) (lo := lo) (H := H3) (turn := 3 * i) ta3 (by omega) (by omega) v (kF3.sl0 hc.p) (hat.keep kF3) (kF3.sl0 hy) by_
      (fun b e => by have := hc.p.lt b e; omega) (fun b e => by have := hat.b.lt b e; omega) (fun b e => by have := hat.c.lt b e; omega) (fun b e => by have := hat.t.lt b e; omega) (fun b e => by have := hy.lt b e; omega)
      (hv h hm) gl1 tr (by omega) (by omega) (by omega)
    have e3 : ((3 * i : Nat) : Int) = 3 * (i : Int) := by omega
    rw [e3] at f4
    refine Exists.intro _ (Exists.intro _ (And.intro (callX_args f4) ?_))
    refine And.intro ⟨by omega, by omega⟩ ?_
    refine ⟨k - 1, i + 1, by omega, ⟨by omega, s', ?_, ?_, ?_, cn4, (hk.trans (k13.mono (by simp))).trans k4⟩, rfl, rfl, rfl, rfl, rfl, rfl, rfl, rfl, rfl, trivial⟩
    · rw [fo_step hx]; exact ta4
    · rw [fo_step hx]; exact l4
    · rw [fo_step hx, hgt]; exact g4
  · have hi : ¬ i < q.ln := by simpa using hge
    have hin : i = q.ln := by omega
    subst hin
    have hd2 : decide ((q.ln : Int) < (q.ln : Int)) = false := by simp
    have := hK _ s1 H1 ta1 l1 g1 cn1 hk
    rw [← hd2] at this
    exact this
end
end Go.Ax
namespace Go.Ax
open Go Go.RowKit Go.Proofs

section
variable {P : Program} {kn : FuncId → Option Bool} {lo n : Nat} {rd : Bool} {masks : List Nat} {r : List RO} {ks : List Kd} {S : Rg} {H : Hp} {K : Rg → Hp → Prop} {d : Option Nat} {x y : Operand}
theorem wD_g {g : Nat} {t : Bool} {ri : RI} (hg : lk S g = some (.bool t)) (h : wDraw P kn lo n masks (⟨d, none, ri⟩ :: r) ks S H K) : wDraw P kn lo n masks (⟨d, some (g, t), ri⟩ :: r) ks S H K := by
  cases t <;> (simp only [wDraw, wRO, hg] at h ⊢; exact h)
theorem wD_lss {a b : Int} (t : Bool) (hx : evS S x = some (.int .i64 a)) (hy : evS S y = some (.int .i64 b)) (ht : decide (a < b) = t) (h : wDraw P kn lo n masks r (.pure :: ks) (putS S d (.bool t)) H K) : wDraw P kn lo n masks (⟨d, none, .cmpb .lss x y⟩ :: r) ks S H K := by
  simp only [wDraw, wRO, wRI, hx, hy]; intro u hu; rw [ht] at hu; subst hu; exact h
theorem wD_gtr {a b : Int} (t : Bool) (hx : evS S x = some (.int .i64 a)) (hy : evS S y = some (.int .i64 b)) (ht : decide (a > b) = t) (h : wDraw P kn lo n masks r (.pure :: ks) (putS S d (.bool t)) H K) : wDraw P kn lo n masks (⟨d, none, .cmpb .gtr x y⟩ :: r) ks S H K := by
  simp only [wDraw, wRO, wRI, hx, hy]; intro u hu; rw [ht] at hu; subst hu; exact h
end
section
variable {kn : FuncId → Option Bool} {lo : Nat} {F H : Hp} {c : Ch}
theorem end_tail {S : Rg} {K : Exit → Rg → Hp → Prop} {b1 b4 n i B12 b10 : Nat} {l : List (Int × Int)} {s : Int × Int} {p : Pd} {x fv : Int} {pv : Value} {sv : Value} (h1 : Rd H b1 (spc l)) (hs : l[i]? = some s) (hi : i < n) (h4 : Rd H b4 [.slice c.pa c.pn c.pcap, .slice c.ga c.gn c.gcap]) (hp : Sl H c.pa c.pn c.pcap (pdc c.ponds)) (hpi : c.ponds[i]? = some p) (hin : i < c.pn)
    (hx : s.1 ≤ x ∧ x ≤ s.2 ∧ 0 ≤ s.1 ∧ s.2 ≤ p.full)
    (hS : Subs [(9, slv b1 n n), (19, iv (i : Int)), (20, iv x), (4, pt b4), (127, pv), (128, iv (n : Int)), (129, iv (i : Int)), (18, iv fv), (12, pt B12), (10, pt b10), (13, sv)] S)
    (hK : ∀ S' H', Subs [(9, slv b1 n n), (4, pt b4), (127, pv), (128, iv (n : Int)), (129, iv (i : Int)), (18, iv fv), (12, pt B12), (10, pt b10), (13, sv)] S' → Keep H H' [] → K .normal S' H') :
    Tri Try.prog kn lo 214 false (at_ Try.f7 [1, 1, 1, 1, 1, 1, 1, 1, 1, 1, 0, 1, 0, 0, 1, 1, 0, 0, 1, 1]) S H K := by
  rcases hp with ⟨_, h0, _⟩ | ⟨cb, eca, hpr, _⟩
  · omega
  rw [eca] at h4
  obtain ⟨H5, f5, k5⟩ := has_ok (kn := kn) (lo := lo) (H := H) (a := s.1) (b := s.2) (n := x)
  have hb : hasB s.1 s.2 x = true := by simp [hasB]; omega
  rw [hb] at f5
  have h15 := k5.rd h1 (by simp)
  have h45 := k5.rd h4 (by simp)
  have hp5 := k5.rd hpr (by simp)
  have hrow : row 2 (spc l) (0 + i * 2) = some [iv s.1, iv s.2] := row_flat (f := fun s : Int × Int => [iv s.1, iv s.2]) (fun _ _ => rfl) hs
  have get0 : (spc l)[0 + i * 2 + 0]? = some (iv s.1) := by
    obtain ⟨e, hl⟩ := row_some hrow
    have h2 : (((spc l).drop (0 + i * 2)).take 2)[0]? = some (iv s.1) := by rw [← e]; rfl
    rw [List.getElem?_take, if_pos (by omega), List.getElem?_drop] at h2
    exact h2
  have get1 : (spc l)[0 + i * 2 + 1]? = some (iv s.2) := by
    obtain ⟨e, hl⟩ := row_some hrow
    have h2 : (((spc l).drop (0 + i * 2)).take 2)[1]? = some (iv s.2) := by rw [← e]; rfl
    rw [List.getElem?_take, if_pos (by omega), List.getElem?_drop] at h2
    exact h2
  have getp : (pdc c.ponds)[0 + i * 4 + 0]? = some (iv p.full) := by
    obtain ⟨e, hl⟩ := row_some (row_flat (f := Pd.v) (size := 4) (l := c.ponds) (fun _ _ => rfl) hpi)
    have h2 : (((pdc c.ponds).drop (0 + i * 4)).take 4)[0]? = some (iv p.full) := by rw [show ((pdc c.ponds).drop (0 + i * 4)).take 4 = p.v from e.symm]; rfl
    rw [List.getElem?_take, if_pos (by omega), List.getElem?_drop] at h2
    exact h2
  refine tri_piece L7x3t137 hS ?_
  refine wD_seq ?_
  refine wD_mov (v := slv b1 n n) rfl ?_
  refine wD_mov (v := iv (i : Int)) rfl ?_
  refine wD_idx (b := b1) (o := 0) (k := i) (j := (i : Int)) rfl rfl rfl hi ?_
  refine wD_lda (b := b1) (o := 0 + i * 2) (q := [iv s.1, iv s.2]) rfl h1 hrow ?_
  refine wD_mov (v := iv x) rfl ?_
  refine wD_callf (vs := [sp s.1 s.2, iv x]) rfl (callX_args f5) ?_
  refine wD_pur (v := .bool false) rfl (by kernel_rfl) ?_
  refine wD_mov (v := .bool false) rfl ?_
  refine wD_g rfl (wD_mov (v := slv b1 n n) rfl ?_)
  refine wD_g rfl (wD_mov (v := iv (i : Int)) rfl ?_)
  refine wD_g rfl (wD_idx (b := b1) (o := 0) (k := i) (j := (i : Int)) rfl rfl rfl hi ?_)
  refine wD_g rfl (wD_addo (b := b1) (o := 0 + i * 2) rfl ?_)
  refine wD_g rfl (wD_ld (b := b1) (o := 0 + i * 2 + 0) (v := iv s.1) rfl h15 get0 ?_)
  refine wD_g rfl (wD_lss (a := s.1) (b := 0) false rfl rfl (by simp; omega) ?_)
  refine wD_pur (v := .bool false) rfl rfl ?_
  refine wD_mov (v := .bool false) rfl ?_
  refine wD_g rfl (wD_mov (v := slv b1 n n) rfl ?_)
  refine wD_g rfl (wD_mov (v := iv (i : Int)) rfl ?_)
  refine wD_g rfl (wD_idx (b := b1) (o := 0) (k := i) (j := (i : Int)) rfl rfl rfl hi ?_)
  refine wD_g rfl (wD_addo (b := b1) (o := 0 + i * 2) rfl ?_)
  refine wD_g rfl (wD_ld (b := b1) (o := 0 + i * 2 + 1) (v := iv s.2) rfl h15 get1 ?_)
  refine wD_g rfl (wD_addo (b := b4) (o := 0) rfl ?_)
  refine wD_g rfl (wD_ld (b := b4) (o := 0 + 0) (v := .slice (some ⟨cb, 0, none⟩) c.pn c.pcap) rfl h45 rfl ?_)
  refine wD_g rfl (wD_mov (v := iv (i : Int)) rfl ?_)
  refine wD_g rfl (wD_idx (b := cb) (o := 0) (k := i) (j := (i : Int)) rfl rfl rfl hin ?_)
  refine wD_g rfl (wD_addo (b := cb) (o := 0 + i * 4) rfl ?_)
  refine wD_g rfl (wD_ld (b := cb) (o := 0 + i * 4 + 0) (v := iv p.full) rfl hp5 getp ?_)
  refine wD_g rfl (wD_gtr (a := s.2) (b := p.full) false rfl rfl (by simp; omega) ?_)
  refine wD_pur (v := .bool false) rfl rfl ?_
  refine wD_end (by repeat' first | exact True.intro | exact (fun h => h) | refine And.intro ?_ ?_) ?_
  refine condF ?_
  exact hK _ _ ⟨rfl, rfl, rfl, rfl, rfl, rfl, rfl, rfl, rfl, trivial⟩ k5
/-- What is left lies within what is told. -/
theorem end_loop {S : Rg} {K : Exit → Rg → Hp → Prop} {b1 b4 T pb pcap b10 : Nat} {l : List (Int × Int)} {ws : List Int} {sv : Value} (v : c.Vd) (h1 : Rd F b1 (spc l)) (hl : l.length = c.pn) (h4 : Rd F b4 [.slice c.pa c.pn c.pcap, .slice c.ga c.gn c.gcap]) (hp : Sl F c.pa c.pn c.pcap (pdc c.ponds)) (hw : Rd F pb (ints ws)) (hwl : ws.length = c.pn)
    (hx : ∀ (i : Nat) s p x, l[i]? = some s → c.ponds[i]? = some p → ws[i]? = some x → s.1 ≤ x ∧ x ≤ s.2 ∧ 0 ≤ s.1 ∧ s.2 ≤ p.full)
    (hS : Subs [(9, slv b1 c.pn c.pn), (4, pt b4), (127, .slice (some ⟨pb, 0, none⟩) c.pn pcap), (128, iv (c.pn : Int)), (129, iv ((0 : Nat) : Int)), (18, iv 0), (12, pt T), (10, pt b10), (13, sv)] S)
    (hK : ∀ H', Keep F H' [] → K (.exit 4) [(130, .bool false), (9, slv b1 c.pn c.pn), (4, pt b4), (127, .slice (some ⟨pb, 0, none⟩) c.pn pcap), (128, iv (c.pn : Int)), (129, iv (c.pn : Int)), (18, iv ws.sum), (12, pt T), (10, pt b10), (13, sv)] H') :
    Tri Try.prog kn lo 214 false (at_ Try.f7 [1, 1, 1, 1, 1, 1, 1, 1, 1, 1, 0, 1, 0]) S F K := by
  have h16 := v.h16; have hlp := v.lp
  have hpf := pond_facts v
  refine loop_lt E7_3 V7x3 (fun i : Nat => [(9, slv b1 c.pn c.pn), (4, pt b4), (127, .slice (some ⟨pb, 0, none⟩) c.pn pcap), (128, iv (c.pn : Int)), (129, iv (i : Int)), (18, iv (ws.take i).sum), (12, pt T), (10, pt b10), (13, sv)])
    (fun k i H2 => i + k = c.pn ∧ Keep F H2 [] ∧ 0 ≤ (ws.take i).sum ∧ (ws.take i).sum ≤ i * 68719476736) c.pn 0 ⟨by omega, Keep.refl _ _, by simp, by simp⟩ hS ?_
  rintro k i H2 ⟨hik, hk, s0, s1⟩
  refine And.intro (fun hlt' => ?_) (fun hge => ?_)
  · have hi : i < c.pn := by simpa using hlt'
    obtain ⟨s, hs⟩ := get_some (l := l) (i := i) (by omega)
    obtain ⟨p, hpi⟩ := get_some (l := c.ponds) (i := i) (by omega)
    obtain ⟨x, hxi⟩ := get_some (l := ws) (i := i) (by omega)
    have hxx := hx i s p x hs hpi hxi
    have hp2 := (hpf p (List.mem_of_getElem? hpi)).2
    have hws := hk.rd hw (by simp)
    have hsum : (ws.take (i + 1)).sum = (ws.take i).sum + x := by
      have hxw : ws[i]'(by omega) = x := by rw [List.getElem?_eq_getElem (by omega)] at hxi; exact Option.some.inj hxi
      rw [List.take_succ_eq_append_getElem (by omega), List.sum_append, hxw]; simp
    refine Exists.intro i (And.intro rfl (And.intro hi ?_))
    refine Exists.intro _ (Exists.intro _ (And.intro hws.of (And.intro (show _ = some (iv x) by rw [Nat.zero_add, Nat.mul_one]; simp [ints, hxi]) ?_)))
    refine And.intro (show InR ((ws.take i).sum + x) from ⟨by omega, by omega⟩) ?_
    refine end_tail (c := c) (i := i) (s := s) (p := p) (x := x) (l := l) (hk.rd h1 (by simp)) hs hi (hk.rd h4 (by simp)) (hk.sl0 hp) hpi hi hxx ⟨rfl, rfl, rfl, rfl, rfl, rfl, rfl, rfl, rfl, rfl, rfl, trivial⟩ ?_
    intro S' H3 hS' k3
    refine tri_piece L7x3e hS' ?_
    refine And.intro ⟨by omega, by omega⟩ ?_
    refine ⟨k - 1, i + 1, by omega, ⟨by omega, hk.trans k3, by omega, by omega⟩, rfl, rfl, rfl, rfl, rfl, ?_, rfl, rfl, rfl, trivial⟩
    show some (iv ((ws.take i).sum + x)) = some (iv (ws.take (i + 1)).sum)
    rw [hsum]
  · have hi : ¬ i < c.pn := by simpa using hge
    have hin : i = c.pn := by omega
    subst hin
    have hd2 : decide ((c.pn : Int) < (c.pn : Int)) = false := by simp
    have := hK H2 hk
    rw [← hd2] at this
    show K (.exit 4) [(130, .bool (decide ((c.pn : Int) < (c.pn : Int)))), (9, slv b1 c.pn c.pn), (4, pt b4), (127, .slice (some ⟨pb, 0, none⟩) c.pn pcap), (128, iv (c.pn : Int)), (129, iv (c.pn : Int)), (18, iv (ws.take c.pn).sum), (12, pt T), (10, pt b10), (13, sv)] H2
    rw [List.take_of_length_le (by omega)]
    exact this
end
end Go.Ax
namespace Go.Ax
open Go Go.RowKit Go.Proofs

section
variable {kn : FuncId → Option Bool} {lo : Nat} {H : Hp}
/-- The gates, copied behind an empty list. -/
theorem heap_append_own {a : Option Addr} {n cap b0 L : Nat} {gs : List Gt} (h0 : H.t.get b0 = some (.cells [] 81 false)) (hL : L ≤ b0) (hb0 : b0 < H.next) (hs : Sl H a n cap (gtc gs)) (hn : gs.length = n) (hb : n ≤ 1000) :
    ∃ a' cap' H' k, (∀ (m : Nat) (S : Rg) (d : Option Tmp) (x y : Operand) (ty : TypeId) (p : String), evS S x = some (.slice (some ⟨b0, 0, none⟩) 0 0) → evS S y = some (.slice a n cap) → heapOp Try.prog lo (frS m S) H ⟨d, .call ⟨.builtin .append, #[x, y], #[23, 23]⟩, ty, p, #[], none⟩ = some (.val (.slice a' n cap') H', k)) ∧
      (∀ b, k = .read b → b < H.next) ∧ Keep H H' [] ∧ Own L H' a' n (gtc gs) ∧ ∀ b, a' = some ⟨b, 0, none⟩ → b < H'.next := by
  rcases Nat.eq_zero_or_pos n with h | h
  · subst h
    have hg : gs = [] := List.eq_nil_of_length_eq_zero hn
    subst hg
    refine ⟨_, _, H, .pure, fun m S d x y ty p hx hy => heap_append_none se23 u23 hx hy hs rfl, (fun b e => by cases e), Keep.refl _ _, .inr ⟨b0, rfl, hL, hb0, _, _, h0⟩, (fun b e => by cases e; exact hb0)⟩
  · refine ⟨_, _, _, .heavy, fun m S d x y ty p hx hy => heap_append_empty se23 u23 h0 hx hy hs (by rw [gtc_len, hn]) (by omega) h, (fun b e => by cases e), (new_facts rfl).1, .inr ⟨H.next, rfl, by omega, (new_facts rfl).2.2⟩, (fun b e => by cases e; exact Nat.lt_succ_self _)⟩
theorem pure_truth {n : Nat} {S : Rg} {d : Option Tmp} {x : Operand} {p : String} {a : Option Addr} {m c : Nat} (hx : evS S x = some (.slice a m c)) :
    pureOp Try.prog (frS n S) ⟨d, .build 65 #[(0, x)], 65, p, #[], none⟩ = some (.agg #[.slice a m c, .slice none 0 0, iv 0, iv 0, iv 0, iv 0]) := by
  have hu : ∃ fs, Try.prog.underlying 65 = some (.struct fs) ∧ placesOf Try.prog fs.toList = some [(0, 1), (1, 1), (2, 1), (3, 1), (4, 1), (5, 1)] := by
    have h : (match Try.prog.underlying 65 with | some (.struct fs) => placesOf Try.prog fs.toList | _ => none) = some [(0, 1), (1, 1), (2, 1), (3, 1), (4, 1), (5, 1)] := by kernel_rfl
    split at h
    · rename_i fs e; exact ⟨fs, e, h⟩
    · cases h
  have z65 : zeroOf Try.prog 65 = some (.agg #[.slice none 0 0, .slice none 0 0, iv 0, iv 0, iv 0, iv 0]) := by kernel_rfl
  obtain ⟨fs, h1, h2⟩ := hu
  unfold pureOp
  simp only [partsOf, ev_frS, hx, z65, h1, h2]
  rfl
theorem sum_bound {ponds : List Pd} {ws : List Int} (hl : ws.length = ponds.length) (h16 : ponds.length ≤ 16) (hp : ∀ (j : Nat) p, ponds[j]? = some p → ws.getD j 0 ≤ p.full ∧ p.full ≤ 68719476736) : ws.sum ≤ 1099511627776 := by
  have := sum_le ws 68719476736 fun j hj => by
    obtain ⟨p, hx⟩ := get_some (l := ponds) (i := j) (by omega)
    have := hp j p hx
    omega
  rw [hl] at this
  omega
theorem le_get {u w : List Int} (hl : u.length = w.length) (h : ∀ (i : Nat) x y, u[i]? = some x → w[i]? = some y → x ≤ y) : Le u w := by
  refine ⟨hl, fun i => ?_⟩
  cases hi : u[i]? with
  | none =>
    have : w[i]? = none := by rw [List.getElem?_eq_none_iff] at hi ⊢; omega
    simp [List.getD, hi, this]
  | some x =>
    obtain ⟨y, hy⟩ := get_some (l := w) (i := i) (by have := get_lt hi; omega)
    rw [getD_of hi, getD_of hy]
    exact h i x y hi hy
theorem law_true {q : BQ} {ba : Option Addr} {bl bcap : Nat} {bs : List Nat} (hkn : kn 15 = some true) (hc : q.c.At H) (hl : Sl H q.la q.ln q.lcap (hrc q.hs)) (hln : q.hs.length = q.ln) (hh : ∀ h ∈ q.hs, h.At H)
    (hb : Sl H ba bl bcap (u32s bs)) (hbl : bs.length = bl) (hr : ∀ n ∈ bs, n ≤ 4294967295) (hb2 : bl ≤ 9223372036854775807) (hlo : lo ≤ H.next) :
    ∃ H', FnX Try.prog kn lo 7 [q.c.cv, q.c.wv, .slice q.la q.ln q.lcap, .slice ba bl bcap] H (.bool true) H' := by
  have key := fnX_low (kn := kn) (lo := lo) (H := H) (args := [q.c.cv, q.c.wv, .slice q.la q.ln q.lcap, .slice ba bl bcap]) (Q := fun v H' => v = .bool true) Try.func7 B7 N7 Z7 L7 (by simp) ?_
  · obtain ⟨v, H', h, rfl⟩ := key; exact ⟨H', h⟩
  intro H1 hH1; obtain ⟨k1, n1, c1⟩ := new_facts hH1; clear hH1
  have c1 : Cl H1 H.next [.slice q.c.pa q.c.pn q.c.pcap, .slice q.c.ga q.c.gn q.c.gcap] := c1
  have hn1 := k1.1
  have al : ∀ (H9 : Hp) (K : Value → Hp → Prop), K (.bool true) H9 → ∃ v H', CallsX Try.prog kn lo (.fn (.func 15) #[]) [] H9 v H' ∧ K v H' := fun H9 K h => ⟨_, _, callX_known hkn, h⟩
  refine callB many_ok ?_
  intro t H3 ht k3
  have k03 := k1.trans k3
  cases t
  rotate_left
  · refine And.intro rfl (Exists.intro (.bool true) (And.intro rfl ?_))
    refine And.intro rfl (Exists.intro (.bool true) (And.intro rfl ?_))
    refine condT ?_
    refine al _ _ ?_
    exact And.intro trivial (Exists.intro _ (And.intro rfl (rfl)))
  have hmany : q.ln ≤ 24 ∨ (200 < q.ln ∧ q.ln ≤ 205) := by
    simp [manyB] at ht; omega
  have c1 := k3.cl c1 (by simp)
  have hn3 := k3.1
  refine Exists.intro _ (Exists.intro _ (And.intro c1.of (And.intro (show row 2 [_, _] _ = some [.slice q.c.pa q.c.pn q.c.pcap, .slice q.c.ga q.c.gn q.c.gcap] from rfl) ?_)))
  obtain ⟨H4, h4, k4⟩ := great_ok (kn := kn) (lo := lo) (H := H3) (c := q.c) (k03.sl0 hl) hln (by omega) (by omega)
  refine Exists.intro _ (Exists.intro _ (And.intro (callX_args h4) ?_))
  have k04 := k03.trans k4
  have c1 := k4.cl c1 (by simp)
  have hn4 := k4.1
  cases hg : greatB q.c q.hs
  rotate_left
  · refine And.intro rfl (Exists.intro (.bool true) (And.intro rfl ?_))
    refine And.intro rfl (Exists.intro (.bool true) (And.intro rfl ?_))
    refine condT ?_
    refine al _ _ ?_
    exact And.intro trivial (Exists.intro _ (And.intro rfl (rfl)))
  refine And.intro rfl (Exists.intro (.bool false) (And.intro rfl ?_))
  intro t ht0
  cases t
  rotate_left
  · refine And.intro rfl (Exists.intro (.bool true) (And.intro rfl ?_))
    refine condT ?_
    refine al _ _ ?_
    exact And.intro trivial (Exists.intro _ (And.intro rfl (rfl)))
  have hbl0 : 0 < bl := by
    have : (bl : Int) ≠ 0 := by simpa using ht0
    omega
  refine And.intro rfl (Exists.intro (.bool false) (And.intro rfl ?_))
  refine condF ?_
  -- the run
  refine Exists.intro _ (Exists.intro _ (And.intro c1.of (And.intro (show row 2 [_, _] _ = some [.slice q.c.pa q.c.pn q.c.pcap, .slice q.c.ga q.c.gn q.c.gcap] from rfl) ?_)))
  obtain ⟨v5, H5, h5, k5, ra⟩ := run_ok (kn := kn) (lo := lo) (H := H4) (q := q) (hc.keep k04) (k04.sl0 hl) hln (fun x hx => (hh x hx).keep k04) (by omega)
  refine Exists.intro _ (Exists.intro _ (And.intro (callX_args h5) ?_))
  have k05 := k04.trans k5
  have c1 := k5.cl c1 (by simp)
  have hn5 := k5.1
  by_cases he : checkE q.c q.hs q.ln = 0
  rotate_left
  · obtain rfl := ra.bad he
    refine And.intro rfl (Exists.intro (_) (And.intro rfl ?_))
    refine And.intro rfl (Exists.intro (_) (And.intro rfl ?_))
    refine And.intro rfl (Exists.intro (_) (And.intro rfl ?_))
    intro H6 hH6; obtain ⟨k6, n6, c6⟩ := new_facts hH6; clear hH6
    obtain ⟨_, e6, l6, g6⟩ := id c6
    refine Exists.intro _ (Exists.intro _ (Exists.intro _ (And.intro g6 (And.intro (by omega) (And.intro rfl (And.intro rfl (And.intro (by simp) ?_)))))))
    intro H7 hH7; obtain ⟨k7, n7, c7⟩ := up_facts c6 hH7; clear hH7
    have c7 : Cl H7 H5.next zero8 := c7
    refine And.intro (fun _ => ?_) (fun w => absurd (show checkE q.c q.hs q.ln = 0 by simpa using w) he)
    intro t ht
    obtain rfl : t = true := by rw [← ht]; rfl
    refine Exists.intro _ (Exists.intro _ (And.intro c7.of (And.intro (show row 8 _ _ = some zero8 from rfl) ?_)))
    refine And.intro rfl (Exists.intro (.agg (List.toArray zero8)) (And.intro (by kernel_rfl) ?_))
    refine And.intro rfl (Exists.intro (.bool true) (And.intro (by kernel_rfl) ?_))
    refine And.intro rfl (Exists.intro (.bool true) (And.intro rfl ?_))
    refine al _ _ ?_
    refine And.intro rfl (Exists.intro (.bool true) (And.intro rfl ?_))
    exact And.intro trivial (Exists.intro _ (And.intro rfl (rfl)))
  obtain ⟨b1, rfl, hb1, cb1, a1, a2⟩ := ra.ok he
  obtain ⟨v, ok2, ok3⟩ := check_vd he hc.lp hc.lg hc.lw
  have h16 := v.h16; have h1p := v.h1; have hwp := v.wp; have hlw := hc.lw; have hlp := hc.lp; have h32 := v.h32
  refine And.intro rfl (Exists.intro (_) (And.intro rfl ?_))
  refine And.intro rfl (Exists.intro (_) (And.intro rfl ?_))
  refine And.intro rfl (Exists.intro (_) (And.intro rfl ?_))
  intro H6 hH6; obtain ⟨k6, n6, c6⟩ := new_facts hH6; clear hH6
  obtain ⟨_, e6, l6, g6⟩ := id c6
  refine Exists.intro _ (Exists.intro _ (Exists.intro _ (And.intro g6 (And.intro (by omega) (And.intro rfl (And.intro rfl (And.intro (by simp) ?_)))))))
  intro H7 hH7; obtain ⟨k7, n7, c7⟩ := up_facts c6 hH7; clear hH7
  have c7 : Cl H7 H5.next (flowsV q.s q.t) := c7
  refine condF ?_
  have k57 : Keep H5 H7 [] := k6.new k7 (by simp)
  have k07 := k05.trans k57
  have c1 := k57.cl c1 (by simp)
  have cb1 := k57.cl cb1 (by simp)
  have hn57 := k57.1
  refine Exists.intro _ (Exists.intro _ (And.intro c1.of (And.intro (show row 2 [_, _] _ = some [.slice q.c.pa q.c.pn q.c.pcap, .slice q.c.ga q.c.gn q.c.gcap] from rfl) ?_)))
  refine callT (refchain_ok (lo := lo) (hc.keep k07) v (by omega)) rfl ?_
  intro H8 k8
  have k08 := k07.trans k8
  have c1 := k8.cl c1 (by simp)
  have hn8 := k8.1
  refine And.intro rfl (Exists.intro (.bool false) (And.intro rfl ?_))
  refine Exists.intro _ (Exists.intro _ (And.intro c1.of (And.intro (show row 2 [_, _] _ = some [.slice q.c.pa q.c.pn q.c.pcap, .slice q.c.ga q.c.gn q.c.gcap] from rfl) ?_)))
  have hc8 := hc.keep k08
  refine callT (refwat_ok (lo := lo) (ga := q.c.ga) (gn := q.c.gn) (gcap := q.c.gcap) hc8.p hc8.lp hc8.w hc8.lw (by omega) (by omega)) ?_ ?_
  · have hvw := List.all_eq_true.1 v.w
    unfold refWaterB
    rw [Bool.and_eq_true]
    refine ⟨by simp; omega, List.all_eq_true.2 fun p hp => ?_⟩
    have := hvw p hp
    simp [withinB] at this
    simp [refWithinB]; omega
  intro H9 k9
  have k09 := k08.trans k9
  have k79 := k8.trans k9
  have c1 := k9.cl c1 (by simp)
  have c7 := k79.cl c7 (by simp)
  have cb1 := k79.cl cb1 (by simp)
  have hn9 := k9.1
  refine And.intro rfl (Exists.intro (.bool false) (And.intro rfl ?_))
  refine And.intro rfl (Exists.intro (.bool false) (And.intro rfl ?_))
  intro t ht1
  obtain rfl : t = false := by rw [← ht1]; simp
  refine And.intro rfl (Exists.intro (.bool false) (And.intro rfl ?_))
  intro t ht2
  obtain rfl : t = false := by rw [← ht2]; simp; omega
  refine And.intro rfl (Exists.intro (.bool false) (And.intro rfl ?_))
  refine condF ?_
  have c19 := c1
  -- the truth's record
  obtain ⟨Ha, hHa⟩ : ∃ Ha, H9.new (.cells [] 81 false) = Ha := ⟨_, rfl⟩
  refine And.intro rfl (Or.inr (And.intro rfl (Exists.intro _ (Exists.intro Ha (Exists.intro _ (And.intro ((heap_build0 se23 z81).trans (by rw [← hHa])) (And.intro (fun b e => by cases e) ?_)))))))
  have hga : Ha.t.get H9.next = some (.cells [] 81 false) := by
    rw [← hHa]; show (H9.t.set H9.next _).get H9.next = _; rw [Tr.get_set, if_pos rfl]
  obtain ⟨ka, na, ca⟩ := new_facts hHa
  clear hHa
  have c1 := ka.cl c1 (by simp)
  refine Exists.intro _ (Exists.intro _ (And.intro c1.of (And.intro (show [_, _][1]? = some (.slice q.c.ga q.c.gn q.c.gcap) from rfl) ?_)))
  obtain ⟨ga', gcap', Hb, kd, hap, hkd, kb, own, olt⟩ := heap_append_own (lo := lo) (L := H9.next) hga (Nat.le_refl _) (by omega) ((k09.trans ka).sl0 hc.g) hc.lg (by omega)
  refine And.intro rfl (Or.inr (And.intro (by kernel_rfl) (Exists.intro _ (Exists.intro Hb (Exists.intro _ (And.intro (hap _ _ _ _ _ _ _ rfl rfl) (And.intro hkd ?_)))))))
  refine And.intro rfl (Exists.intro (.agg #[.slice ga' q.c.gn gcap', .slice none 0 0, iv 0, iv 0, iv 0, iv 0]) (And.intro (pure_truth rfl) ?_))
  intro Hc hHc; obtain ⟨kc, nc, cc⟩ := new_facts hHc; clear hHc
  obtain ⟨_, ec, lc, gc⟩ := id cc
  have ma := ka.1; have mb := kb.1
  refine Exists.intro _ (Exists.intro _ (Exists.intro _ (And.intro gc (And.intro (by omega) (And.intro rfl (And.intro rfl (And.intro (by simp) ?_)))))))
  intro Hd hHd; obtain ⟨kd', nd, cd⟩ := up_facts cc hHd; clear hHd
  have cd : Cl Hd Hb.next [.slice ga' q.c.gn gcap', .slice none 0 0, iv 0, iv 0, iv 0, iv 0] := cd
  have kbd : Keep Hb Hd [] := kc.new kd' (by simp)
  have k9d : Keep H9 Hd [] := (ka.trans kb).trans kbd
  have m9d := k9d.1
  have c1 := kbd.cl (kb.cl c1 (by simp)) (by simp)
  have k0d := k09.trans k9d
  -- the water
  refine start_loop (F := H9) (H := Hd) (c := q.c) (T := Hb.next) (b4 := H.next) (b10 := H5.next) (lv := .slice q.la q.ln q.lcap) (ev := slv b1 q.c.wn q.c.wn) (gv := .slice ga' q.c.gn gcap') (hc.keep k09) v (k09.sl0 hb) ⟨hbl, hbl0, hr, hb2⟩ k9d cd (by omega) (by omega) ⟨rfl, rfl, rfl, rfl, rfl, rfl, rfl, rfl, rfl, rfl, rfl, trivial⟩ ?_
  intro ns pb He hnl hns kde te hpb pbn
  have kke := kde.1
  have hTd : Hb.next < Hd.next := cd.lt
  have k9e : Keep H9 He [] := k9d.new kde (fun b hb => .inr (by simp at hb; omega))
  have ownE : Own H9.next He ga' q.c.gn (gtc q.c.gs) := (own.keep kbd (fun b e => by simp)).keep kde (fun b e => by have := olt b e; simp; omega)
  have hTga : Hb.next ∉ gl ga' := fun hq => by
    rcases own with ⟨e, _⟩ | ⟨gb, e, _, _⟩
    · rw [e] at hq; simp [gl] at hq
    · rw [mem_gl e] at hq; have := olt gb e; simp at hq; omega
  have hPga : pb ∉ gl ga' := fun hq => by
    rcases own with ⟨e, _⟩ | ⟨gb, e, _, _⟩
    · rw [e] at hq; simp [gl] at hq
    · rw [mem_gl e] at hq; have := olt gb e; simp at hq; omega
  rw [hwp] at te
  have taE : TAt q.c.gn q.c.pn H9.next ⟨Hb.next, pb, q.c.pn, ga', gcap'⟩ He q.c.gs ⟨ns, 0, 0, 0, 0⟩ := ⟨te, hpb, ownE, v.lg, by simp only; omega, by simp only; omega, by simp only; omega, by simp only; omega, hTga, hPga⟩
  have hk09e := k09.trans k9e
  have c1e : Rd He H.next [.slice q.c.pa q.c.pn q.c.pcap, .slice q.c.ga q.c.gn q.c.gcap] := (kde.cl c1 (by simp; omega)).rd
  refine live_loop (F := H9) (H := He) (q := q) (p := ⟨Hb.next, pb, q.c.pn, ga', gcap'⟩) (L := H9.next) (b4 := H.next) (b10 := H5.next) (a := ns.sum) (s := ⟨ns, 0, 0, 0, 0⟩) (ev := slv b1 q.c.wn q.c.wn) (fv := iv ns.sum) (hc.keep k09) v (k09.sl0 hl) hln (fun h hm => (hh h hm).keep k09) ok3 (by omega) (k09.sl0 hb) ⟨hbl, hbl0, hr, hb2⟩ (Nat.le_refl _)
    ?_ k9e taE (by omega) ?_ ?_ ?_ ⟨rfl, rfl, rfl, rfl, rfl, rfl, rfl, rfl, rfl, trivial⟩ ?_
  · exact c19.rd
  · refine ⟨le_get (by simp [s0, endS]; omega) fun i x y hx hy => ?_, Int.le_refl _, Int.le_refl _, Int.le_refl _, Int.le_refl _⟩
    simp only [s0, endS, List.getElem?_map, Option.map_eq_some_iff] at hx
    obtain ⟨u, hu, rfl⟩ := hx
    obtain ⟨s, hs, e1, e2⟩ := hns i y hy
    rw [hu] at hs; cases hs
    simp only [endV, Bool.false_eq_true, if_false]; exact e1
  · refine ⟨le_get (by simp [s0, endS]; omega) fun i x y hx hy => ?_, Int.le_refl _, Int.le_refl _, Int.le_refl _, Int.le_refl _⟩
    simp only [s0, endS, List.getElem?_map, Option.map_eq_some_iff] at hy
    obtain ⟨u, hu, rfl⟩ := hy
    obtain ⟨s, hs, e1, e2⟩ := hns i x hx
    rw [hu] at hs; cases hs
    simp only [endV, if_true]; exact e2
  · simp [Cn]
  intro gs' s' Hf taf l1 g1 cn kef
  have kkf := kef.1
  have k9f : Keep H9 Hf [] := k9e.new kef (fun b hb => .inr (by
    rcases Nat.lt_or_ge b H9.next with q' | q'
    · exact absurd hb (taE.off q')
    · exact q'))
  have k0f := k09.trans k9f
  have hTf := taf.hT
  have hPf := taf.hP
  -- what is left
  refine Exists.intro _ (Exists.intro _ (And.intro hTf.of (And.intro (show _ = some (.slice (some ⟨pb, 0, none⟩) q.c.pn q.c.pn) from rfl) ?_)))
  have w1 := fo_len (c := q.c) (g := false) (hs := q.hs) q.ln
  have w2 := fo_len (c := q.c) (g := true) (hs := q.hs) q.ln
  have w1 : q.s.ws.length = q.c.pn := by show (foG false q.c q.hs q.ln).2.ws.length = _; omega
  have w2 : q.t.ws.length = q.c.pn := by show (foG true q.c q.hs q.ln).2.ws.length = _; omega
  have w3 := taf.lws
  have pf := pond_facts v
  refine end_loop (F := Hf) (c := q.c) (b1 := b1) (b4 := H.next) (T := Hb.next) (pb := pb) (pcap := q.c.pn) (b10 := H5.next) (l := q.s.ws.zip q.t.ws) (ws := s'.ws) (sv := iv ns.sum) v (k9f.rd cb1.rd (by simp)) (by rw [List.length_zip]; omega) (k9f.rd c19.rd (by simp)) (k0f.sl0 hc.p) hPf.rd w3 ?_ ⟨by rw [← hwp]; rfl, rfl, rfl, rfl, rfl, rfl, rfl, rfl, rfl, trivial⟩ ?_
  · intro i s p x hs hp hx
    have hi := get_lt hx
    obtain ⟨y, hy⟩ := get_some (l := q.s.ws) (i := i) (by omega)
    obtain ⟨z, hz⟩ := get_some (l := q.t.ws) (i := i) (by omega)
    have := zip2_get hy hz
    rw [this] at hs; cases hs
    have e1 := l1.w.2 i
    have e2 := g1.w.2 i
    rw [getD_of hy, getD_of hx] at e1
    rw [getD_of hx, getD_of hz] at e2
    have e3 := a1.pos y (List.mem_of_getElem? hy)
    have e4 := a2.full i p hp
    rw [getD_of hz] at e4
    exact ⟨e1, e2, e3, e4⟩
  intro Hg kfg
  have k9g := k9f.trans kfg
  have c7 := k9g.cl c7 (by simp)
  have hTg := kfg.cl hTf (by simp)
  -- the flows
  refine Exists.intro _ (Exists.intro _ (And.intro c7.of (And.intro (show row 2 (flowsV q.s q.t) _ = some [iv q.s.came, iv q.t.came] from rfl) ?_)))
  refine Exists.intro _ (Exists.intro _ (And.intro hTg.of (And.intro (show _ = some (iv s'.came) from rfl) ?_)))
  refine callT (has_ok (a := q.s.came) (b := q.t.came)) (by have := l1.cm; have := g1.cm; simp [hasB]; omega) ?_
  intro Hi ki
  have c7 := ki.cl c7 (by simp)
  have hTg := ki.cl hTg (by simp)
  refine Exists.intro _ (Exists.intro _ (And.intro c7.of (And.intro (show row 2 (flowsV q.s q.t) _ = some [iv q.s.seeped, iv q.t.seeped] from rfl) ?_)))
  refine Exists.intro _ (Exists.intro _ (And.intro hTg.of (And.intro (show _ = some (iv s'.seeped) from rfl) ?_)))
  refine callT (has_ok (a := q.s.seeped) (b := q.t.seeped)) (by have := l1.sd; have := g1.sd; simp [hasB]; omega) ?_
  intro Hj kj
  have c7 := kj.cl c7 (by simp)
  have hTg := kj.cl hTg (by simp)
  refine And.intro rfl (Exists.intro (.bool true) (And.intro rfl ?_))
  refine Exists.intro _ (Exists.intro _ (And.intro c7.of (And.intro (show row 2 (flowsV q.s q.t) _ = some [iv q.s.river, iv q.t.river] from rfl) ?_)))
  refine Exists.intro _ (Exists.intro _ (And.intro hTg.of (And.intro (show _ = some (iv s'.river) from rfl) ?_)))
  refine callT (has_ok (a := q.s.river) (b := q.t.river)) (by have := l1.rv; have := g1.rv; simp [hasB]; omega) ?_
  intro Hk kk
  have c7 := kk.cl c7 (by simp)
  have hTg := kk.cl hTg (by simp)
  refine And.intro rfl (Exists.intro (.bool true) (And.intro rfl ?_))
  refine Exists.intro _ (Exists.intro _ (And.intro c7.of (And.intro (show row 2 (flowsV q.s q.t) _ = some [iv q.s.taken, iv q.t.taken] from rfl) ?_)))
  refine Exists.intro _ (Exists.intro _ (And.intro hTg.of (And.intro (show _ = some (iv s'.taken) from rfl) ?_)))
  refine callT (has_ok (a := q.s.taken) (b := q.t.taken)) (by have := l1.tk; have := g1.tk; simp [hasB]; omega) ?_
  intro Hm km
  have hTg := km.cl hTg (by simp)
  refine And.intro rfl (Exists.intro (.bool true) (And.intro rfl ?_))
  -- nothing is lost
  have p1 := a1.c0; have p2 := a1.s0; have p3 := a1.r0; have p4 := a1.t0
  have p5 := a2.cB; have p6 := a2.sB; have p7 := a2.all
  have p8 : (q.ln : Int) * perHour ≤ 24 * perHour := by rw [perHour_eq]; omega
  rw [perHour_eq] at p5 p6 p7 p8
  have r1 := l1.cm; have r2 := g1.cm; have r3 := l1.sd; have r4 := g1.sd; have r5 := l1.rv; have r6 := g1.rv; have r7 := l1.tk; have r8 := g1.tk
  have nsum : 0 ≤ ns.sum ∧ ns.sum ≤ 1099511627776 := by
    have hin : ∀ (j : Nat) x, ns[j]? = some x → ∃ p, q.c.ponds[j]? = some p ∧ 0 ≤ x ∧ x ≤ p.full := fun j x hx => by
      obtain ⟨s, hs, e1, e2⟩ := hns j x hx
      have hj := get_lt hs
      obtain ⟨p, hp⟩ := get_some (l := q.c.ponds) (i := j) (by omega)
      have := List.all_eq_true.1 v.w (p, s) (List.mem_of_getElem? (zip2_get hp hs))
      simp [withinB] at this
      exact ⟨p, hp, by omega⟩
    refine ⟨sum_nonneg _ fun x hx => ?_, sum_bound (ponds := q.c.ponds) (by omega) (by omega) fun j p hp => ?_⟩
    · obtain ⟨j, hj, rfl⟩ := List.getElem_of_mem hx
      obtain ⟨p, _, e, _⟩ := hin j _ (List.getElem?_eq_getElem hj)
      exact e
    · have hj := get_lt hp
      obtain ⟨x, hx⟩ := get_some (l := ns) (i := j) (by omega)
      obtain ⟨p', hp', e1, e2⟩ := hin j x hx
      rw [hp] at hp'; cases hp'
      rw [getD_of hx]
      exact ⟨e2, (pf p (List.mem_of_getElem? hp)).2.2⟩
  have wsum : 0 ≤ s'.ws.sum ∧ s'.ws.sum ≤ 1099511627776 := by
    refine ⟨sum_nonneg _ fun x hx => ?_, sum_bound (ponds := q.c.ponds) (by omega) (by omega) fun j p hp => ?_⟩
    · obtain ⟨j, hj, rfl⟩ := List.getElem_of_mem hx
      have e1 := l1.w.2 j
      have e2 := (getD_sum q.s.ws j a1.pos).2
      have e3 : s'.ws.getD j 0 = s'.ws[j] := by simp [List.getD, hj]
      omega
    · have e1 := g1.w.2 j
      have e2 := a2.full j p hp
      have e3 := (pf p (List.mem_of_getElem? hp)).2.2
      exact ⟨by omega, e3⟩
  have cn : s'.ws.sum + s'.seeped + s'.river + s'.taken = ns.sum + s'.came := cn
  refine Exists.intro _ (Exists.intro _ (And.intro hTg.of (And.intro (show _ = some (iv s'.came) from rfl) ?_)))
  refine And.intro ⟨by omega, by omega⟩ ?_
  refine Exists.intro _ (Exists.intro _ (And.intro hTg.of (And.intro (show _ = some (iv s'.seeped) from rfl) ?_)))
  refine And.intro ⟨by omega, by omega⟩ ?_
  refine Exists.intro _ (Exists.intro _ (And.intro hTg.of (And.intro (show _ = some (iv s'.river) from rfl) ?_)))
  refine And.intro ⟨by omega, by omega⟩ ?_
  refine Exists.intro _ (Exists.intro _ (And.intro hTg.of (And.intro (show _ = some (iv s'.taken) from rfl) ?_)))
  refine And.intro ⟨by omega, by omega⟩ ?_
  intro t ht3
  obtain rfl : t = true := by rw [← ht3]; simp; omega
  refine And.intro rfl (Exists.intro (.bool true) (And.intro rfl ?_))
  refine al _ _ ?_
  refine And.intro rfl (Exists.intro (.bool true) (And.intro rfl ?_))
  exact And.intro trivial (Exists.intro _ (And.intro rfl (rfl)))
end
end Go.Ax

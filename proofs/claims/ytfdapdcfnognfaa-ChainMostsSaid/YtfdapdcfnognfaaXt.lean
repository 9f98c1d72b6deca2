import Derived.Test.YtfdapdcfnognfaaXs
set_option linter.all false
namespace Go.Ax
open Go Go.RowKit Go.Proofs
section
variable {kn : FuncId → Option Bool} {lo : Nat} {H : Hp} {c : Ch}
theorem refvalid_ok {la : Option Addr} {ln lcap : Nat} {hs : List Hr} (hc : c.At H) (hl : Sl H la ln lcap (hrc hs)) (hln : hs.length = ln) (hh : ∀ h ∈ hs, h.At H ∧ h.bn ≤ 1000 ∧ h.cn ≤ 1000 ∧ h.tn ≤ 1000) (hpn : c.pn ≤ 1000) (hgn : c.gn ≤ 1000) (hlo : lo ≤ H.next) :
    ∃ H', FnX Try.prog kn lo 56 [c.cv, c.wv, .slice la ln lcap] H (iv (checkE c hs ln)) H' ∧ Keep H H' [] := by
  have key := fnX_low (kn := kn) (lo := lo) (H := H) (args := [c.cv, c.wv, .slice la ln lcap]) (Q := fun v H' => v = iv (checkE c hs ln) ∧ Keep H H' []) Try.func56 B56 N56 Z56 L56 (by simp) ?_
  · obtain ⟨v, H', h, rfl, q⟩ := key; exact ⟨H', h, q⟩
  intro H1 hH1; obtain ⟨k1, n1, c1⟩ := new_facts hH1; clear hH1
  have c1 : Cl H1 H.next [.slice c.pa c.pn c.pcap, .slice c.ga c.gn c.gcap] := c1
  have m1 := k1.1
  refine And.intro (fun hgt => ?_) (fun hle => ?_)
  · exact And.intro trivial (Exists.intro _ (And.intro rfl (⟨by unfold checkE; rw [if_pos (by simpa using hgt)]; rfl, k1⟩)))
  have hln2 : ¬ ((ln : Int) > 200) := by simp at hle ⊢; omega
  have hE : checkE c hs ln = if c.ok && hs.all (fun h => hourB h c.pn c.gn) then 0 else 1 := by unfold checkE; rw [if_neg hln2]
  have hc1 := hc.keep k1
  refine Exists.intro _ (Exists.intro _ (And.intro c1.of (And.intro (show row 2 _ _ = some [.slice c.pa c.pn c.pcap, .slice c.ga c.gn c.gcap] from rfl) ?_)))
  refine callB (refchainB_ok (lo := lo) hc1.p hc1.lp hc1.g hc1.lg hpn (by omega)) ?_
  intro t2 H2 h2 k2
  have k12 := k1.trans k2
  have m2 := k12.1
  cases t2
  · repeat (refine And.intro rfl (Exists.intro (.bool true) (And.intro rfl ?_)))
    refine condT ?_
    exact And.intro trivial (Exists.intro _ (And.intro rfl (⟨by rw [hE]; simp [Ch.ok, h2, retV], k12⟩)))
  refine And.intro rfl (Exists.intro (.bool false) (And.intro rfl ?_))
  have c2 := k2.cl c1 (by simp)
  have hc2 := hc1.keep k2
  refine Exists.intro _ (Exists.intro _ (And.intro c2.of (And.intro (show row 2 _ _ = some [.slice c.pa c.pn c.pcap, .slice c.ga c.gn c.gcap] from rfl) ?_)))
  refine callB (refwat_ok (lo := lo) (ga := c.ga) (gn := c.gn) (gcap := c.gcap) hc2.p hc2.lp hc2.w hc2.lw (by omega) (by omega)) ?_
  intro t3 H3 h3 k3
  rw [water_ref] at h3
  have k13 := k12.trans k3
  have m3 := k13.1
  cases t3
  · repeat (refine And.intro rfl (Exists.intro (.bool true) (And.intro rfl ?_)))
    refine condT ?_
    exact And.intro trivial (Exists.intro _ (And.intro rfl (⟨by rw [hE]; simp [Ch.ok, h3, retV], k13⟩)))
  refine And.intro rfl (Exists.intro (.bool false) (And.intro rfl ?_))
  refine And.intro rfl (Exists.intro (.bool false) (And.intro rfl ?_))
  refine condF ?_
  have hok : c.ok = true := by simp [Ch.ok, h2, h3]
  have c3 := k3.cl c2 (by simp)
  refine loop_low (fn := Try.f56) E56_1 N56 L56x1 (fun i : Nat => [(3, pt H.next), (2, .slice la ln lcap), (7, iv i)])
    (fun k i H4 => i + k = ln ∧ Keep H3 H4 [] ∧ (hs.take i).all (fun h => hourB h c.pn c.gn) = true) ln 0 ⟨by omega, Keep.refl _ _, rfl⟩ ⟨rfl, rfl, rfl, trivial⟩ ?_
  rintro k i H4 ⟨hik, hk, hall⟩
  have hkn := hk.1
  refine And.intro (fun hlt => ?_) (fun hge => ?_)
  · have hi : i < ln := by simpa using hlt
    have hl4 := (k13.trans hk).sl0 hl
    rcases hl4 with ⟨_, h0, _⟩ | ⟨lb, rfl, hlc, _⟩
    · omega
    obtain ⟨x, hx⟩ := get_some (l := hs) (i := i) (by omega)
    have hxm := hh x (List.mem_of_getElem? hx)
    have c4 := hk.cl c3 (by simp)
    refine Exists.intro _ (Exists.intro _ (And.intro c4.of (And.intro (show row 2 _ _ = some [.slice c.pa c.pn c.pcap, .slice c.ga c.gn c.gcap] from rfl) (And.intro c4.lt ?_))))
    refine Exists.intro i (And.intro rfl (And.intro hi ?_))
    refine Exists.intro _ (Exists.intro _ (And.intro hlc.of (And.intro (row_flat (f := Hr.v) (fun _ _ => rfl) hx) (And.intro hlc.lt ?_))))
    have hx4 : x.At H4 := hxm.1.keep (k13.trans hk)
    refine callB (refhourB_ok (lo := lo) hx4 hpn hgn hxm.2.1 hxm.2.2.1 hxm.2.2.2 (by omega)) ?_
    intro t5 H5 h5 k5
    cases t5
    · refine And.intro rfl (Exists.intro (.bool true) (And.intro rfl ?_))
      refine And.intro (by repeat' first | exact True.intro | exact (fun h => h) | refine And.intro ?_ ?_) ?_
      refine condT ?_
      have := all_fail (f := fun h : Hr => hourB h c.pn c.gn) hx h5
      exact And.intro trivial (Exists.intro _ (And.intro rfl (⟨by rw [hE, this]; simp [retV], k13.trans (hk.trans k5)⟩)))
    · refine And.intro rfl (Exists.intro (.bool false) (And.intro rfl ?_))
      refine And.intro (by repeat' first | exact True.intro | exact (fun h => h) | refine And.intro ?_ ?_) ?_
      refine condF ?_
      refine And.intro ⟨by omega, by omega⟩ ?_
      refine ⟨k - 1, i + 1, by omega, ⟨by omega, hk.trans k5, ?_⟩, rfl, rfl, rfl, trivial⟩
      rw [all_step hx, hall, h5]; rfl
  · have hi : ¬ i < ln := by simpa using hge
    have e1 : hs.take i = hs := List.take_of_length_le (by omega)
    rw [e1] at hall
    exact And.intro trivial (Exists.intro _ (And.intro rfl (⟨by rw [hE, hok, hall]; rfl, k13.trans hk⟩)))
end
end Go.Ax
namespace Go.Ax
open Go Go.RowKit Go.Proofs
theorem inB_least (y f : Int) : inB y 0 f = (!(decide (y < 0)) && !(decide (y > f))) := by
  rw [Bool.eq_iff_iff]; simp [inB]
section
variable {kn : FuncId → Option Bool} {lo : Nat} {H : Hp}
theorem refleast_ok {pa ga ma : Option Addr} {pn pcap gn gcap mn mcap : Nat} {ponds : List Pd} {ms : List Int} (hp : Sl H pa pn pcap (pdc ponds)) (hpn : ponds.length = pn) (hm : Sl H ma mn mcap (ints ms)) (hmn : ms.length = mn) (hb : pn ≤ 1000) (hlo : lo ≤ H.next) :
    ∃ H', FnX Try.prog kn lo 60 [chv pa pn pcap ga gn gcap, .slice ma mn mcap] H (.bool (leastB ponds ms pn mn)) H' ∧ Keep H H' [] := by
  have key := fnX_low (kn := kn) (lo := lo) (H := H) (args := [chv pa pn pcap ga gn gcap, .slice ma mn mcap]) (Q := fun v H' => v = .bool (leastB ponds ms pn mn) ∧ Keep H H' []) Try.func60 B60 N60 Z60 L60 (by simp) ?_
  · obtain ⟨v, H', h, rfl, q⟩ := key; exact ⟨H', h, q⟩
  intro H1 hH1; obtain ⟨k1, n1, c1⟩ := new_facts hH1; clear hH1
  have c1 : Cl H1 H.next [.slice pa pn pcap, .slice ga gn gcap] := c1
  have m1 := k1.1
  refine Exists.intro _ (Exists.intro _ (And.intro c1.of (And.intro (show _ = some (.slice pa pn pcap) from rfl) ?_)))
  refine And.intro (fun hne => ?_) (fun heq => ?_)
  · exact And.intro trivial (Exists.intro _ (And.intro rfl (⟨by simp only [leastB, hne]; rfl, k1⟩)))
  have hwp : mn = pn := by simp at heq; omega
  refine loop_low (fn := Try.f60) E60_1 N60 L60x1 (fun i : Nat => [(2, pt H.next), (1, .slice ma mn mcap), (5, iv i)])
    (fun k i H2 => i + k = pn ∧ Keep H1 H2 [] ∧ ((ponds.zip ms).take i).all (fun p => !(decide (p.2 < 0)) && !(decide (p.2 > p.1.full))) = true) pn 0 ⟨by omega, Keep.refl _ _, rfl⟩ ⟨rfl, rfl, rfl, trivial⟩ ?_
  rintro k i H2 ⟨hik, hk, hall⟩
  have hkn := hk.1
  refine And.intro (fun hlt => ?_) (fun hge => ?_)
  · have hi : i < mn := by simpa using hlt
    have c2 := hk.cl c1 (by simp)
    have hp2 := hk.sl0 (k1.sl0 hp)
    have hw2 := hk.sl0 (k1.sl0 hm)
    rcases hp2 with ⟨_, h0, _⟩ | ⟨pb, rfl, hpc, _⟩
    · omega
    rcases hw2 with ⟨_, h0, _⟩ | ⟨wb, rfl, hwc, _⟩
    · omega
    obtain ⟨x, hx⟩ := get_some (l := ponds) (i := i) (by omega)
    obtain ⟨y, hy⟩ := get_some (l := ms) (i := i) (by omega)
    have hz := zip2_get hx hy
    have hi2 : i < pn := by omega
    refine Exists.intro i (And.intro rfl (And.intro hi ?_))
    refine Exists.intro _ (Exists.intro _ (And.intro hwc.of (And.intro (show _ = some (iv y) by rw [Nat.zero_add, Nat.mul_one, ints_get (by omega), getD_of hy]) (And.intro hwc.lt ?_))))
    refine Exists.intro _ (Exists.intro _ (And.intro c2.rd.of (And.intro (show _ = some (.slice (some ⟨pb, 0, none⟩) pn pcap) from rfl) (And.intro c2.rd.lt ?_))))
    refine Exists.intro i (And.intro rfl (And.intro hi2 ?_))
    refine Exists.intro _ (Exists.intro _ (And.intro hpc.of (And.intro (show _ = some (iv x.full) from row_get (row_flat (f := Pd.v) (fun _ _ => rfl) hx) (j := 0) rfl) (And.intro hpc.lt ?_))))
    refine callB (in_ok (n := y) (a := 0) (b := x.full)) ?_
    intro t5 H5 h5 k5
    rw [inB_least] at h5
    cases t5
    · refine And.intro rfl (Exists.intro (.bool true) (And.intro rfl ?_))
      refine And.intro (by repeat' first | exact True.intro | exact (fun h => h) | refine And.intro ?_ ?_) ?_
      refine condT ?_
      have := all_fail (f := fun p : Pd × Int => !(decide (p.2 < 0)) && !(decide (p.2 > p.1.full))) hz h5
      exact And.intro trivial (Exists.intro _ (And.intro rfl (⟨by simp only [leastB, this, Bool.and_false]; rfl, k1.trans (hk.trans k5)⟩)))
    · refine And.intro rfl (Exists.intro (.bool false) (And.intro rfl ?_))
      refine And.intro (by repeat' first | exact True.intro | exact (fun h => h) | refine And.intro ?_ ?_) ?_
      refine condF ?_
      refine And.intro ⟨by omega, by omega⟩ ?_
      refine ⟨k - 1, i + 1, by omega, ⟨by omega, hk.trans k5, ?_⟩, rfl, rfl, rfl, trivial⟩
      rw [all_step hz, hall, h5]; rfl
  · have hi : ¬ i < mn := by simpa using hge
    rw [List.take_of_length_le (by simp; omega)] at hall
    refine And.intro trivial (Exists.intro _ (And.intro rfl ⟨?_, k1.trans hk⟩))
    unfold leastB
    rw [hall, hwp]; simp [retV]
end
end Go.Ax
namespace Go.Ax
open Go Go.RowKit Go.Proofs
/-- what u has counted, added -/
def St.plus (s u : St) : St := ⟨s.ws, s.came + u.came, s.seeped + u.seeped, s.river + u.river, s.taken + u.taken⟩
theorem fold_plus {α : Type} {f : St → α → St} (h : ∀ s u x, f (s.plus u) x = (f s x).plus u) : ∀ (l : List α) (s u : St), l.foldl f (s.plus u) = (l.foldl f s).plus u
  | [], _, _ => rfl
  | x :: l, s, u => by rw [List.foldl_cons, List.foldl_cons, h, fold_plus h l]
theorem moveR_plus (r u to l : Int) : moveR (r + u) to l = moveR r to l + u := by unfold moveR; split <;> omega
theorem come_plus (s u : St) (p : Int × Nat) : comeS (s.plus u) p = (comeS s p).plus u := by
  simp only [comeS, St.plus, St.mk.injEq, true_and, and_true]; omega
theorem flow_plus (s u : St) (g : Gt) : flowS (s.plus u) g = (flowS s g).plus u := by
  simp only [flowS, St.plus, moveR_plus]
theorem take_plus (s u : St) (t : Tk) : takeS (s.plus u) t = (takeS s t).plus u := by
  simp only [takeS, St.plus, St.mk.injEq, true_and]; omega
theorem seep_plus (g : Bool) (s u : St) (p : Pd × Nat) : seepS g (s.plus u) p = (seepS g s p).plus u := by
  simp only [seepS, St.plus, St.mk.injEq, true_and, and_true]; omega
theorem spill_plus (s u : St) (p : Pd × Nat) : spillS (s.plus u) p = (spillS s p).plus u := by
  simp only [spillS, spillL, St.plus, moveR_plus]
theorem hour_plus {c : Ch} {g : Bool} {h : Hr} {gs : List Gt} (s u : St) : hourF c g h gs (s.plus u) = (hourF c g h gs s).plus u := by
  unfold hourF hourS spillsS seepsS takesS gatesS comesS
  rw [fold_plus (fun s u p => come_plus s u p), fold_plus (fun s u p => flow_plus s u p), fold_plus (fun s u p => take_plus s u p), fold_plus (fun s u p => seep_plus _ s u p), fold_plus (fun s u p => spill_plus s u p)]
theorem endS_zip (a b : List Int) (h : a.length = b.length) : endS false (a.zip b) = a ∧ endS true (a.zip b) = b := by
  constructor
  · rw [show endS false (a.zip b) = (a.zip b).map Prod.fst from rfl, List.map_fst_zip (by omega)]
  · rw [show endS true (a.zip b) = (a.zip b).map Prod.snd from rfl, List.map_snd_zip (by omega)]
theorem foG_step {g : Bool} {c : Ch} {hs : List Hr} {i : Nat} {h : Hr} (hx : hs[i]? = some h) : foG g c hs (i + 1) = (boardsF h (foG g c hs i).1, hourF c g h (foG g c hs i).1 (foG g c hs i).2) := by
  unfold foG
  rw [List.take_add_one, hx]
  simp [List.foldl_append]
/-- the hour from what the hours before left, counted anew, and what they had counted -/
theorem foG_plus {g : Bool} {c : Ch} {hs : List Hr} {i : Nat} {h : Hr} (hx : hs[i]? = some h) : (foG g c hs (i + 1)).2 = (hourF c g h (foG g c hs i).1 ⟨(foG g c hs i).2.ws, 0, 0, 0, 0⟩).plus (foG g c hs i).2 := by
  rw [foG_step hx, ← hour_plus]
  simp [St.plus]
theorem foG_gates {c : Ch} {hs : List Hr} : ∀ i, (foG false c hs i).1 = (foG true c hs i).1
  | 0 => rfl
  | i + 1 => by
    cases hx : hs[i]? with
    | some h => rw [foG_step hx, foG_step hx, foG_gates i]
    | none =>
      have e : ∀ g, foG g c hs (i + 1) = foG g c hs i := fun g => by
        unfold foG; rw [List.take_add_one, hx]; simp
      rw [e, e, foG_gates i]
end Go.Ax
namespace Go.Ax
open Go Go.RowKit Go.Proofs
end Go.Ax
namespace Go.Ax
open Go Go.RowKit Go.Proofs
end Go.Ax
namespace Go.Ax
open Go Go.RowKit Go.Proofs
theorem sides_pond {c : Ch} (v : c.Vd) : All2 (PdLe false true) c.ponds c.ponds := by
  refine all2_of _ _ rfl fun i x y hx hy => ?_
  rw [hx] at hy; cases hy
  have := List.all_eq_true.1 v.p (x, i) (List.mem_zipIdx_iff_getElem?.2 hx)
  simp [pondB, withinB] at this
  constructor <;> first | rfl | (intro _; rfl) | (simp; omega) | omega
theorem sides_hour {h : Hr} {pn gn : Nat} (hv : hourB h pn gn = true) : HrLe false true h h := by
  have hf := hour_facts hv
  refine ⟨rfl, rfl, end_le rfl fun i x y hx hy => ?_, fun t ht => ?_⟩
  · rw [hx] at hy; cases hy
    have := hf x (List.mem_of_getElem? hx)
    simp [endV]; omega
  · simp only [hourB, Bool.and_eq_true] at hv
    have := List.all_eq_true.1 hv.2 t ht
    simp [waterB] at this; omega
theorem nn_of {ps : List Pd} {B : Int} {s : St} (a : Ahead ps B s) : NN s := fun i => by
  rcases Nat.lt_or_ge i s.ws.length with q | q
  · have := a.pos s.ws[i] (List.getElem_mem q)
    simpa [List.getD, q] using this
  · simp [List.getD, List.getElem?_eq_none q]
theorem fo_sides {c : Ch} (v : c.Vd) {hs : List Hr} (hh : ∀ h ∈ hs, hourB h c.pn c.gn = true) (hcl : ∀ h ∈ hs, h.cs.length = h.cn) : ∀ i : Nat, i ≤ 200 → LeS (foG false c hs i).2 (foG true c hs i).2
  | 0, _ => by
    have hall := List.all_eq_true.1 v.w
    have e : ∀ i, (endS false c.ss).getD i 0 ≤ (endS true c.ss).getD i 0 := fun i => by
      cases hx : c.ss[i]? with
      | none => simp [endS, List.getD, hx]
      | some x =>
        obtain ⟨p, hp⟩ := get_some (l := c.ponds) (i := i) (by have := (List.getElem?_eq_some_iff.mp hx).1; rw [v.lp, ← v.wp, ← v.lw]; exact this)
        have := hall (p, x) (List.mem_of_getElem? (zip2_get hp hx))
        simp [withinB] at this
        simp [endS, List.getD, hx, endV]; omega
    have e2 : LeS (s0 false c) (s0 true c) := ⟨⟨by simp [s0, endS], e⟩, Int.le_refl _, Int.le_refl _, Int.le_refl _, Int.le_refl _⟩
    simpa [foG] using e2
  | i + 1, hi => by
    have ih := fo_sides v hh hcl i (by omega)
    obtain ⟨a1, g1, _⟩ := fo_ahead v hh hcl true i (by omega)
    cases e : hs[i]? with
    | none =>
      have e : ∀ g, foG g c hs (i + 1) = foG g c hs i := fun g => by
        unfold foG; rw [List.take_add_one, e]; simp
      rw [e, e]; exact ih
    | some h =>
      have hv := hh h (List.mem_of_getElem? e)
      rw [foG_step e, foG_step e]
      have hb := boards_good g1 hv
      rw [foG_gates]
      exact (hour_le (sides_pond v) (sides_hour hv) (fun g hm => gate_nn (List.all_eq_true.1 hb g hm)) ih (nn_of a1)).1
/-- the chain as it stands after i hours: where it lies is told by the caller -/
def Ch.after (c : Ch) (hs : List Hr) (i : Nat) (ga : Option Addr) (gcap : Nat) (wa : Option Addr) (wcap : Nat) : Ch :=
  { c with ga := ga, gcap := gcap, wa := wa, wcap := wcap, gs := (foG false c hs i).1, ss := (foG false c hs i).2.ws.zip (foG true c hs i).2.ws }
theorem after_vd {c : Ch} (v : c.Vd) {hs : List Hr} (hh : ∀ h ∈ hs, hourB h c.pn c.gn = true) (hcl : ∀ h ∈ hs, h.cs.length = h.cn) {i : Nat} (hi : i ≤ 200) (ga : Option Addr) (gcap : Nat) (wa : Option Addr) (wcap : Nat) : (c.after hs i ga gcap wa wcap).Vd := by
  obtain ⟨a1, g1, l1⟩ := fo_ahead v hh hcl false i hi
  obtain ⟨a2, g2, l2⟩ := fo_ahead v hh hcl true i hi
  have le := fo_sides v hh hcl i hi
  have e1 := a1.len; have e2 := a2.len
  have lp := v.lp; have wp := v.wp
  refine ⟨v.h16, v.h1, v.h32, v.wp, v.lp, l1, ?_, v.p, g1, ?_⟩
  · show ((foG false c hs i).2.ws.zip (foG true c hs i).2.ws).length = c.wn
    rw [List.length_zip]; omega
  · refine List.all_eq_true.2 fun x hx => ?_
    obtain ⟨j, hj⟩ := List.getElem?_of_mem hx
    obtain ⟨p, x1, x2⟩ := x
    obtain ⟨h1, h2⟩ := List.getElem?_zip_eq_some.mp hj
    obtain ⟨h3, h4⟩ := List.getElem?_zip_eq_some.mp h2
    have q1 := a1.pos x1 (List.mem_of_getElem? h3)
    have q2 := a2.full j p h1
    have q3 := le.w.2 j
    simp [List.getD, h3, h4] at q2 q3
    simp [withinB]; omega
end Go.Ax
namespace Go.Ax
open Go Go.RowKit Go.Proofs
/-- Where the water and the gates lie. -/
structure RW where
  ga : Option Addr
  gcap : Nat
  wa : Option Addr
  wcap : Nat
  i : Nat
end Go.Ax
namespace Go.Ax
open Go Go.RowKit Go.Proofs
theorem zip_self : ∀ (l : List (Int × Int)), (l.map Prod.fst).zip (l.map Prod.snd) = l
  | [] => rfl
  | x :: l => by simp [zip_self l]
end Go.Ax
namespace Go.Ax
open Go Go.RowKit Go.Proofs
end Go.Ax
namespace Go.Ax
open Go Go.RowKit Go.Proofs
end Go.Ax
namespace Go.Ax
open Go Go.RowKit Go.Proofs
end Go.Ax
namespace Go.Ax
open Go Go.RowKit Go.Proofs
end Go.Ax

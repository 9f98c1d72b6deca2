import Derived.Test.YtfdapdcfnognfaaXs
set_option linter.all false
namespace Go.Ax
open Go Go.RowKit Go.Proofs
section
variable {kn : FuncId → Option Bool} {lo : Nat} {H : Hp} {c : Ch}
theorem res_cell35 {S : Rg} {H : Hp} {t y : Nat} {ds : List Value} (h8 : lk S t = some (pt y)) (hd : ds.length = 2) (q : Rd H y ds) : resS Try.prog S H [.cell t 35] = some [.agg ds.toArray] := by
  obtain ⟨j, hj, ht⟩ := i35s
  have e2 := load_all ag35 hj (cs := ds) (by omega) q
  simp only [resS, h8, e2]
theorem plus_ok {a b x y : Int} (h1 : InR (a + x)) (h2 : InR (b + y)) (hlo : lo ≤ H.next) : ∃ H', FnX Try.prog kn lo 57 [sp a b, sp x y] H (sp (a + x) (b + y)) H' ∧ Keep H H' [] := by
  have key := fnX_low (kn := kn) (lo := lo) (H := H) (args := [sp a b, sp x y]) (Q := fun v H' => v = sp (a + x) (b + y) ∧ Keep H H' []) Try.func57 B57 N57 Z57 L57 (by simp) ?_
  · obtain ⟨v, H', h, rfl, q⟩ := key; exact ⟨H', h, q⟩
  intro H1 hH1; obtain ⟨k1, n1, c1⟩ := new_facts hH1; clear hH1
  intro H2 hH2; obtain ⟨k2, n2, c2⟩ := new_facts hH2; clear hH2
  intro H3 hH3; obtain ⟨k3, n3, c3⟩ := new_facts hH3; clear hH3
  have c1 : Cl H3 H.next [iv a, iv b] := k3.cl (k2.cl c1 (by simp)) (by simp)
  have c2 : Cl H3 H1.next [iv x, iv y] := k3.cl c2 (by simp)
  have m1 := k1.1; have m2 := k2.1; have m3 := k3.1
  refine Exists.intro _ (Exists.intro _ (And.intro c1.of (And.intro (show _ = some (iv a) from rfl) ?_)))
  refine Exists.intro _ (Exists.intro _ (And.intro c2.of (And.intro (show _ = some (iv x) from rfl) ?_)))
  refine And.intro h1 ?_
  refine Exists.intro _ (Exists.intro _ (And.intro c1.of (And.intro (show _ = some (iv b) from rfl) ?_)))
  refine Exists.intro _ (Exists.intro _ (And.intro c2.of (And.intro (show _ = some (iv y) from rfl) ?_)))
  refine And.intro h2 ?_
  refine And.intro rfl (Exists.intro (sp (a + x) (b + y)) (And.intro (by kernel_rfl) ?_))
  obtain ⟨_, e4, l4, g4⟩ := id c3
  refine Exists.intro _ (Exists.intro _ (Exists.intro _ (And.intro g4 (And.intro (by omega) (And.intro rfl (And.intro rfl (And.intro (by simp) ?_)))))))
  intro H4 hH4; obtain ⟨k4, n4, c4⟩ := up_facts c3 hH4; clear hH4
  have c4 : Cl H4 H2.next [iv (a + x), iv (b + y)] := c4
  refine And.intro trivial (Exists.intro _ (And.intro (res_cell35 (y := H2.next) rfl rfl c4.rd) ⟨rfl, ((k1.trans k2).trans k3).new k4 (fun b hb => .inr (by simp at hb; omega))⟩))
theorem refvalid_ok {la : Option Addr} {ln lcap : Nat} {hs : List Hr} (hc : c.At H) (hl : Sl H la ln lcap (hrc hs)) (hln : hs.length = ln) (hh : ∀ h ∈ hs, h.At H ∧ h.bn ≤ 1000 ∧ h.cn ≤ 1000 ∧ h.tn ≤ 1000) (hpn : c.pn ≤ 1000) (hgn : c.gn ≤ 1000) (hlo : lo ≤ H.next) :
    ∃ H', FnX Try.prog kn lo 56 [c.cv, c.wv, .slice la ln lcap] H (iv (checkE c hs ln)) H' ∧ Keep H H' [] := by
  have key := fnX_low (kn := kn) (lo := lo) (H := H) (args := [c.cv, c.wv, .slice la ln lcap]) (Q := fun v H' => v = iv (checkE c hs ln) ∧ Keep H H' []) Try.func56 B56 N56 Z56 L56 (by simp) ?_
  · obtain ⟨v, H', h, rfl, q⟩ := key; exact ⟨H', h, q⟩
  intro H1 hH1; obtain ⟨k1, n1, c1⟩ := new_facts hH1; clear hH1
  have c1 : Cl H1 H.next [.slice c.pa c.pn c.pcap, .slice c.ga c.gn c.gcap] := c1
  have m1 := k1.1
  refine And.intro (fun hgt => ?_) (fun hle => ?_)
  · exact And.intro trivial (Exists.intro _ (And.intro rfl (⟨by unfold checkE; rw [if_pos (by simpa using hgt)]; rfl, k1⟩)))
  have hln2 : ¬ ((ln : Int) > 200) := by simp at hle ⊢; omega
  have hE : checkE c hs ln = if c.ok && hs.all (fun h => hourB h c.pn c.gn) then 0 else 1 := by unfold checkE; rw [if_neg hln2]
  have hc1 := hc.keep k1
  refine Exists.intro _ (Exists.intro _ (And.intro c1.of (And.intro (show row 2 _ _ = some [.slice c.pa c.pn c.pcap, .slice c.ga c.gn c.gcap] from rfl) ?_)))
  refine callB (refchainB_ok (lo := lo) hc1.p hc1.lp hc1.g hc1.lg hpn (by omega)) ?_
  intro t2 H2 h2 k2
  have k12 := k1.trans k2
  have m2 := k12.1
  cases t2
  · repeat (refine And.intro rfl (Exists.intro (.bool true) (And.intro rfl ?_)))
    refine condT ?_
    exact And.intro trivial (Exists.intro _ (And.intro rfl (⟨by rw [hE]; simp [Ch.ok, h2, retV], k12⟩)))
  refine And.intro rfl (Exists.intro (.bool false) (And.intro rfl ?_))
  have c2 := k2.cl c1 (by simp)
  have hc2 := hc1.keep k2
  refine Exists.intro _ (Exists.intro _ (And.intro c2.of (And.intro (show row 2 _ _ = some [.slice c.pa c.pn c.pcap, .slice c.ga c.gn c.gcap] from rfl) ?_)))
  refine callB (refwat_ok (lo := lo) (ga := c.ga) (gn := c.gn) (gcap := c.gcap) hc2.p hc2.lp hc2.w hc2.lw (by omega) (by omega)) ?_
  intro t3 H3 h3 k3
  rw [water_ref] at h3
  have k13 := k12.trans k3
  have m3 := k13.1
  cases t3
  · repeat (refine And.intro rfl (Exists.intro (.bool true) (And.intro rfl ?_)))
    refine condT ?_
    exact And.intro trivial (Exists.intro _ (And.intro rfl (⟨by rw [hE]; simp [Ch.ok, h3, retV], k13⟩)))
  refine And.intro rfl (Exists.intro (.bool false) (And.intro rfl ?_))
  refine And.intro rfl (Exists.intro (.bool false) (And.intro rfl ?_))
  refine condF ?_
  have hok : c.ok = true := by simp [Ch.ok, h2, h3]
  have c3 := k3.cl c2 (by simp)
  refine loop_low (fn := Try.f56) E56_1 N56 L56x1 (fun i : Nat => [(3, pt H.next), (2, .slice la ln lcap), (7, iv i)])
    (fun k i H4 => i + k = ln ∧ Keep H3 H4 [] ∧ (hs.take i).all (fun h => hourB h c.pn c.gn) = true) ln 0 ⟨by omega, Keep.refl _ _, rfl⟩ ⟨rfl, rfl, rfl, trivial⟩ ?_
  rintro k i H4 ⟨hik, hk, hall⟩
  have hkn := hk.1
  refine And.intro (fun hlt => ?_) (fun hge => ?_)
  · have hi : i < ln := by simpa using hlt
    have hl4 := (k13.trans hk).sl0 hl
    rcases hl4 with ⟨_, h0, _⟩ | ⟨lb, rfl, hlc, _⟩
    · omega
    obtain ⟨x, hx⟩ := get_some (l := hs) (i := i) (by omega)
    have hxm := hh x (List.mem_of_getElem? hx)
    have c4 := hk.cl c3 (by simp)
    refine Exists.intro _ (Exists.intro _ (And.intro c4.of (And.intro (show row 2 _ _ = some [.slice c.pa c.pn c.pcap, .slice c.ga c.gn c.gcap] from rfl) (And.intro c4.lt ?_))))
    refine Exists.intro i (And.intro rfl (And.intro hi ?_))
    refine Exists.intro _ (Exists.intro _ (And.intro hlc.of (And.intro (row_flat (f := Hr.v) (fun _ _ => rfl) hx) (And.intro hlc.lt ?_))))
    have hx4 : x.At H4 := hxm.1.keep (k13.trans hk)
    refine callB (refhourB_ok (lo := lo) hx4 hpn hgn hxm.2.1 hxm.2.2.1 hxm.2.2.2 (by omega)) ?_
    intro t5 H5 h5 k5
    cases t5
    · refine And.intro rfl (Exists.intro (.bool true) (And.intro rfl ?_))
      refine And.intro (by repeat' first | exact True.intro | exact (fun h => h) | refine And.intro ?_ ?_) ?_
      refine condT ?_
      have := all_fail (f := fun h : Hr => hourB h c.pn c.gn) hx h5
      exact And.intro trivial (Exists.intro _ (And.intro rfl (⟨by rw [hE, this]; simp [retV], k13.trans (hk.trans k5)⟩)))
    · refine And.intro rfl (Exists.intro (.bool false) (And.intro rfl ?_))
      refine And.intro (by repeat' first | exact True.intro | exact (fun h => h) | refine And.intro ?_ ?_) ?_
      refine condF ?_
      refine And.intro ⟨by omega, by omega⟩ ?_
      refine ⟨k - 1, i + 1, by omega, ⟨by omega, hk.trans k5, ?_⟩, rfl, rfl, rfl, trivial⟩
      rw [all_step hx, hall, h5]; rfl
  · have hi : ¬ i < ln := by simpa using hge
    have e1 : hs.take i = hs := List.take_of_length_le (by omega)
    rw [e1] at hall
    exact And.intro trivial (Exists.intro _ (And.intro rfl (⟨by rw [hE, hok, hall]; rfl, k13.trans hk⟩)))
end
end Go.Ax
namespace Go.Ax
open Go Go.RowKit Go.Proofs
theorem inB_least (y f : Int) : inB y 0 f = (!(decide (y < 0)) && !(decide (y > f))) := by
  rw [Bool.eq_iff_iff]; simp [inB]
section
variable {kn : FuncId → Option Bool} {lo : Nat} {H : Hp}
theorem refleast_ok {pa ga ma : Option Addr} {pn pcap gn gcap mn mcap : Nat} {ponds : List Pd} {ms : List Int} (hp : Sl H pa pn pcap (pdc ponds)) (hpn : ponds.length = pn) (hm : Sl H ma mn mcap (ints ms)) (hmn : ms.length = mn) (hb : pn ≤ 1000) (hlo : lo ≤ H.next) :
    ∃ H', FnX Try.prog kn lo 60 [chv pa pn pcap ga gn gcap, .slice ma mn mcap] H (.bool (leastB ponds ms pn mn)) H' ∧ Keep H H' [] := by
  have key := fnX_low (kn := kn) (lo := lo) (H := H) (args := [chv pa pn pcap ga gn gcap, .slice ma mn mcap]) (Q := fun v H' => v = .bool (leastB ponds ms pn mn) ∧ Keep H H' []) Try.func60 B60 N60 Z60 L60 (by simp) ?_
  · obtain ⟨v, H', h, rfl, q⟩ := key; exact ⟨H', h, q⟩
  intro H1 hH1; obtain ⟨k1, n1, c1⟩ := new_facts hH1; clear hH1
  have c1 : Cl H1 H.next [.slice pa pn pcap, .slice ga gn gcap] := c1
  have m1 := k1.1
  refine Exists.intro _ (Exists.intro _ (And.intro c1.of (And.intro (show _ = some (.slice pa pn pcap) from rfl) ?_)))
  refine And.intro (fun hne => ?_) (fun heq => ?_)
  · exact And.intro trivial (Exists.intro _ (And.intro rfl (⟨by simp only [leastB, hne]; rfl, k1⟩)))
  have hwp : mn = pn := by simp at heq; omega
  refine loop_low (fn := Try.f60) E60_1 N60 L60x1 (fun i : Nat => [(2, pt H.next), (1, .slice ma mn mcap), (5, iv i)])
    (fun k i H2 => i + k = pn ∧ Keep H1 H2 [] ∧ ((ponds.zip ms).take i).all (fun p => !(decide (p.2 < 0)) && !(decide (p.2 > p.1.full))) = true) pn 0 ⟨by omega, Keep.refl _ _, rfl⟩ ⟨rfl, rfl, rfl, trivial⟩ ?_
  rintro k i H2 ⟨hik, hk, hall⟩
  have hkn := hk.1
  refine And.intro (fun hlt => ?_) (fun hge => ?_)
  · have hi : i < mn := by simpa using hlt
    have c2 := hk.cl c1 (by simp)
    have hp2 := hk.sl0 (k1.sl0 hp)
    have hw2 := hk.sl0 (k1.sl0 hm)
    rcases hp2 with ⟨_, h0, _⟩ | ⟨pb, rfl, hpc, _⟩
    · omega
    rcases hw2 with ⟨_, h0, _⟩ | ⟨wb, rfl, hwc, _⟩
    · omega
    obtain ⟨x, hx⟩ := get_some (l := ponds) (i := i) (by omega)
    obtain ⟨y, hy⟩ := get_some (l := ms) (i := i) (by omega)
    have hz := zip2_get hx hy
    have hi2 : i < pn := by omega
    refine Exists.intro i (And.intro rfl (And.intro hi ?_))
    refine Exists.intro _ (Exists.intro _ (And.intro hwc.of (And.intro (show _ = some (iv y) by rw [Nat.zero_add, Nat.mul_one, ints_get (by omega), getD_of hy]) (And.intro hwc.lt ?_))))
    refine Exists.intro _ (Exists.intro _ (And.intro c2.rd.of (And.intro (show _ = some (.slice (some ⟨pb, 0, none⟩) pn pcap) from rfl) (And.intro c2.rd.lt ?_))))
    refine Exists.intro i (And.intro rfl (And.intro hi2 ?_))
    refine Exists.intro _ (Exists.intro _ (And.intro hpc.of (And.intro (show _ = some (iv x.full) from row_get (row_flat (f := Pd.v) (fun _ _ => rfl) hx) (j := 0) rfl) (And.intro hpc.lt ?_))))
    refine callB (in_ok (n := y) (a := 0) (b := x.full)) ?_
    intro t5 H5 h5 k5
    rw [inB_least] at h5
    cases t5
    · refine And.intro rfl (Exists.intro (.bool true) (And.intro rfl ?_))
      refine And.intro (by repeat' first | exact True.intro | exact (fun h => h) | refine And.intro ?_ ?_) ?_
      refine condT ?_
      have := all_fail (f := fun p : Pd × Int => !(decide (p.2 < 0)) && !(decide (p.2 > p.1.full))) hz h5
      exact And.intro trivial (Exists.intro _ (And.intro rfl (⟨by simp only [leastB, this, Bool.and_false]; rfl, k1.trans (hk.trans k5)⟩)))
    · refine And.intro rfl (Exists.intro (.bool false) (And.intro rfl ?_))
      refine And.intro (by repeat' first | exact True.intro | exact (fun h => h) | refine And.intro ?_ ?_) ?_
      refine condF ?_
      refine And.intro ⟨by omega, by omega⟩ ?_
      refine ⟨k - 1, i + 1, by omega, ⟨by omega, hk.trans k5, ?_⟩, rfl, rfl, rfl, trivial⟩
      rw [all_step hz, hall, h5]; rfl
  · have hi : ¬ i < mn := by simpa using hge
    rw [List.take_of_length_le (by simp; omega)] at hall
    refine And.intro trivial (Exists.intro _ (And.intro rfl ⟨?_, k1.trans hk⟩))
    unfold leastB
    rw [hall, hwp]; simp [retV]
end
end Go.Ax
namespace Go.Ax
open Go Go.RowKit Go.Proofs
/-- what u has counted, added -/
def St.plus (s u : St) : St := ⟨s.ws, s.came + u.came, s.seeped + u.seeped, s.river + u.river, s.taken + u.taken⟩
theorem fold_plus {α : Type} {f : St → α → St} (h : ∀ s u x, f (s.plus u) x = (f s x).plus u) : ∀ (l : List α) (s u : St), l.foldl f (s.plus u) = (l.foldl f s).plus u
  | [], _, _ => rfl
  | x :: l, s, u => by rw [List.foldl_cons, List.foldl_cons, h, fold_plus h l]
theorem moveR_plus (r u to l : Int) : moveR (r + u) to l = moveR r to l + u := by unfold moveR; split <;> omega
theorem come_plus (s u : St) (p : Int × Nat) : comeS (s.plus u) p = (comeS s p).plus u := by
  simp only [comeS, St.plus, St.mk.injEq, true_and, and_true]; omega
theorem flow_plus (s u : St) (g : Gt) : flowS (s.plus u) g = (flowS s g).plus u := by
  simp only [flowS, St.plus, moveR_plus]
theorem take_plus (s u : St) (t : Tk) : takeS (s.plus u) t = (takeS s t).plus u := by
  simp only [takeS, St.plus, St.mk.injEq, true_and]; omega
theorem seep_plus (g : Bool) (s u : St) (p : Pd × Nat) : seepS g (s.plus u) p = (seepS g s p).plus u := by
  simp only [seepS, St.plus, St.mk.injEq, true_and, and_true]; omega
theorem spill_plus (s u : St) (p : Pd × Nat) : spillS (s.plus u) p = (spillS s p).plus u := by
  simp only [spillS, spillL, St.plus, moveR_plus]
theorem hour_plus {c : Ch} {g : Bool} {h : Hr} {gs : List Gt} (s u : St) : hourF c g h gs (s.plus u) = (hourF c g h gs s).plus u := by
  unfold hourF hourS spillsS seepsS takesS gatesS comesS
  rw [fold_plus (fun s u p => come_plus s u p), fold_plus (fun s u p => flow_plus s u p), fold_plus (fun s u p => take_plus s u p), fold_plus (fun s u p => seep_plus _ s u p), fold_plus (fun s u p => spill_plus s u p)]
theorem endS_zip (a b : List Int) (h : a.length = b.length) : endS false (a.zip b) = a ∧ endS true (a.zip b) = b := by
  constructor
  · rw [show endS false (a.zip b) = (a.zip b).map Prod.fst from rfl, List.map_fst_zip (by omega)]
  · rw [show endS true (a.zip b) = (a.zip b).map Prod.snd from rfl, List.map_snd_zip (by omega)]
theorem foG_step {g : Bool} {c : Ch} {hs : List Hr} {i : Nat} {h : Hr} (hx : hs[i]? = some h) : foG g c hs (i + 1) = (boardsF h (foG g c hs i).1, hourF c g h (foG g c hs i).1 (foG g c hs i).2) := by
  unfold foG
  rw [List.take_add_one, hx]
  simp [List.foldl_append]
/-- the hour from what the hours before left, counted anew, and what they had counted -/
theorem foG_plus {g : Bool} {c : Ch} {hs : List Hr} {i : Nat} {h : Hr} (hx : hs[i]? = some h) : (foG g c hs (i + 1)).2 = (hourF c g h (foG g c hs i).1 ⟨(foG g c hs i).2.ws, 0, 0, 0, 0⟩).plus (foG g c hs i).2 := by
  rw [foG_step hx, ← hour_plus]
  simp [St.plus]
theorem foG_gates {c : Ch} {hs : List Hr} : ∀ i, (foG false c hs i).1 = (foG true c hs i).1
  | 0 => rfl
  | i + 1 => by
    cases hx : hs[i]? with
    | some h => rw [foG_step hx, foG_step hx, foG_gates i]
    | none =>
      have e : ∀ g, foG g c hs (i + 1) = foG g c hs i := fun g => by
        unfold foG; rw [List.take_add_one, hx]; simp
      rw [e, e, foG_gates i]
end Go.Ax
namespace Go.Ax
open Go Go.RowKit Go.Proofs
noncomputable def R26x1t34 : RC := (.dreg [⟨(some 34), none, (.lda (.tmp 3) 2)⟩, ⟨(some 35), none, (.mov (.tmp 1))⟩, ⟨(some 36), none, (.mov (.tmp 2))⟩, ⟨(some 37), none, (.mov (.tmp 11))⟩, ⟨(some 38), none, (.idx (.tmp 36) (.tmp 37) 3)⟩, ⟨(some 39), none, (.lda (.tmp 38) 3)⟩, ⟨(some 40), none, (.call ⟨(.value (.func 50)), (List.toArray [(.tmp 34), (.tmp 35), (.tmp 39)]), (List.toArray [25, 26, 30])⟩ false)⟩, ⟨(some 33), none, (.mov (.tmp 40))⟩, ⟨(some 41), none, (.pur ⟨(some 41), (.extract (.tmp 33) 0), 25, "", (List.toArray []), none⟩)⟩, ⟨(some 42), none, (.pur ⟨(some 42), (.extract (.tmp 33) 1), 26, "", (List.toArray []), none⟩)⟩, ⟨(some 43), none, (.pur ⟨(some 43), (.extract (.tmp 33) 2), 37, "", (List.toArray []), none⟩)⟩, ⟨(some 44), none, (.pur ⟨(some 44), (.extract (.tmp 33) 3), 4, "", (List.toArray []), none⟩)⟩, ⟨(some 12), none, (.alc 25 [(.slice none 0 0), (.slice none 0 0)])⟩, ⟨(some 14), none, (.alc 37 [(.int .i64 0), (.int .i64 0), (.int .i64 0), (.int .i64 0), (.int .i64 0), (.int .i64 0), (.int .i64 0), (.int .i64 0)])⟩, ⟨none, none, (.sta (.tmp 12) (.tmp 41) 2)⟩, ⟨(some 13), none, (.mov (.tmp 42))⟩, ⟨none, none, (.sta (.tmp 14) (.tmp 43) 8)⟩, ⟨(some 15), none, (.mov (.tmp 44))⟩] [131071, 63487, 29695, 12799, 0, 0, 255, 255, 255, 255, 127, 63, 28, 12, 0, 0, 0, 0])
theorem L26x1t34 : low Try.prog 70 (at_ Try.f26 [1, 1, 1, 1, 1, 0, 1, 0, 0, 1, 0, 0, 0]) = some R26x1t34 := by kernel_rfl
noncomputable def R26x1t45 : RC := (.reg [⟨(some 45), none, (.lda (.tmp 12) 2)⟩, ⟨none, none, (.sta (.tmp 3) (.tmp 45) 2)⟩])
theorem L26x1t45 : low Try.prog 70 (at_ Try.f26 [1, 1, 1, 1, 1, 0, 1, 0, 0, 1, 0, 0, 1, 0]) = some R26x1t45 := by kernel_rfl
noncomputable def R26x1t46 : RC := (.reg [⟨(some 46), none, (.mov (.tmp 13))⟩, ⟨(some 1), none, (.mov (.tmp 46))⟩])
theorem L26x1t46 : low Try.prog 70 (at_ Try.f26 [1, 1, 1, 1, 1, 0, 1, 0, 0, 1, 0, 0, 1, 1, 0]) = some R26x1t46 := by kernel_rfl
noncomputable def R26x1t47 : RC := (.dreg [⟨(some 47), none, (.addo (.tmp 10) 0)⟩, ⟨(some 48), none, (.lda (.tmp 47) 2)⟩, ⟨(some 49), none, (.addo (.tmp 14) 0)⟩, ⟨(some 50), none, (.lda (.tmp 49) 2)⟩, ⟨(some 51), none, (.call ⟨(.value (.func 57)), (List.toArray [(.tmp 48), (.tmp 50)]), (List.toArray [35, 35])⟩ false)⟩, ⟨(some 52), none, (.addo (.tmp 10) 2)⟩, ⟨(some 53), none, (.lda (.tmp 52) 2)⟩, ⟨(some 54), none, (.addo (.tmp 14) 2)⟩, ⟨(some 55), none, (.lda (.tmp 54) 2)⟩, ⟨(some 56), none, (.call ⟨(.value (.func 57)), (List.toArray [(.tmp 53), (.tmp 55)]), (List.toArray [35, 35])⟩ false)⟩, ⟨(some 57), none, (.addo (.tmp 10) 4)⟩, ⟨(some 58), none, (.lda (.tmp 57) 2)⟩, ⟨(some 59), none, (.addo (.tmp 14) 4)⟩, ⟨(some 60), none, (.lda (.tmp 59) 2)⟩, ⟨(some 61), none, (.call ⟨(.value (.func 57)), (List.toArray [(.tmp 58), (.tmp 60)]), (List.toArray [35, 35])⟩ false)⟩, ⟨(some 62), none, (.addo (.tmp 10) 6)⟩, ⟨(some 63), none, (.lda (.tmp 62) 2)⟩, ⟨(some 64), none, (.addo (.tmp 14) 6)⟩, ⟨(some 65), none, (.lda (.tmp 64) 2)⟩, ⟨(some 66), none, (.call ⟨(.value (.func 57)), (List.toArray [(.tmp 63), (.tmp 65)]), (List.toArray [35, 35])⟩ true)⟩, ⟨(some 67), none, (.pur ⟨(some 67), (.build 37 (List.toArray [(0, (.tmp 51)), (1, (.tmp 56)), (2, (.tmp 61)), (3, (.tmp 66))])), 37, "", (List.toArray []), none⟩)⟩, ⟨none, none, (.sta (.tmp 10) (.tmp 67) 8)⟩] [2097151, 1048575, 524287, 131072, 0, 32768, 0, 16383, 4096, 0, 1024, 0, 511, 128, 0, 32, 0, 15, 4, 0, 1, 0])
theorem L26x1t47 : low Try.prog 70 (at_ Try.f26 [1, 1, 1, 1, 1, 0, 1, 0, 0, 1, 0, 0, 1, 1, 1]) = some R26x1t47 := by kernel_rfl
noncomputable def R26x1e : RC := (.reg [⟨(some 31), none, (.mov (.tmp 11))⟩, ⟨(some 32), none, (.ari .add (.tmp 31) (.const (.int .i64 1)))⟩, ⟨(some 11), none, (.mov (.tmp 32))⟩])
theorem L26x1e : low Try.prog 70 (at_ Try.f26 [1, 1, 1, 1, 1, 0, 1, 0, 0, 1, 1]) = some R26x1e := by kernel_rfl
noncomputable def R26x1v : RC := (.seq (.seq (.reg [⟨(some 27), none, (.mov (.tmp 11))⟩, ⟨(some 28), none, (.mov (.tmp 2))⟩, ⟨(some 29), none, (.len (.tmp 28))⟩, ⟨(some 30), none, (.cmp .lss (.tmp 27) (.tmp 29))⟩])
  (.cond (.tmp 30) .skip
  (.exit 0)))
  (.seq (.block 1 (.seq (.other (at_ Try.f26 [1, 1, 1, 1, 1, 0, 1, 0, 0, 1, 0, 0, 0]))
  (.seq (.other (at_ Try.f26 [1, 1, 1, 1, 1, 0, 1, 0, 0, 1, 0, 0, 1, 0]))
  (.seq (.other (at_ Try.f26 [1, 1, 1, 1, 1, 0, 1, 0, 0, 1, 0, 0, 1, 1, 0]))
  (.other (at_ Try.f26 [1, 1, 1, 1, 1, 0, 1, 0, 0, 1, 0, 0, 1, 1, 1]))))))
  (.other (at_ Try.f26 [1, 1, 1, 1, 1, 0, 1, 0, 0, 1, 1]))))
theorem V26x1 : LT Try.prog 70 (at_ Try.f26 [1, 1, 1, 1, 1, 0, 1, 0, 0]) R26x1v := by
  have e : at_ Try.f26 [1, 1, 1, 1, 1, 0, 1, 0, 0] = (.seq (at_ Try.f26 [1, 1, 1, 1, 1, 0, 1, 0, 0, 0]) (.seq (.block 1 (.seq (at_ Try.f26 [1, 1, 1, 1, 1, 0, 1, 0, 0, 1, 0, 0, 0]) (.seq (at_ Try.f26 [1, 1, 1, 1, 1, 0, 1, 0, 0, 1, 0, 0, 1, 0]) (.seq (at_ Try.f26 [1, 1, 1, 1, 1, 0, 1, 0, 0, 1, 0, 0, 1, 1, 0]) (at_ Try.f26 [1, 1, 1, 1, 1, 0, 1, 0, 0, 1, 0, 0, 1, 1, 1]))))) (at_ Try.f26 [1, 1, 1, 1, 1, 0, 1, 0, 0, 1, 1]))) := by kernel_rfl
  rw [e]
  exact (.seq (.low (by kernel_rfl)) (.seq (.block 1 (.seq (.other _) (.seq (.other _) (.seq (.other _) (.other _))))) (.other _)))

section
variable {kn : FuncId → Option Bool} {lo : Nat} {H : Hp}
theorem sum_piece {S : Rg} {K : Exit → Rg → Hp → Prop} {b10 b14 : Nat} {v1 v2 v3 v7 v11 : Value} {x1 x2 x3 x4 x5 x6 x7 x8 y1 y2 y3 y4 y5 y6 y7 y8 : Int} (h10 : Cl H b10 [iv x1, iv x2, iv x3, iv x4, iv x5, iv x6, iv x7, iv x8]) (h14 : Rd H b14 [iv y1, iv y2, iv y3, iv y4, iv y5, iv y6, iv y7, iv y8]) (hl : lo ≤ b10) (hlo : lo ≤ H.next)
    (r1 : InR (x1 + y1)) (r2 : InR (x2 + y2)) (r3 : InR (x3 + y3)) (r4 : InR (x4 + y4)) (r5 : InR (x5 + y5)) (r6 : InR (x6 + y6)) (r7 : InR (x7 + y7)) (r8 : InR (x8 + y8))
    (hS : Subs [(3, v3), (1, v1), (2, v2), (11, v11), (7, v7), (10, pt b10), (14, pt b14)] S)
    (hK : ∀ S' H', Subs [(3, v3), (1, v1), (2, v2), (11, v11), (7, v7), (10, pt b10)] S' → Keep H H' [b10] → Cl H' b10 [iv (x1 + y1), iv (x2 + y2), iv (x3 + y3), iv (x4 + y4), iv (x5 + y5), iv (x6 + y6), iv (x7 + y7), iv (x8 + y8)] → K .normal S' H') :
    Tri Try.prog kn lo 70 false (at_ Try.f26 [1, 1, 1, 1, 1, 0, 1, 0, 0, 1, 0, 0, 1, 1, 1]) S H K := by
  obtain ⟨J0, f0, j0⟩ := plus_ok (kn := kn) (lo := H.next) (H := H) (a := x1) (b := x2) (x := y1) (y := y2) r1 r2 (Nat.le_refl _)
  have m0 := j0.1
  have h100 := h10.rd
  have h140 := h14
  have h101 := j0.rd h100 (by simp)
  have h141 := j0.rd h140 (by simp)
  obtain ⟨J1, f1, j1⟩ := plus_ok (kn := kn) (lo := J0.next) (H := J0) (a := x3) (b := x4) (x := y3) (y := y4) r3 r4 (Nat.le_refl _)
  have m1 := j1.1
  have h102 := j1.rd h101 (by simp)
  have h142 := j1.rd h141 (by simp)
  obtain ⟨J2, f2, j2⟩ := plus_ok (kn := kn) (lo := J1.next) (H := J1) (a := x5) (b := x6) (x := y5) (y := y6) r5 r6 (Nat.le_refl _)
  have m2 := j2.1
  have h103 := j2.rd h102 (by simp)
  have h143 := j2.rd h142 (by simp)
  obtain ⟨J3, f3, j3⟩ := plus_ok (kn := kn) (lo := lo) (H := J2) (a := x7) (b := x8) (x := y7) (y := y8) r7 r8 (by omega)
  have m3 := j3.1
  have jj := ((j0.trans j1).trans j2).trans j3
  have hc := jj.cl h10 (by simp)
  refine tri_piece L26x1t47 hS ?_
  refine wD_dreg ?_
  refine wD_addo (b := b10) (o := 0) rfl ?_
  refine wD_lda (b := b10) (o := 0 + 0) rfl h100 (show row 2 _ _ = some [iv x1, iv x2] from rfl) ?_
  refine wD_addo (b := b14) (o := 0) rfl ?_
  refine wD_lda (b := b14) (o := 0 + 0) rfl h140 (show row 2 _ _ = some [iv y1, iv y2] from rfl) ?_
  refine wD_callh (vs := [sp x1 x2, sp y1 y2]) rfl rfl (callX_args f0) ?_
  refine wD_addo (b := b10) (o := 0) rfl ?_
  refine wD_lda (b := b10) (o := 0 + 2) rfl h101 (show row 2 _ _ = some [iv x3, iv x4] from rfl) ?_
  refine wD_addo (b := b14) (o := 0) rfl ?_
  refine wD_lda (b := b14) (o := 0 + 2) rfl h141 (show row 2 _ _ = some [iv y3, iv y4] from rfl) ?_
  refine wD_callh (vs := [sp x3 x4, sp y3 y4]) rfl rfl (callX_args f1) ?_
  refine wD_addo (b := b10) (o := 0) rfl ?_
  refine wD_lda (b := b10) (o := 0 + 4) rfl h102 (show row 2 _ _ = some [iv x5, iv x6] from rfl) ?_
  refine wD_addo (b := b14) (o := 0) rfl ?_
  refine wD_lda (b := b14) (o := 0 + 4) rfl h142 (show row 2 _ _ = some [iv y5, iv y6] from rfl) ?_
  refine wD_callh (vs := [sp x5 x6, sp y5 y6]) rfl rfl (callX_args f2) ?_
  refine wD_addo (b := b10) (o := 0) rfl ?_
  refine wD_lda (b := b10) (o := 0 + 6) rfl h103 (show row 2 _ _ = some [iv x7, iv x8] from rfl) ?_
  refine wD_addo (b := b14) (o := 0) rfl ?_
  refine wD_lda (b := b14) (o := 0 + 6) rfl h143 (show row 2 _ _ = some [iv y7, iv y8] from rfl) ?_
  refine wD_callf (vs := [sp x7 x8, sp y7 y8]) rfl (callX_args f3) ?_
  refine wD_pur (v := .agg (List.toArray [iv (x1 + y1), iv (x2 + y2), iv (x3 + y3), iv (x4 + y4), iv (x5 + y5), iv (x6 + y6), iv (x7 + y7), iv (x8 + y8)])) rfl (by kernel_rfl) ?_
  refine wD_sta (b := b10) (o := 0) (v := .agg (List.toArray [iv (x1 + y1), iv (x2 + y2), iv (x3 + y3), iv (x4 + y4), iv (x5 + y5), iv (x6 + y6), iv (x7 + y7), iv (x8 + y8)])) rfl rfl hc hl rfl rfl (by simp) ?_
  intro H9 k9 n9 c9
  have c9 : Cl H9 b10 [iv (x1 + y1), iv (x2 + y2), iv (x3 + y3), iv (x4 + y4), iv (x5 + y5), iv (x6 + y6), iv (x7 + y7), iv (x8 + y8)] := c9
  refine wD_end (by repeat' first | exact True.intro | exact (fun h => h) | refine And.intro ?_ ?_) ?_
  refine hK _ _ ⟨rfl, rfl, rfl, rfl, rfl, rfl, trivial⟩ ((jj.mono (by simp)).trans k9) c9
end
end Go.Ax
namespace Go.Ax
open Go Go.RowKit Go.Proofs
section
variable {P : Program} {kn : FuncId → Option Bool} {lo n : Nat} {masks : List Nat} {r : List RO} {ks : List Kd} {S : Rg} {H : Hp} {K : Rg → Hp → Prop} {d : Option Nat}
theorem wD_alc {e : TypeId} {z : List Value} (h : ∀ H1, Keep H H1 [] → H1.next = H.next + 1 → Cl H1 H.next z → wDraw P kn lo n masks r (.heavy :: ks) (putS S d (pt H.next)) H1 K) : wDraw P kn lo n masks (⟨d, none, .alc e z⟩ :: r) ks S H K := by
  simp only [wDraw, wRO, wRI]
  intro H1 hH1
  obtain ⟨k1, n1, c1⟩ := new_facts hH1
  exact h H1 k1 n1 c1
end
section
variable {kn : FuncId → Option Bool} {lo : Nat} {H : Hp}
theorem pass_piece {S : Rg} {K : Exit → Rg → Hp → Prop} {c : Ch} {x : Hr} {hs : List Hr} {b3 lb ln lcap i : Nat} {v7 v10 : Value} (hc : c.At H) (v : c.Vd) (h3 : Rd H b3 [.slice c.pa c.pn c.pcap, .slice c.ga c.gn c.gcap]) (hl : Rd H lb (hrc hs)) (hx : hs[i]? = some x) (hi : i < ln) (ha : x.At H) (hv : hourB x c.pn c.gn = true) (hlo : lo ≤ H.next)
    (hS : Subs [(3, pt b3), (1, c.wv), (2, slv lb ln lcap), (11, iv i), (10, v10), (7, v7)] S)
    (hK : ∀ S' H' ga' gcap' wa' wcap' b12 b14, Subs [(3, pt b3), (2, slv lb ln lcap), (11, iv i), (10, v10), (7, v7), (12, pt b12), (13, .slice wa' c.pn wcap'), (14, pt b14)] S' → Keep H H' [] → H.next ≤ b12 → H.next ≤ b14 →
      Cl H' b12 [.slice c.pa c.pn c.pcap, .slice ga' c.gn gcap'] → Cl H' b14 (flowsV (hourF c false x c.gs (s0 false c)) (hourF c true x c.gs (s0 true c))) → Sl H' ga' c.gn gcap' (gtc (boardsF x c.gs)) →
      Sl H' wa' c.pn wcap' (spc ((hourF c false x c.gs (s0 false c)).ws.zip (hourF c true x c.gs (s0 true c)).ws)) → (∀ b, ga' = some ⟨b, 0, none⟩ → H.next ≤ b) → (∀ b, wa' = some ⟨b, 0, none⟩ → H.next ≤ b) → K .normal S' H') :
    Tri Try.prog kn lo 70 false (at_ Try.f26 [1, 1, 1, 1, 1, 0, 1, 0, 0, 1, 0, 0, 0]) S H K := by
  obtain ⟨ga', gcap', w, H1, f1, k1, own1, acc1, hcap, hsome⟩ := refpass_ok (kn := kn) (lo := H.next) (H := H) hc v ha hv (Nat.le_refl _)
  obtain ⟨wa', wcap', rfl, slW, frW⟩ := acc1.sl
  have frG : ∀ b, ga' = some ⟨b, 0, none⟩ → H.next ≤ b := fun b e => by
    rcases own1 with ⟨e', _⟩ | ⟨b', e', hl', _⟩
    · rw [e'] at e; cases e
    · rw [e'] at e; cases e; exact hl'
  have m1 := k1.1
  refine tri_piece L26x1t34 hS ?_
  refine wD_dreg ?_
  refine wD_lda (b := b3) (o := 0) rfl h3 (show row 2 _ _ = some [.slice c.pa c.pn c.pcap, .slice c.ga c.gn c.gcap] from rfl) ?_
  refine wD_mov (v := c.wv) rfl ?_
  refine wD_mov (v := slv lb ln lcap) rfl ?_
  refine wD_mov (v := iv i) rfl ?_
  refine wD_idx (b := lb) (o := 0) (k := i) (j := (i : Int)) rfl rfl rfl hi ?_
  refine wD_lda (b := lb) (o := 0 + i * 3) rfl hl (row_flat (f := Hr.v) (fun _ _ => rfl) hx) ?_
  refine wD_callh (vs := [c.cv, c.wv, .agg x.v.toArray]) rfl rfl (callX_args f1) ?_
  refine wD_mov (v := .tuple #[chv c.pa c.pn c.pcap ga' c.gn gcap', .slice wa' c.pn wcap', .agg (flowsV (hourF c false x c.gs (s0 false c)) (hourF c true x c.gs (s0 true c))).toArray, .bool (sideB false x (boardsF x c.gs) (s0 false c))]) rfl ?_
  refine wD_pur (v := chv c.pa c.pn c.pcap ga' c.gn gcap') rfl rfl ?_
  refine wD_pur (v := .slice wa' c.pn wcap') rfl rfl ?_
  refine wD_pur (v := .agg (flowsV (hourF c false x c.gs (s0 false c)) (hourF c true x c.gs (s0 true c))).toArray) rfl rfl ?_
  refine wD_pur (v := .bool (sideB false x (boardsF x c.gs) (s0 false c))) rfl rfl ?_
  refine wD_alc ?_
  intro H2 k2 n2 c2
  refine wD_alc ?_
  intro H3 k3 n3 c3
  have c2 := k3.cl c2 (by simp)
  refine wD_sta (b := H1.next) (o := 0) (v := chv c.pa c.pn c.pcap ga' c.gn gcap') rfl rfl c2 (by omega) rfl rfl (by simp) ?_
  intro H4 k4 n4 c4
  have c4 : Cl H4 H1.next [.slice c.pa c.pn c.pcap, .slice ga' c.gn gcap'] := c4
  refine wD_mov (v := .slice wa' c.pn wcap') rfl ?_
  have c3 := k4.cl c3 (by simp; omega)
  refine wD_sta (b := H2.next) (o := 0) (v := .agg (flowsV (hourF c false x c.gs (s0 false c)) (hourF c true x c.gs (s0 true c))).toArray) rfl rfl c3 (by omega) rfl rfl (by simp) ?_
  intro H5 k5 n5 c5
  have c5 : Cl H5 H2.next (flowsV (hourF c false x c.gs (s0 false c)) (hourF c true x c.gs (s0 true c))) := c5
  have c4 := k5.cl c4 (by simp; omega)
  refine wD_mov (v := .bool (sideB false x (boardsF x c.gs) (s0 false c))) rfl ?_
  have k15 : Keep H1 H5 [] := (((k2.trans k3).new k4 (fun b hb => .inr (by simp at hb; omega)))).new k5 (fun b hb => .inr (by simp at hb; omega))
  refine wD_end (by repeat' first | exact True.intro | exact (fun h => h) | refine And.intro ?_ ?_) ?_
  exact hK _ _ ga' gcap' wa' wcap' H1.next H2.next ⟨rfl, rfl, rfl, rfl, rfl, rfl, rfl, rfl, trivial⟩ (k1.trans k15) (by omega) (by omega) c4 c5 ((own1.keep k15 (fun b e => by simp)).sl hcap hsome) (k15.sl0 slW) frG frW
end
end Go.Ax
namespace Go.Ax
open Go Go.RowKit Go.Proofs
theorem sides_pond {c : Ch} (v : c.Vd) : All2 (PdLe false true) c.ponds c.ponds := by
  refine all2_of _ _ rfl fun i x y hx hy => ?_
  rw [hx] at hy; cases hy
  have := List.all_eq_true.1 v.p (x, i) (List.mem_zipIdx_iff_getElem?.2 hx)
  simp [pondB, withinB] at this
  constructor <;> first | rfl | (intro _; rfl) | (simp; omega) | omega
theorem sides_hour {h : Hr} {pn gn : Nat} (hv : hourB h pn gn = true) : HrLe false true h h := by
  have hf := hour_facts hv
  refine ⟨rfl, rfl, end_le rfl fun i x y hx hy => ?_, fun t ht => ?_⟩
  · rw [hx] at hy; cases hy
    have := hf x (List.mem_of_getElem? hx)
    simp [endV]; omega
  · simp only [hourB, Bool.and_eq_true] at hv
    have := List.all_eq_true.1 hv.2 t ht
    simp [waterB] at this; omega
theorem nn_of {ps : List Pd} {B : Int} {s : St} (a : Ahead ps B s) : NN s := fun i => by
  rcases Nat.lt_or_ge i s.ws.length with q | q
  · have := a.pos s.ws[i] (List.getElem_mem q)
    simpa [List.getD, q] using this
  · simp [List.getD, List.getElem?_eq_none q]
theorem fo_sides {c : Ch} (v : c.Vd) {hs : List Hr} (hh : ∀ h ∈ hs, hourB h c.pn c.gn = true) (hcl : ∀ h ∈ hs, h.cs.length = h.cn) : ∀ i : Nat, i ≤ 200 → LeS (foG false c hs i).2 (foG true c hs i).2
  | 0, _ => by
    have hall := List.all_eq_true.1 v.w
    have e : ∀ i, (endS false c.ss).getD i 0 ≤ (endS true c.ss).getD i 0 := fun i => by
      cases hx : c.ss[i]? with
      | none => simp [endS, List.getD, hx]
      | some x =>
        obtain ⟨p, hp⟩ := get_some (l := c.ponds) (i := i) (by have := (List.getElem?_eq_some_iff.mp hx).1; rw [v.lp, ← v.wp, ← v.lw]; exact this)
        have := hall (p, x) (List.mem_of_getElem? (zip2_get hp hx))
        simp [withinB] at this
        simp [endS, List.getD, hx, endV]; omega
    have e2 : LeS (s0 false c) (s0 true c) := ⟨⟨by simp [s0, endS], e⟩, Int.le_refl _, Int.le_refl _, Int.le_refl _, Int.le_refl _⟩
    simpa [foG] using e2
  | i + 1, hi => by
    have ih := fo_sides v hh hcl i (by omega)
    obtain ⟨a1, g1, _⟩ := fo_ahead v hh hcl true i (by omega)
    cases e : hs[i]? with
    | none =>
      have e : ∀ g, foG g c hs (i + 1) = foG g c hs i := fun g => by
        unfold foG; rw [List.take_add_one, e]; simp
      rw [e, e]; exact ih
    | some h =>
      have hv := hh h (List.mem_of_getElem? e)
      rw [foG_step e, foG_step e]
      have hb := boards_good g1 hv
      rw [foG_gates]
      exact (hour_le (sides_pond v) (sides_hour hv) (fun g hm => gate_nn (List.all_eq_true.1 hb g hm)) ih (nn_of a1)).1
/-- the chain as it stands after i hours: where it lies is told by the caller -/
def Ch.after (c : Ch) (hs : List Hr) (i : Nat) (ga : Option Addr) (gcap : Nat) (wa : Option Addr) (wcap : Nat) : Ch :=
  { c with ga := ga, gcap := gcap, wa := wa, wcap := wcap, gs := (foG false c hs i).1, ss := (foG false c hs i).2.ws.zip (foG true c hs i).2.ws }
theorem after_vd {c : Ch} (v : c.Vd) {hs : List Hr} (hh : ∀ h ∈ hs, hourB h c.pn c.gn = true) (hcl : ∀ h ∈ hs, h.cs.length = h.cn) {i : Nat} (hi : i ≤ 200) (ga : Option Addr) (gcap : Nat) (wa : Option Addr) (wcap : Nat) : (c.after hs i ga gcap wa wcap).Vd := by
  obtain ⟨a1, g1, l1⟩ := fo_ahead v hh hcl false i hi
  obtain ⟨a2, g2, l2⟩ := fo_ahead v hh hcl true i hi
  have le := fo_sides v hh hcl i hi
  have e1 := a1.len; have e2 := a2.len
  have lp := v.lp; have wp := v.wp
  refine ⟨v.h16, v.h1, v.h32, v.wp, v.lp, l1, ?_, v.p, g1, ?_⟩
  · show ((foG false c hs i).2.ws.zip (foG true c hs i).2.ws).length = c.wn
    rw [List.length_zip]; omega
  · refine List.all_eq_true.2 fun x hx => ?_
    obtain ⟨j, hj⟩ := List.getElem?_of_mem hx
    obtain ⟨p, x1, x2⟩ := x
    obtain ⟨h1, h2⟩ := List.getElem?_zip_eq_some.mp hj
    obtain ⟨h3, h4⟩ := List.getElem?_zip_eq_some.mp h2
    have q1 := a1.pos x1 (List.mem_of_getElem? h3)
    have q2 := a2.full j p h1
    have q3 := le.w.2 j
    simp [List.getD, h3, h4] at q2 q3
    simp [withinB]; omega
end Go.Ax
namespace Go.Ax
open Go Go.RowKit Go.Proofs
/-- Where the water and the gates lie. -/
structure RW where
  ga : Option Addr
  gcap : Nat
  wa : Option Addr
  wcap : Nat
  i : Nat
section
variable {kn : FuncId → Option Bool} {lo : Nat} {F H : Hp}
theorem ahead_small {ps : List Pd} {i : Nat} {s : St} (a : Ahead ps (i * perHour) s) (hi : i ≤ 200) : InR s.came ∧ InR s.seeped ∧ InR s.river ∧ InR s.taken := by
  have := a.c0; have := a.s0; have := a.r0; have := a.t0; have := a.cB; have := a.sB; have := a.all
  rw [perHour_eq] at *
  refine ⟨⟨by omega, by omega⟩, ⟨by omega, by omega⟩, ⟨by omega, by omega⟩, ⟨by omega, by omega⟩⟩
theorem st45 {S : Rg} {K : Exit → Rg → Hp → Prop} {b3 b12 b14 : Nat} {u1 u2 p g v2 v7 v10 v11 v13 : Value} (c3 : Cl H b3 [u1, u2]) (c12 : Rd H b12 [p, g]) (hl : lo ≤ b3) (o1 : one p = true) (o2 : one g = true)
    (hS : Subs [(3, pt b3), (2, v2), (11, v11), (10, v10), (7, v7), (12, pt b12), (13, v13), (14, pt b14)] S)
    (hK : ∀ S' H', Subs [(3, pt b3), (2, v2), (11, v11), (10, v10), (7, v7), (13, v13), (14, pt b14)] S' → Keep H H' [b3] → Cl H' b3 [p, g] → K .normal S' H') :
    Tri Try.prog kn lo 70 false (at_ Try.f26 [1, 1, 1, 1, 1, 0, 1, 0, 0, 1, 0, 0, 1, 0]) S H K := by
  refine tri_piece L26x1t45 hS ?_
  refine Exists.intro _ (Exists.intro _ (And.intro c12.of (And.intro (show row 2 _ _ = some [p, g] from rfl) ?_)))
  obtain ⟨_, e4, l4, g4⟩ := id c3
  refine Exists.intro _ (Exists.intro _ (Exists.intro _ (And.intro g4 (And.intro hl (And.intro rfl (And.intro (by show ([p, g] : List Value).all one = true; simp [o1, o2]) (And.intro (by simp) ?_)))))))
  intro H4 hH4; obtain ⟨k4, n4, c4⟩ := up_facts c3 hH4; clear hH4
  exact hK _ _ ⟨rfl, rfl, rfl, rfl, rfl, rfl, rfl, trivial⟩ k4 c4
theorem mv46 {S : Rg} {K : Exit → Rg → Hp → Prop} {v2 v3 v7 v10 v11 v13 v14 : Value}
    (hS : Subs [(3, v3), (2, v2), (11, v11), (10, v10), (7, v7), (13, v13), (14, v14)] S)
    (hK : ∀ S', Subs [(3, v3), (1, v13), (2, v2), (11, v11), (7, v7), (10, v10), (14, v14)] S' → K .normal S' H) :
    Tri Try.prog kn lo 70 false (at_ Try.f26 [1, 1, 1, 1, 1, 0, 1, 0, 0, 1, 0, 0, 1, 1, 0]) S H K := by
  refine tri_piece L26x1t46 hS ?_
  exact hK _ ⟨rfl, rfl, rfl, rfl, rfl, rfl, rfl, trivial⟩
theorem run26_loop {S : Rg} {K : Exit → Rg → Hp → Prop} {c : Ch} {hs : List Hr} {b3 b7 b10 ln lcap : Nat} {la : Option Addr} {w0 : RW} (v : c.Vd) (hp : Sl F c.pa c.pn c.pcap (pdc c.ponds)) (hl : Sl F la ln lcap (hrc hs)) (hln : hs.length = ln) (ha : ∀ h ∈ hs, h.At F) (hh : ∀ h ∈ hs, hourB h c.pn c.gn = true) (hln2 : ln ≤ 200) (hlo : lo ≤ F.next)
    (l3 : F.next ≤ b3) (l10 : F.next ≤ b10) (n310 : b3 ≠ b10) (hF : Keep F H [])
    (h3 : Cl H b3 [.slice c.pa c.pn c.pcap, .slice w0.ga c.gn w0.gcap]) (h10 : Cl H b10 zero8) (hg : Sl H w0.ga c.gn w0.gcap (gtc c.gs)) (hw : Sl H w0.wa c.wn w0.wcap (spc c.ss)) (f2 : ∀ b, w0.wa = some ⟨b, 0, none⟩ → b ≠ b3 ∧ b ≠ b10 ∧ b ≠ b7) (l7 : b7 < H.next)
    (hss : (foG false c hs 0).2.ws.zip (foG true c hs 0).2.ws = c.ss) (h0 : w0.i = 0)
    (hS : Subs [(3, pt b3), (1, .slice w0.wa c.wn w0.wcap), (2, .slice la ln lcap), (11, iv w0.i), (10, pt b10), (7, pt b7)] S)
    (hK : ∀ (w : RW) v1 v2 v3 v4 H', Keep F H' [] → Cl H' b10 (flowsV (foG false c hs ln).2 (foG true c hs ln).2) → Sl H' w.wa c.wn w.wcap (spc ((foG false c hs ln).2.ws.zip (foG true c hs ln).2.ws)) → (∀ b, w.wa = some ⟨b, 0, none⟩ → b ≠ b10 ∧ b ≠ b7) → Keep H H' [b3, b10] →
      K (.exit 0) [(30, v1), (29, v2), (28, v3), (27, v4), (3, pt b3), (1, .slice w.wa c.wn w.wcap), (2, .slice la ln lcap), (11, iv ln), (10, pt b10), (7, pt b7)] H') :
    Tri Try.prog kn lo 70 false (at_ Try.f26 [1, 1, 1, 1, 1, 0, 1, 0]) S H K := by
  have hcl : ∀ h ∈ hs, h.cs.length = h.cn := fun h hm => (ha h hm).lc
  refine loop_lt E26_1 V26x1 (fun w : RW => [(3, pt b3), (1, .slice w.wa c.wn w.wcap), (2, .slice la ln lcap), (11, iv w.i), (10, pt b10), (7, pt b7)])
    (fun k w H' => w.i + k = ln ∧ Keep F H' [] ∧ Keep H H' [b3, b10] ∧ Cl H' b3 [.slice c.pa c.pn c.pcap, .slice w.ga c.gn w.gcap] ∧ Cl H' b10 (flowsV (foG false c hs w.i).2 (foG true c hs w.i).2) ∧ Sl H' w.ga c.gn w.gcap (gtc (foG false c hs w.i).1) ∧
      Sl H' w.wa c.wn w.wcap (spc ((foG false c hs w.i).2.ws.zip (foG true c hs w.i).2.ws)) ∧ (∀ b, w.wa = some ⟨b, 0, none⟩ → b ≠ b3 ∧ b ≠ b10 ∧ b ≠ b7)) ln w0 ⟨by omega, hF, Keep.refl _ _, h3, by rw [h0]; exact h10, by rw [h0]; exact hg, by rw [h0, hss]; exact hw, f2⟩ hS ?_
  rintro k ⟨ga, gcap, wa, wcap, i⟩ H2 ⟨hik, hk, hkk, c3, c10, sg, sw, g2⟩
  simp only at hik c3 c10 sg sw g2
  have hmn := hkk.1
  refine And.intro (fun hlt => ?_) (fun hge => ?_)
  · have hi : i < ln := by simpa using hlt
    have hl2 := hk.sl0 hl
    rcases hl2 with ⟨_, h0, _⟩ | ⟨lb, rfl, hlc, _⟩
    · omega
    obtain ⟨x, hx⟩ := get_some (l := hs) (i := i) (by omega)
    have hxm := List.mem_of_getElem? hx
    have hkn := hk.1
    have hwp := v.wp
    have vd := after_vd v hh hcl (i := i) (by omega) ga gcap wa wcap
    have hci : (c.after hs i ga gcap wa wcap).At H2 := ⟨hk.sl0 hp, sg, sw, vd.lp, vd.lg, vd.lw⟩
    refine pass_piece (c := c.after hs i ga gcap wa wcap) (x := x) (hs := hs) (b3 := b3) (v7 := pt b7) (v10 := pt b10) hci vd c3.rd hlc hx hi ((ha x hxm).keep hk) (hh x hxm) (by omega) ⟨rfl, rfl, rfl, rfl, rfl, rfl, trivial⟩ ?_
    intro S3 H3 ga' gcap' wa' wcap' b12 b14 hS3 k3 l12 l14 c12 c14 sg' sw' fg fw
    have hn3 := k3.1
    have c3' := k3.cl c3 (by simp)
    have c10' := k3.cl c10 (by simp)
    have lt3 := c3.lt
    have lt10 := c10.lt
    have e1 := foG_plus (g := false) (c := c) hx
    have e2 := foG_plus (g := true) (c := c) hx
    obtain ⟨a1, _, _⟩ := fo_ahead v hh hcl false (i + 1) (by omega)
    obtain ⟨a2, _, _⟩ := fo_ahead v hh hcl true (i + 1) (by omega)
    obtain ⟨p1, p2, p3, p4⟩ := ahead_small a1 (by omega)
    obtain ⟨q1, q2, q3, q4⟩ := ahead_small a2 (by omega)
    have hlen : (foG false c hs i).2.ws.length = (foG true c hs i).2.ws.length := by
      rw [(fo_ahead v hh hcl false i (by omega)).1.len, (fo_ahead v hh hcl true i (by omega)).1.len]
    obtain ⟨z1, z2⟩ := endS_zip _ _ hlen
    have y1 : hourF (c.after hs i ga gcap wa wcap) false x (c.after hs i ga gcap wa wcap).gs (s0 false (c.after hs i ga gcap wa wcap)) = hourF c false x (foG false c hs i).1 ⟨(foG false c hs i).2.ws, 0, 0, 0, 0⟩ := by
      show hourF c false x (foG false c hs i).1 ⟨endS false ((foG false c hs i).2.ws.zip (foG true c hs i).2.ws), 0, 0, 0, 0⟩ = _
      rw [z1]
    have y2 : hourF (c.after hs i ga gcap wa wcap) true x (c.after hs i ga gcap wa wcap).gs (s0 true (c.after hs i ga gcap wa wcap)) = hourF c true x (foG true c hs i).1 ⟨(foG true c hs i).2.ws, 0, 0, 0, 0⟩ := by
      show hourF c true x (foG false c hs i).1 ⟨endS true ((foG false c hs i).2.ws.zip (foG true c hs i).2.ws), 0, 0, 0, 0⟩ = _
      rw [z2, foG_gates]
    rw [y1, y2] at c14 sw'
    have y3 : boardsF x (c.after hs i ga gcap wa wcap).gs = (foG false c hs (i + 1)).1 := by rw [foG_step hx]; rfl
    rw [y3] at sg'
    generalize hourF c false x (foG false c hs i).1 ⟨(foG false c hs i).2.ws, 0, 0, 0, 0⟩ = A at *
    generalize hourF c true x (foG true c hs i).1 ⟨(foG true c hs i).2.ws, 0, 0, 0, 0⟩ = B at *
    have w1 : (foG false c hs (i + 1)).2.ws = A.ws := by rw [e1]; rfl
    have w2 : (foG true c hs (i + 1)).2.ws = B.ws := by rw [e2]; rfl
    generalize (foG false c hs i).2 = A0 at *
    generalize (foG true c hs i).2 = B0 at *
    rw [e1] at p1 p2 p3 p4
    rw [e2] at q1 q2 q3 q4
    simp only [St.plus] at p1 p2 p3 p4 q1 q2 q3 q4
    refine st45 c3' c12.rd (by omega) rfl rfl hS3 ?_
    intro S4 H4 hS4 k4 c4
    have m4 := k4.1
    refine mv46 hS4 ?_
    intro S5 hS5
    have c10' := k4.cl c10' (by simp; omega)
    have c14 := k4.cl c14 (by simp; omega)
    refine sum_piece (b10 := b10) (b14 := b14) c10' c14.rd (by omega) (by omega) (by rw [Int.add_comm]; exact p1) (by rw [Int.add_comm]; exact q1) (by rw [Int.add_comm]; exact p2) (by rw [Int.add_comm]; exact q2) (by rw [Int.add_comm]; exact p3) (by rw [Int.add_comm]; exact q3) (by rw [Int.add_comm]; exact p4) (by rw [Int.add_comm]; exact q4) hS5 ?_
    intro S6 H6 hS6 k6 c6
    have m6 := k6.1
    refine tri_piece L26x1e hS6 ?_
    refine And.intro ⟨by omega, by omega⟩ ?_
    have c4' := k6.cl c4 (by simp; omega)
    refine ⟨k - 1, ⟨ga', gcap', wa', wcap', i + 1⟩, by omega, ⟨by simp only; omega, ?_, ((hkk.trans (k3.mono (by simp))).trans (k4.mono (by simp))).trans (k6.mono (by simp)), c4', ?_, ?_, ?_, ?_⟩, rfl, by show some (Value.slice wa' c.pn wcap') = some (Value.slice wa' c.wn wcap'); rw [hwp], rfl, rfl, rfl, rfl, trivial⟩
    · exact ((hk.trans k3).new k4 (fun b hb => .inr (by simp at hb; omega))).new k6 (fun b hb => .inr (by simp at hb; omega))
    · show Cl H6 b10 (flowsV (foG false c hs (i + 1)).2 (foG true c hs (i + 1)).2)
      rw [e1, e2]
      simpa [flowsV, St.plus, Int.add_comm] using c6
    · exact k6.sl (k4.sl sg' (fun b e => by have := fg b e; simp; omega)) (fun b e => by have := fg b e; simp; omega)
    · show Sl H6 wa' c.wn wcap' (spc ((foG false c hs (i + 1)).2.ws.zip (foG true c hs (i + 1)).2.ws))
      rw [w1, w2, hwp]
      exact k6.sl (k4.sl sw' (fun b e => by have := fw b e; simp; omega)) (fun b e => by have := fw b e; simp; omega)
    · intro b e; have := fw b e; omega
  · have hi : ¬ i < ln := by simpa using hge
    have hl : i = ln := by omega
    subst hl
    exact hK ⟨ga, gcap, wa, wcap, i⟩ _ _ _ _ _ hk c10 sw (fun b e => (g2 b e).2) hkk
end
end Go.Ax
namespace Go.Ax
open Go Go.RowKit Go.Proofs
/-- What Run returns: of the program, and of the document. -/
structure RunB (q : BQ) (H' : Hp) (v : Value) : Prop where
  bad : checkE q.c q.hs q.ln ≠ 0 → v = .tuple #[.slice none 0 0, .agg zero8.toArray, iv (checkE q.c q.hs q.ln)]
  ok : checkE q.c q.hs q.ln = 0 → ∃ a cap, v = .tuple #[.slice a q.c.wn cap, .agg (flowsV q.s q.t).toArray, iv 0] ∧ Sl H' a q.c.wn cap (spc (q.s.ws.zip q.t.ws))
theorem RunA.toB {q : BQ} {H H' : Hp} {v : Value} (r : RunA q H H' v) : RunB q H' v :=
  ⟨r.bad, fun e => by obtain ⟨b, e1, _, c1, _, _⟩ := r.ok e; exact ⟨_, _, e1, .inr ⟨b, rfl, c1.rd, Nat.le_refl _⟩⟩⟩
theorem zip_self : ∀ (l : List (Int × Int)), (l.map Prod.fst).zip (l.map Prod.snd) = l
  | [] => rfl
  | x :: l => by simp [zip_self l]
section
variable {kn : FuncId → Option Bool} {lo : Nat} {H : Hp}
theorem refrun_ok {q : BQ} (hc : q.c.At H) (hl : Sl H q.la q.ln q.lcap (hrc q.hs)) (hln : q.hs.length = q.ln) (hh : ∀ h ∈ q.hs, h.At H ∧ h.bn ≤ 1000 ∧ h.cn ≤ 1000 ∧ h.tn ≤ 1000) (hpn : q.c.pn ≤ 1000) (hgn : q.c.gn ≤ 1000) (hlo : lo ≤ H.next) :
    ∃ v H', FnX Try.prog kn lo 26 [q.c.cv, q.c.wv, .slice q.la q.ln q.lcap] H v H' ∧ Keep H H' [] ∧ RunB q H' v := by
  have key := fnX_low (kn := kn) (lo := lo) (H := H) (args := [q.c.cv, q.c.wv, .slice q.la q.ln q.lcap]) (Q := fun v H' => Keep H H' [] ∧ RunB q H' v) Try.func26 B26 N26 Z26 L26 (by simp) ?_
  · exact key
  intro H1 hH1; obtain ⟨k1, n1, c1⟩ := new_facts hH1; clear hH1
  intro H2 hH2; obtain ⟨k2, n2, c2⟩ := new_facts hH2; clear hH2
  have c1 : Cl H2 H.next [.slice q.c.pa q.c.pn q.c.pcap, .slice q.c.ga q.c.gn q.c.gcap] := k2.cl c1 (by simp)
  have c2 : Cl H2 H1.next zero8 := c2
  have k02 := k1.trans k2
  have m1 := k1.1; have m2 := k2.1
  refine Exists.intro _ (Exists.intro _ (And.intro c1.of (And.intro (show row 2 _ _ = some [.slice q.c.pa q.c.pn q.c.pcap, .slice q.c.ga q.c.gn q.c.gcap] from rfl) ?_)))
  obtain ⟨H3, f3, k3⟩ := refvalid_ok (kn := kn) (lo := lo) (H := H2) (hc.keep k02) (k02.sl0 hl) hln (fun h hm => ⟨(hh h hm).1.keep k02, (hh h hm).2⟩) hpn hgn (by omega)
  refine Exists.intro _ (Exists.intro _ (And.intro (callX_args f3) ?_))
  have m3 := k3.1
  have k03 := k02.trans k3
  have c1 := k3.cl c1 (by simp)
  have c2 := k3.cl c2 (by simp)
  refine And.intro (fun hne => ?_) (fun heq => ?_)
  · have he : checkE q.c q.hs q.ln ≠ 0 := by simpa using hne
    refine And.intro rfl (Exists.intro (.agg zero8.toArray) (And.intro (by kernel_rfl) ?_))
    obtain ⟨_, e4, l4, g4⟩ := id c2
    refine Exists.intro _ (Exists.intro _ (Exists.intro _ (And.intro g4 (And.intro (by omega) (And.intro rfl (And.intro rfl (And.intro (by simp [zero8]) ?_)))))))
    intro H4 hH4; obtain ⟨k4, n4, c4⟩ := up_facts c2 hH4; clear hH4
    have c4 : Cl H4 H1.next zero8 := c4
    refine And.intro trivial (Exists.intro _ (And.intro (res_run (cs := zero8) rfl rfl rfl rfl c4.rd) ⟨k03.new k4 (fun b hb => .inr (by simp at hb; omega)), ⟨fun _ => rfl, fun w => absurd w he⟩⟩))
  have he : checkE q.c q.hs q.ln = 0 := by simpa using heq
  have hok : q.c.ok = true ∧ (∀ h ∈ q.hs, hourB h q.c.pn q.c.gn = true) ∧ q.ln ≤ 200 := by
    unfold checkE at he
    split at he
    · omega
    · split at he
      · rename_i h1 h2
        simp only [Bool.and_eq_true, List.all_eq_true] at h2
        exact ⟨h2.1, h2.2, by omega⟩
      · omega
  obtain ⟨ok1, ok2, ok3⟩ := hok
  have v := Ch.vd ok1 hc.lp hc.lg hc.lw
  have hwp := v.wp; have h1p := v.h1; have h16 := v.h16; have hlw := hc.lw
  obtain ⟨Ha, hHa⟩ : ∃ Ha, H3.new (.cells [] 35 false) = Ha := ⟨_, rfl⟩
  refine And.intro rfl (Or.inr (And.intro rfl (Exists.intro _ (Exists.intro Ha (Exists.intro _ (And.intro ((heap_build0 se26 z35).trans (by rw [← hHa])) (And.intro (fun b e => by cases e) ?_)))))))
  have hga : Ha.t.get H3.next = some (.cells [] 35 false) := by
    rw [← hHa]; show (H3.t.set H3.next _).get H3.next = _; rw [Tr.get_set, if_pos rfl]
  obtain ⟨ka, na, ca⟩ := new_facts hHa
  clear hHa
  have k0a := k03.trans ka
  obtain ⟨Hb, hHb⟩ : ∃ Hb, Ha.new (.cells (spc q.c.ss) 35 true) = Hb := ⟨_, rfl⟩
  refine And.intro rfl (Or.inr (And.intro (by kernel_rfl) (Exists.intro _ (Exists.intro Hb (Exists.intro _ (And.intro ((heap_append_empty (lo := lo) se26 u26 hga rfl rfl (k0a.sl0 hc.w) (by unfold spc; rw [flat_len (size := 2) (fun _ _ => rfl), hlw]) (by omega) (by omega)).trans (by rw [hHb])) (And.intro (fun b e => by cases e) ?_)))))))
  obtain ⟨kb, nb, cb⟩ := new_facts hHb
  clear hHb
  have ma := ka.1; have mb := kb.1
  intro Hc hHc; obtain ⟨kc, nc, cc⟩ := new_facts hHc; clear hHc
  have cc : Cl Hc Hb.next zero8 := cc
  have mc := kc.1
  have k3c := (ka.trans kb).trans kc
  have k0c := k03.trans k3c
  have c1 := k3c.cl c1 (by simp)
  have c2 := k3c.cl c2 (by simp)
  have cb := kc.cl cb (by simp)
  have hcC := hc.keep k0c
  refine run26_loop (F := H) (c := q.c) (hs := q.hs) (b3 := H.next) (b7 := H1.next) (b10 := Hb.next) (w0 := ⟨q.c.ga, q.c.gcap, some ⟨Ha.next, 0, none⟩, q.c.wn, 0⟩) v hc.p hl hln (fun h hm => (hh h hm).1) ok2 ok3 hlo (Nat.le_refl _) (by omega) (by omega) k0c c1 cc hcC.g (.inr ⟨Ha.next, rfl, cb.rd, Nat.le_refl _⟩)
    (fun b e => by cases e; omega) (by omega) ?_ rfl ⟨rfl, rfl, rfl, rfl, rfl, rfl, trivial⟩ ?_
  · show (endS false q.c.ss).zip (endS true q.c.ss) = q.c.ss
    exact zip_self _
  intro w v1 v2 v3 v4 Hd kd cd sd fd kd2
  have md := kd2.1
  refine Exists.intro _ (Exists.intro _ (And.intro cd.of (And.intro (show row 8 _ _ = some (flowsV (foG false q.c q.hs q.ln).2 (foG true q.c q.hs q.ln).2) from rfl) (And.intro cd.lt ?_))))
  have c2 := kd2.cl c2 (by simp; omega)
  obtain ⟨_, e9, l9, g9⟩ := id c2
  refine Exists.intro _ (Exists.intro _ (Exists.intro _ (And.intro g9 (And.intro (by omega) (And.intro rfl (And.intro rfl (And.intro (by simp [zero8]) ?_)))))))
  intro He hHe; obtain ⟨ke, ne, ce⟩ := up_facts c2 hHe; clear hHe
  have ce : Cl He H1.next (flowsV (foG false q.c q.hs q.ln).2 (foG true q.c q.hs q.ln).2) := ce
  refine And.intro (by repeat' first | exact True.intro | exact (fun h => h) | refine And.intro ?_ ?_) ?_
  refine And.intro trivial (Exists.intro _ (And.intro (res_run (cs := flowsV (foG false q.c q.hs q.ln).2 (foG true q.c q.hs q.ln).2) rfl rfl rfl rfl ce.rd) ⟨kd.new ke (fun b hb => .inr (by simp at hb; omega)), ⟨fun w => absurd he w, fun _ => ⟨_, _, rfl, ke.sl sd (fun b e => by have := fd b e; simp; omega)⟩⟩⟩))
end
end Go.Ax
namespace Go.Ax
open Go Go.RowKit Go.Proofs
noncomputable def R28x1t36 : RC := (.dreg [⟨(some 36), none, (.lda (.tmp 4) 2)⟩, ⟨(some 37), none, (.mov (.tmp 1))⟩, ⟨(some 38), none, (.mov (.tmp 2))⟩, ⟨(some 39), none, (.mov (.tmp 12))⟩, ⟨(some 40), none, (.idx (.tmp 38) (.tmp 39) 3)⟩, ⟨(some 41), none, (.lda (.tmp 40) 3)⟩, ⟨(some 42), none, (.call ⟨(.value (.func 50)), (List.toArray [(.tmp 36), (.tmp 37), (.tmp 41)]), (List.toArray [25, 26, 30])⟩ false)⟩, ⟨(some 35), none, (.mov (.tmp 42))⟩, ⟨(some 43), none, (.pur ⟨(some 43), (.extract (.tmp 35) 0), 25, "", (List.toArray []), none⟩)⟩, ⟨(some 44), none, (.pur ⟨(some 44), (.extract (.tmp 35) 1), 26, "", (List.toArray []), none⟩)⟩, ⟨(some 45), none, (.pur ⟨(some 45), (.extract (.tmp 35) 2), 37, "", (List.toArray []), none⟩)⟩, ⟨(some 46), none, (.pur ⟨(some 46), (.extract (.tmp 35) 3), 4, "", (List.toArray []), none⟩)⟩, ⟨(some 13), none, (.alc 25 [(.slice none 0 0), (.slice none 0 0)])⟩, ⟨(some 15), none, (.alc 37 [(.int .i64 0), (.int .i64 0), (.int .i64 0), (.int .i64 0), (.int .i64 0), (.int .i64 0), (.int .i64 0), (.int .i64 0)])⟩, ⟨none, none, (.sta (.tmp 13) (.tmp 43) 2)⟩, ⟨(some 14), none, (.mov (.tmp 44))⟩, ⟨none, none, (.sta (.tmp 15) (.tmp 45) 8)⟩, ⟨(some 16), none, (.mov (.tmp 46))⟩] [131071, 63487, 29695, 12799, 0, 0, 255, 255, 255, 255, 127, 63, 28, 12, 0, 0, 0, 0])
theorem L28x1t36 : low Try.prog 67 (at_ Try.f28 [1, 1, 1, 1, 0, 1, 0, 0, 1, 0, 0, 0]) = some R28x1t36 := by kernel_rfl
noncomputable def R28x1t47 : RC := (.reg [⟨(some 47), none, (.lda (.tmp 13) 2)⟩, ⟨none, none, (.sta (.tmp 4) (.tmp 47) 2)⟩])
theorem L28x1t47 : low Try.prog 67 (at_ Try.f28 [1, 1, 1, 1, 0, 1, 0, 0, 1, 0, 0, 1, 0]) = some R28x1t47 := by kernel_rfl
noncomputable def R28x1t48 : RC := (.reg [⟨(some 48), none, (.mov (.tmp 14))⟩, ⟨(some 1), none, (.mov (.tmp 48))⟩])
theorem L28x1t48 : low Try.prog 67 (at_ Try.f28 [1, 1, 1, 1, 0, 1, 0, 0, 1, 0, 0, 1, 1, 0]) = some R28x1t48 := by kernel_rfl
noncomputable def R28x1e : RC := (.reg [⟨(some 33), none, (.mov (.tmp 12))⟩, ⟨(some 34), none, (.ari .add (.tmp 33) (.const (.int .i64 1)))⟩, ⟨(some 12), none, (.mov (.tmp 34))⟩])
theorem L28x1e : low Try.prog 67 (at_ Try.f28 [1, 1, 1, 1, 0, 1, 0, 0, 1, 1]) = some R28x1e := by kernel_rfl
noncomputable def R28x1v : RC := (.seq (.seq (.reg [⟨(some 29), none, (.mov (.tmp 12))⟩, ⟨(some 30), none, (.mov (.tmp 2))⟩, ⟨(some 31), none, (.len (.tmp 30))⟩, ⟨(some 32), none, (.cmp .lss (.tmp 29) (.tmp 31))⟩])
  (.cond (.tmp 32) .skip
  (.exit 0)))
  (.seq (.block 1 (.seq (.other (at_ Try.f28 [1, 1, 1, 1, 0, 1, 0, 0, 1, 0, 0, 0]))
  (.seq (.other (at_ Try.f28 [1, 1, 1, 1, 0, 1, 0, 0, 1, 0, 0, 1, 0]))
  (.seq (.other (at_ Try.f28 [1, 1, 1, 1, 0, 1, 0, 0, 1, 0, 0, 1, 1, 0]))
  (.seq (.reg [⟨(some 17), none, (.mov (.const (.int .i64 0)))⟩])
  (.block 2 (.other (at_ Try.f28 [1, 1, 1, 1, 0, 1, 0, 0, 1, 0, 0, 1, 1, 1, 1, 0]))))))))
  (.other (at_ Try.f28 [1, 1, 1, 1, 0, 1, 0, 0, 1, 1]))))
theorem V28x1 : LT Try.prog 67 (at_ Try.f28 [1, 1, 1, 1, 0, 1, 0, 0]) R28x1v := by
  have e : at_ Try.f28 [1, 1, 1, 1, 0, 1, 0, 0] = (.seq (at_ Try.f28 [1, 1, 1, 1, 0, 1, 0, 0, 0]) (.seq (.block 1 (.seq (at_ Try.f28 [1, 1, 1, 1, 0, 1, 0, 0, 1, 0, 0, 0]) (.seq (at_ Try.f28 [1, 1, 1, 1, 0, 1, 0, 0, 1, 0, 0, 1, 0]) (.seq (at_ Try.f28 [1, 1, 1, 1, 0, 1, 0, 0, 1, 0, 0, 1, 1, 0]) (at_ Try.f28 [1, 1, 1, 1, 0, 1, 0, 0, 1, 0, 0, 1, 1, 1]))))) (at_ Try.f28 [1, 1, 1, 1, 0, 1, 0, 0, 1, 1]))) := by kernel_rfl
  rw [e]
  exact (.seq (.low (by kernel_rfl)) (.seq (.block 1 (.seq (.other _) (.seq (.other _) (.seq (.other _) (.low (by kernel_rfl)))))) (.other _)))

section
variable {kn : FuncId → Option Bool} {lo : Nat} {H : Hp}
theorem pass_piece28 {S : Rg} {K : Exit → Rg → Hp → Prop} {c : Ch} {x : Hr} {hs : List Hr} {b3 lb ln lcap i : Nat} {v3 : Value} (hc : c.At H) (v : c.Vd) (h3 : Rd H b3 [.slice c.pa c.pn c.pcap, .slice c.ga c.gn c.gcap]) (hl : Rd H lb (hrc hs)) (hx : hs[i]? = some x) (hi : i < ln) (ha : x.At H) (hv : hourB x c.pn c.gn = true) (hlo : lo ≤ H.next)
    (hS : Subs [(4, pt b3), (1, c.wv), (2, slv lb ln lcap), (12, iv i), (3, v3)] S)
    (hK : ∀ S' H' ga' gcap' wa' wcap' b12 b14, Subs [(4, pt b3), (2, slv lb ln lcap), (12, iv i), (3, v3), (13, pt b12), (14, .slice wa' c.pn wcap')] S' → Keep H H' [] → H.next ≤ b12 → H.next ≤ b14 →
      Cl H' b12 [.slice c.pa c.pn c.pcap, .slice ga' c.gn gcap'] → Cl H' b14 (flowsV (hourF c false x c.gs (s0 false c)) (hourF c true x c.gs (s0 true c))) → Sl H' ga' c.gn gcap' (gtc (boardsF x c.gs)) →
      Sl H' wa' c.pn wcap' (spc ((hourF c false x c.gs (s0 false c)).ws.zip (hourF c true x c.gs (s0 true c)).ws)) → (∀ b, ga' = some ⟨b, 0, none⟩ → H.next ≤ b) → (∀ b, wa' = some ⟨b, 0, none⟩ → H.next ≤ b) → K .normal S' H') :
    Tri Try.prog kn lo 67 false (at_ Try.f28 [1, 1, 1, 1, 0, 1, 0, 0, 1, 0, 0, 0]) S H K := by
  obtain ⟨ga', gcap', w, H1, f1, k1, own1, acc1, hcap, hsome⟩ := refpass_ok (kn := kn) (lo := H.next) (H := H) hc v ha hv (Nat.le_refl _)
  obtain ⟨wa', wcap', rfl, slW, frW⟩ := acc1.sl
  have frG : ∀ b, ga' = some ⟨b, 0, none⟩ → H.next ≤ b := fun b e => by
    rcases own1 with ⟨e', _⟩ | ⟨b', e', hl', _⟩
    · rw [e'] at e; cases e
    · rw [e'] at e; cases e; exact hl'
  have m1 := k1.1
  refine tri_piece L28x1t36 hS ?_
  refine wD_dreg ?_
  refine wD_lda (b := b3) (o := 0) rfl h3 (show row 2 _ _ = some [.slice c.pa c.pn c.pcap, .slice c.ga c.gn c.gcap] from rfl) ?_
  refine wD_mov (v := c.wv) rfl ?_
  refine wD_mov (v := slv lb ln lcap) rfl ?_
  refine wD_mov (v := iv i) rfl ?_
  refine wD_idx (b := lb) (o := 0) (k := i) (j := (i : Int)) rfl rfl rfl hi ?_
  refine wD_lda (b := lb) (o := 0 + i * 3) rfl hl (row_flat (f := Hr.v) (fun _ _ => rfl) hx) ?_
  refine wD_callh (vs := [c.cv, c.wv, .agg x.v.toArray]) rfl rfl (callX_args f1) ?_
  refine wD_mov (v := .tuple #[chv c.pa c.pn c.pcap ga' c.gn gcap', .slice wa' c.pn wcap', .agg (flowsV (hourF c false x c.gs (s0 false c)) (hourF c true x c.gs (s0 true c))).toArray, .bool (sideB false x (boardsF x c.gs) (s0 false c))]) rfl ?_
  refine wD_pur (v := chv c.pa c.pn c.pcap ga' c.gn gcap') rfl rfl ?_
  refine wD_pur (v := .slice wa' c.pn wcap') rfl rfl ?_
  refine wD_pur (v := .agg (flowsV (hourF c false x c.gs (s0 false c)) (hourF c true x c.gs (s0 true c))).toArray) rfl rfl ?_
  refine wD_pur (v := .bool (sideB false x (boardsF x c.gs) (s0 false c))) rfl rfl ?_
  refine wD_alc ?_
  intro H2 k2 n2 c2
  refine wD_alc ?_
  intro H3 k3 n3 c3
  have c2 := k3.cl c2 (by simp)
  refine wD_sta (b := H1.next) (o := 0) (v := chv c.pa c.pn c.pcap ga' c.gn gcap') rfl rfl c2 (by omega) rfl rfl (by simp) ?_
  intro H4 k4 n4 c4
  have c4 : Cl H4 H1.next [.slice c.pa c.pn c.pcap, .slice ga' c.gn gcap'] := c4
  refine wD_mov (v := .slice wa' c.pn wcap') rfl ?_
  have c3 := k4.cl c3 (by simp; omega)
  refine wD_sta (b := H2.next) (o := 0) (v := .agg (flowsV (hourF c false x c.gs (s0 false c)) (hourF c true x c.gs (s0 true c))).toArray) rfl rfl c3 (by omega) rfl rfl (by simp) ?_
  intro H5 k5 n5 c5
  have c5 : Cl H5 H2.next (flowsV (hourF c false x c.gs (s0 false c)) (hourF c true x c.gs (s0 true c))) := c5
  have c4 := k5.cl c4 (by simp; omega)
  refine wD_mov (v := .bool (sideB false x (boardsF x c.gs) (s0 false c))) rfl ?_
  have k15 : Keep H1 H5 [] := (((k2.trans k3).new k4 (fun b hb => .inr (by simp at hb; omega)))).new k5 (fun b hb => .inr (by simp at hb; omega))
  refine wD_end (by repeat' first | exact True.intro | exact (fun h => h) | refine And.intro ?_ ?_) ?_
  exact hK _ _ ga' gcap' wa' wcap' H1.next H2.next ⟨rfl, rfl, rfl, rfl, rfl, rfl, trivial⟩ (k1.trans k15) (by omega) (by omega) c4 c5 ((own1.keep k15 (fun b e => by simp)).sl hcap hsome) (k15.sl0 slW) frG frW
theorem st47 {S : Rg} {K : Exit → Rg → Hp → Prop} {b3 b12 : Nat} {u1 u2 p g v2 v3 v12 v14 : Value} (c3 : Cl H b3 [u1, u2]) (c12 : Rd H b12 [p, g]) (hl : lo ≤ b3) (o1 : one p = true) (o2 : one g = true)
    (hS : Subs [(4, pt b3), (2, v2), (12, v12), (3, v3), (13, pt b12), (14, v14)] S)
    (hK : ∀ S' H', Subs [(4, pt b3), (2, v2), (12, v12), (3, v3), (14, v14)] S' → Keep H H' [b3] → Cl H' b3 [p, g] → K .normal S' H') :
    Tri Try.prog kn lo 67 false (at_ Try.f28 [1, 1, 1, 1, 0, 1, 0, 0, 1, 0, 0, 1, 0]) S H K := by
  refine tri_piece L28x1t47 hS ?_
  refine Exists.intro _ (Exists.intro _ (And.intro c12.of (And.intro (show row 2 _ _ = some [p, g] from rfl) ?_)))
  obtain ⟨_, e4, l4, g4⟩ := id c3
  refine Exists.intro _ (Exists.intro _ (Exists.intro _ (And.intro g4 (And.intro hl (And.intro rfl (And.intro (by show ([p, g] : List Value).all one = true; simp [o1, o2]) (And.intro (by simp) ?_)))))))
  intro H4 hH4; obtain ⟨k4, n4, c4⟩ := up_facts c3 hH4; clear hH4
  exact hK _ _ ⟨rfl, rfl, rfl, rfl, rfl, trivial⟩ k4 c4
theorem mv48 {S : Rg} {K : Exit → Rg → Hp → Prop} {v2 v3 v4 v12 v14 : Value}
    (hS : Subs [(4, v4), (2, v2), (12, v12), (3, v3), (14, v14)] S)
    (hK : ∀ S', Subs [(4, v4), (1, v14), (2, v2), (12, v12), (3, v3)] S' → K .normal S' H) :
    Tri Try.prog kn lo 67 false (at_ Try.f28 [1, 1, 1, 1, 0, 1, 0, 0, 1, 0, 0, 1, 1, 0]) S H K := by
  refine tri_piece L28x1t48 hS ?_
  exact hK _ ⟨rfl, rfl, rfl, rfl, rfl, trivial⟩
theorem low_in {S : Rg} {K : Exit → Rg → Hp → Prop} {n wcap mcap : Nat} {wa ma : Option Addr} {l : List (Int × Int)} {ms : List Int} {v2 v4 v12 : Value} (hw : Sl H wa n wcap (spc l)) (hm : Sl H ma n mcap (ints ms)) (hl : l.length = n) (hms : ms.length = n) (hn : n ≤ 1000)
    (hS : Subs [(17, iv ((0 : Nat) : Int)), (1, .slice wa n wcap), (3, .slice ma n mcap), (12, v12), (4, v4), (2, v2)] S)
    (hR : ∀ S' (p : Nat), firstB (l.map Prod.fst) ms 0 = some p → lk S' 8 = some v12 → lk S' 9 = some (iv (p : Int)) → lk S' 10 = some (iv 0) → K .ret S' H)
    (hK : ∀ S', firstB (l.map Prod.fst) ms 0 = none → Subs [(1, .slice wa n wcap), (3, .slice ma n mcap), (12, v12), (4, v4), (2, v2)] S' → K (.exit 2) S' H) :
    Tri Try.prog kn lo 67 false (at_ Try.f28 [1, 1, 1, 1, 0, 1, 0, 0, 1, 0, 0, 1, 1, 1, 1, 0]) S H K := by
  refine loop_low (fn := Try.f28) E28_2 N28 L28x2 (fun i : Nat => [(17, iv (i : Int)), (1, .slice wa n wcap), (3, .slice ma n mcap), (12, v12), (4, v4), (2, v2)])
    (fun k i H' => i + k = n ∧ H' = H ∧ firstB (l.map Prod.fst) ms 0 = firstB ((l.map Prod.fst).drop i) (ms.drop i) i) n 0 ⟨by omega, rfl, rfl⟩ hS ?_
  rintro k i H' ⟨hik, rfl, hfb⟩
  refine And.intro (fun hlt => ?_) (fun hge => ?_)
  · have hi : i < n := by simpa using hlt
    rcases hw with ⟨_, h0, _⟩ | ⟨b1, rfl, r1, _⟩
    · omega
    rcases hm with ⟨_, h0, _⟩ | ⟨b2, rfl, r2, _⟩
    · omega
    obtain ⟨x, hx⟩ := get_some (l := l) (i := i) (by omega)
    obtain ⟨y, hy⟩ := get_some (l := ms) (i := i) (by omega)
    have hd := firstB_drop (l.map Prod.fst) ms i (by simp; omega)
    rw [show (l.map Prod.fst).getD i 0 = x.1 by simp [List.getD, hx], show ms.getD i 0 = y by simp [List.getD, hy]] at hd
    refine Exists.intro i (And.intro rfl (And.intro hi ?_))
    refine Exists.intro _ (Exists.intro _ (And.intro r1.of (And.intro (show _ = some (iv x.1) from row_get (row_flat (f := fun s : Int × Int => [iv s.1, iv s.2]) (fun _ _ => rfl) hx) (j := 0) rfl) (And.intro r1.lt ?_))))
    refine Exists.intro i (And.intro rfl (And.intro hi ?_))
    refine Exists.intro _ (Exists.intro _ (And.intro r2.of (And.intro (show _ = some (iv y) by rw [Nat.zero_add, Nat.mul_one, ints_get (by omega), getD_of hy]) (And.intro r2.lt ?_))))
    refine And.intro (by repeat' first | exact True.intro | exact (fun h => h) | refine And.intro ?_ ?_) ?_
    refine And.intro (fun w => ?_) (fun w => ?_)
    · have w : x.1 < y := by simpa using w
      rw [if_pos w] at hd
      exact hR _ i (hfb.trans hd) rfl rfl rfl
    · have w : ¬ x.1 < y := by simpa using w
      rw [if_neg w] at hd
      refine And.intro ⟨by omega, by omega⟩ ?_
      exact ⟨k - 1, i + 1, by omega, ⟨by omega, rfl, hfb.trans hd⟩, rfl, rfl, rfl, rfl, rfl, rfl, trivial⟩
  · have hi : ¬ i < n := by simpa using hge
    refine hK _ (hfb.trans ?_) ⟨rfl, rfl, rfl, rfl, rfl, trivial⟩
    rw [List.drop_eq_nil_of_le (by simp; omega)]; rfl
end
end Go.Ax
namespace Go.Ax
open Go Go.RowKit Go.Proofs
section
variable {kn : FuncId → Option Bool} {lo : Nat} {F H : Hp}
theorem run28_loop {S : Rg} {K : Exit → Rg → Hp → Prop} {c : Ch} {hs : List Hr} {ms : List Int} {b3 ln lcap mcap : Nat} {la ma : Option Addr} {w0 : RW} (v : c.Vd) (hp : Sl F c.pa c.pn c.pcap (pdc c.ponds)) (hl : Sl F la ln lcap (hrc hs)) (hm : Sl F ma c.pn mcap (ints ms)) (hms : ms.length = c.pn) (hln : hs.length = ln) (ha : ∀ h ∈ hs, h.At F) (hh : ∀ h ∈ hs, hourB h c.pn c.gn = true) (hln2 : ln ≤ 200) (hlo : lo ≤ F.next)
    (l3 : F.next ≤ b3) (hF : Keep F H [])
    (h3 : Cl H b3 [.slice c.pa c.pn c.pcap, .slice w0.ga c.gn w0.gcap]) (hg : Sl H w0.ga c.gn w0.gcap (gtc c.gs)) (hw : Sl H w0.wa c.wn w0.wcap (spc c.ss))
    (hss : (foG false c hs 0).2.ws.zip (foG true c hs 0).2.ws = c.ss) (h0 : w0.i = 0)
    (hS : Subs [(4, pt b3), (1, .slice w0.wa c.wn w0.wcap), (2, .slice la ln lcap), (12, iv w0.i), (3, .slice ma c.pn mcap)] S)
    (hR : ∀ S' H' (i p : Nat), lowGo c ms c.gs (s0 false c) hs 0 = some (i, p) → lk S' 8 = some (iv (i : Int)) → lk S' 9 = some (iv (p : Int)) → lk S' 10 = some (iv 0) → Keep F H' [] → K .ret S' H')
    (hK : ∀ S' H', lowGo c ms c.gs (s0 false c) hs 0 = none → Keep F H' [] → K (.exit 0) S' H') :
    Tri Try.prog kn lo 67 false (at_ Try.f28 [1, 1, 1, 1, 0, 1, 0]) S H K := by
  have hcl : ∀ h ∈ hs, h.cs.length = h.cn := fun h hm => (ha h hm).lc
  refine loop_lt E28_1 V28x1 (fun w : RW => [(4, pt b3), (1, .slice w.wa c.wn w.wcap), (2, .slice la ln lcap), (12, iv w.i), (3, .slice ma c.pn mcap)])
    (fun k w H' => w.i + k = ln ∧ Keep F H' [] ∧ Cl H' b3 [.slice c.pa c.pn c.pcap, .slice w.ga c.gn w.gcap] ∧ Sl H' w.ga c.gn w.gcap (gtc (foG false c hs w.i).1) ∧
      Sl H' w.wa c.wn w.wcap (spc ((foG false c hs w.i).2.ws.zip (foG true c hs w.i).2.ws)) ∧ lowGo c ms c.gs (s0 false c) hs 0 = lowGo c ms (foG false c hs w.i).1 (foG false c hs w.i).2 (hs.drop w.i) w.i) ln w0 ⟨by omega, hF, h3, by rw [h0]; exact hg, by rw [h0, hss]; exact hw, by rw [h0]; rfl⟩ hS ?_
  rintro k ⟨ga, gcap, wa, wcap, i⟩ H2 ⟨hik, hk, c3, sg, sw, hgo⟩
  simp only at hik c3 sg sw hgo
  refine And.intro (fun hlt => ?_) (fun hge => ?_)
  · have hi : i < ln := by simpa using hlt
    have hl2 := hk.sl0 hl
    rcases hl2 with ⟨_, h0, _⟩ | ⟨lb, rfl, hlc, _⟩
    · omega
    obtain ⟨x, hx⟩ := get_some (l := hs) (i := i) (by omega)
    have hxm := List.mem_of_getElem? hx
    have hkn := hk.1
    have hwp := v.wp
    have h16 := v.h16
    have vd := after_vd v hh hcl (i := i) (by omega) ga gcap wa wcap
    have hci : (c.after hs i ga gcap wa wcap).At H2 := ⟨hk.sl0 hp, sg, sw, vd.lp, vd.lg, vd.lw⟩
    refine pass_piece28 (c := c.after hs i ga gcap wa wcap) (x := x) (hs := hs) (b3 := b3) (v3 := .slice ma c.pn mcap) hci vd c3.rd hlc hx hi ((ha x hxm).keep hk) (hh x hxm) (by omega) ⟨rfl, rfl, rfl, rfl, rfl, trivial⟩ ?_
    intro S3 H3 ga' gcap' wa' wcap' b12 b14 hS3 k3 l12 l14 c12 c14 sg' sw' fg fw
    have hn3 := k3.1
    have c3' := k3.cl c3 (by simp)
    have lt3 := c3.lt
    have e1 := foG_plus (g := false) (c := c) hx
    have e2 := foG_plus (g := true) (c := c) hx
    have e5 := foG_step (g := false) (c := c) hx
    have a1 := (fo_ahead v hh hcl false (i + 1) (by omega)).1.len
    have a2 := (fo_ahead v hh hcl true (i + 1) (by omega)).1.len
    have hlen : (foG false c hs i).2.ws.length = (foG true c hs i).2.ws.length := by
      rw [(fo_ahead v hh hcl false i (by omega)).1.len, (fo_ahead v hh hcl true i (by omega)).1.len]
    obtain ⟨z1, z2⟩ := endS_zip _ _ hlen
    have y1 : hourF (c.after hs i ga gcap wa wcap) false x (c.after hs i ga gcap wa wcap).gs (s0 false (c.after hs i ga gcap wa wcap)) = hourF c false x (foG false c hs i).1 ⟨(foG false c hs i).2.ws, 0, 0, 0, 0⟩ := by
      show hourF c false x (foG false c hs i).1 ⟨endS false ((foG false c hs i).2.ws.zip (foG true c hs i).2.ws), 0, 0, 0, 0⟩ = _
      rw [z1]
    have y2 : hourF (c.after hs i ga gcap wa wcap) true x (c.after hs i ga gcap wa wcap).gs (s0 true (c.after hs i ga gcap wa wcap)) = hourF c true x (foG true c hs i).1 ⟨(foG true c hs i).2.ws, 0, 0, 0, 0⟩ := by
      show hourF c true x (foG false c hs i).1 ⟨endS true ((foG false c hs i).2.ws.zip (foG true c hs i).2.ws), 0, 0, 0, 0⟩ = _
      rw [z2, foG_gates]
    have w1 : (foG false c hs (i + 1)).2.ws = (hourF c false x (foG false c hs i).1 ⟨(foG false c hs i).2.ws, 0, 0, 0, 0⟩).ws := by rw [e1]; rfl
    have w2 : (foG true c hs (i + 1)).2.ws = (hourF c true x (foG true c hs i).1 ⟨(foG true c hs i).2.ws, 0, 0, 0, 0⟩).ws := by rw [e2]; rfl
    rw [y1, y2, ← w1, ← w2] at sw'
    have y3 : boardsF x (c.after hs i ga gcap wa wcap).gs = (foG false c hs (i + 1)).1 := by rw [e5]; rfl
    rw [y3] at sg'
    have hg1 := lowGo_drop (c := c) (ms := ms) (gs := (foG false c hs i).1) (s := (foG false c hs i).2) hx
    rw [show hourF c false x (foG false c hs i).1 (foG false c hs i).2 = (foG false c hs (i + 1)).2 by rw [e5], show boardsF x (foG false c hs i).1 = (foG false c hs (i + 1)).1 by rw [e5]] at hg1
    have hz : ((foG false c hs (i + 1)).2.ws.zip (foG true c hs (i + 1)).2.ws).map Prod.fst = (foG false c hs (i + 1)).2.ws := (endS_zip _ _ (by omega)).1
    have hzl : ((foG false c hs (i + 1)).2.ws.zip (foG true c hs (i + 1)).2.ws).length = c.pn := by rw [List.length_zip, a1, a2, v.lp]; omega
    refine st47 c3' c12.rd (by omega) rfl rfl hS3 ?_
    intro S4 H4 hS4 k4 c4
    have m4 := k4.1
    refine mv48 hS4 ?_
    intro S5 hS5
    obtain ⟨d4, d1, d2, d12, d3, _⟩ := hS5
    have kf : Keep F H4 [] := (hk.trans k3).new k4 (fun b hb => .inr (by simp at hb; omega))
    have sw4 := k4.sl sw' (fun b e => by have := fw b e; simp; omega)
    have sg4 := k4.sl sg' (fun b e => by have := fg b e; simp; omega)
    refine low_in (S := (17, iv ((0 : Nat) : Int)) :: S5) (n := c.pn) (wa := wa') (wcap := wcap') (ma := ma) (mcap := mcap) (l := (foG false c hs (i + 1)).2.ws.zip (foG true c hs (i + 1)).2.ws) (ms := ms) (v2 := slv lb ln lcap) (v4 := pt b3) (v12 := iv i) sw4 (kf.sl0 hm) hzl hms (by omega) ⟨rfl, d1, d3, d12, d4, d2, trivial⟩ ?_ ?_
    · intro S6 p hfb e8 e9 e10
      rw [hz] at hfb
      rw [hfb] at hg1
      exact hR S6 H4 i p (hgo.trans hg1) e8 e9 e10 kf
    · intro S6 hfb hS6
      rw [hz] at hfb
      rw [hfb] at hg1
      obtain ⟨f1, f3, f12, f4, f2, _⟩ := hS6
      refine tri_piece (S0 := [(4, pt b3), (1, .slice wa' c.pn wcap'), (2, slv lb ln lcap), (12, iv i), (3, .slice ma c.pn mcap)]) L28x1e ⟨f4, f1, f2, f12, f3, trivial⟩ ?_
      refine And.intro ⟨by omega, by omega⟩ ?_
      refine ⟨k - 1, ⟨ga', gcap', wa', wcap', i + 1⟩, by omega, ⟨by simp only; omega, kf, c4, sg4, ?_, hgo.trans hg1⟩, rfl, by show some (Value.slice wa' c.pn wcap') = some (Value.slice wa' c.wn wcap'); rw [hwp], rfl, rfl, rfl, trivial⟩
      show Sl H4 wa' c.wn wcap' _
      rw [hwp]; exact sw4
  · have hi : ¬ i < ln := by simpa using hge
    have hl : i = ln := by omega
    subst hl
    refine hK _ _ (hgo.trans ?_) hk
    rw [List.drop_eq_nil_of_le (by omega)]; rfl
end
end Go.Ax
namespace Go.Ax
open Go Go.RowKit Go.Proofs
section
variable {kn : FuncId → Option Bool} {lo : Nat} {H : Hp}
theorem reflow_ok {q : LQ} (hc : q.c.At H) (hl : Sl H q.la q.ln q.lcap (hrc q.hs)) (hln : q.hs.length = q.ln) (hh : ∀ h ∈ q.hs, h.At H ∧ h.bn ≤ 1000 ∧ h.cn ≤ 1000 ∧ h.tn ≤ 1000) (hm : Sl H q.ma q.mn q.mcap (ints q.ms)) (hmn : q.ms.length = q.mn) (hpn : q.c.pn ≤ 1000) (hgn : q.c.gn ≤ 1000) (hlo : lo ≤ H.next) :
    ∃ H', FnX Try.prog kn lo 28 [q.c.cv, q.c.wv, .slice q.la q.ln q.lcap, .slice q.ma q.mn q.mcap] H (.tuple #[iv q.v.1, iv q.v.2.1, iv q.v.2.2]) H' ∧ Keep H H' [] := by
  have key := fnX_low (kn := kn) (lo := lo) (H := H) (args := [q.c.cv, q.c.wv, .slice q.la q.ln q.lcap, .slice q.ma q.mn q.mcap]) (Q := fun v H' => v = .tuple #[iv q.v.1, iv q.v.2.1, iv q.v.2.2] ∧ Keep H H' []) Try.func28 B28 N28 Z28 L28 (by simp) ?_
  · obtain ⟨v, H', h, rfl, k⟩ := key; exact ⟨H', h, k⟩
  intro H1 hH1; obtain ⟨k1, n1, c1⟩ := new_facts hH1; clear hH1
  have c1 : Cl H1 H.next [.slice q.c.pa q.c.pn q.c.pcap, .slice q.c.ga q.c.gn q.c.gcap] := c1
  have m1 := k1.1
  refine Exists.intro _ (Exists.intro _ (And.intro c1.of (And.intro (show row 2 _ _ = some [.slice q.c.pa q.c.pn q.c.pcap, .slice q.c.ga q.c.gn q.c.gcap] from rfl) ?_)))
  obtain ⟨H2, f2, k2⟩ := refvalid_ok (kn := kn) (lo := lo) (H := H1) (hc.keep k1) (k1.sl0 hl) hln (fun h hm => ⟨(hh h hm).1.keep k1, (hh h hm).2⟩) hpn hgn (by omega)
  refine Exists.intro _ (Exists.intro _ (And.intro (callX_args f2) ?_))
  have m2 := k2.1
  have k02 := k1.trans k2
  have c1 := k2.cl c1 (by simp)
  refine And.intro (fun hne => ?_) (fun heq => ?_)
  · have he : checkE q.c q.hs q.ln ≠ 0 := by simpa using hne
    exact And.intro trivial (Exists.intro _ (And.intro rfl (⟨by simp only [LQ.v, if_neg he]; rfl, k02⟩)))
  have he : checkE q.c q.hs q.ln = 0 := by simpa using heq
  have hok : q.c.ok = true ∧ (∀ h ∈ q.hs, hourB h q.c.pn q.c.gn = true) ∧ q.ln ≤ 200 := by
    have he := he
    unfold checkE at he
    split at he
    · omega
    · split at he
      · rename_i h1 h2
        simp only [Bool.and_eq_true, List.all_eq_true] at h2
        exact ⟨h2.1, h2.2, by omega⟩
      · omega
  obtain ⟨ok1, ok2, ok3⟩ := hok
  have v := Ch.vd ok1 hc.lp hc.lg hc.lw
  have hc2 := hc.keep k02
  refine Exists.intro _ (Exists.intro _ (And.intro c1.of (And.intro (show row 2 _ _ = some [.slice q.c.pa q.c.pn q.c.pcap, .slice q.c.ga q.c.gn q.c.gcap] from rfl) ?_)))
  refine callB (refleast_ok (lo := lo) (ga := q.c.ga) (gn := q.c.gn) (gcap := q.c.gcap) hc2.p hc2.lp (k02.sl0 hm) hmn hpn (by omega)) ?_
  intro t H3 h3 k3
  have k03 := k02.trans k3
  cases t
  · refine And.intro rfl (Exists.intro (.bool true) (And.intro rfl ?_))
    refine condT ?_
    exact And.intro trivial (Exists.intro _ (And.intro rfl (⟨by simp only [LQ.v, if_pos he, h3]; rfl, k03⟩)))
  refine And.intro rfl (Exists.intro (.bool false) (And.intro rfl ?_))
  refine condF ?_
  have c1 := k3.cl c1 (by simp)
  have hc3 := hc.keep k03
  have hmp : q.mn = q.c.pn := by
    simp [leastB] at h3; omega
  have hv : q.v = match q.go with | some (i, p) => ((i : Int), (p : Int), 0) | none => (0, 0, 4) := by
    simp only [LQ.v, if_pos he, h3, if_true]
    cases q.go <;> rfl
  have hm' := hm
  rw [hmp] at hm' hmn
  refine run28_loop (F := H) (c := q.c) (hs := q.hs) (ms := q.ms) (b3 := H.next) (ma := q.ma) (mcap := q.mcap) (w0 := ⟨q.c.ga, q.c.gcap, q.c.wa, q.c.wcap, 0⟩) v hc.p hl hm' hmn hln (fun h hm => (hh h hm).1) ok2 ok3 hlo (Nat.le_refl _) k03 c1 hc3.g hc3.w (zip_self _) rfl ⟨rfl, rfl, rfl, rfl, by show some (Value.slice q.ma q.mn q.mcap) = _; rw [hmp], trivial⟩ ?_ ?_
  · intro S' H' i p hgo e8 e9 e10 k
    have hgo' : q.go = some (i, p) := hgo
    rw [hgo'] at hv
    refine And.intro trivial (Exists.intro [iv (i : Int), iv (p : Int), iv 0] (And.intro ?_ ⟨by rw [hv]; rfl, k⟩))
    show resS Try.prog S' _ [.tmp 8, .tmp 9, .tmp 10] = _
    simp only [resS, e8, e9, e10]
  · intro S' H' hgo k
    have hgo' : q.go = none := hgo
    rw [hgo'] at hv
    exact And.intro trivial (Exists.intro _ (And.intro rfl (⟨by rw [hv]; rfl, k⟩)))
end
end Go.Ax
namespace Go.Ax
open Go Go.RowKit Go.Proofs
def runL (q : BQ) : List (Int × Int) := if checkE q.c q.hs q.ln = 0 then q.s.ws.zip q.t.ws else []
def runF (q : BQ) : List Value := if checkE q.c q.hs q.ln = 0 then flowsV q.s q.t else zero8
theorem runF_eight (q : BQ) : ∃ x1 x2 x3 x4 x5 x6 x7 x8 : Int, runF q = [iv x1, iv x2, iv x3, iv x4, iv x5, iv x6, iv x7, iv x8] := by
  unfold runF
  split
  · exact ⟨_, _, _, _, _, _, _, _, rfl⟩
  · exact ⟨_, _, _, _, _, _, _, _, rfl⟩
theorem runL_len {q : BQ} {H : Hp} (hc : q.c.At H) (he : checkE q.c q.hs q.ln = 0) : (runL q).length = q.c.wn := by
  unfold runL; rw [if_pos he, List.length_zip]
  unfold BQ.s BQ.t
  rw [fo_len, fo_len, hc.lw]; simp
theorem run_uni {q : BQ} {H H' : Hp} {v : Value} (p : RunB q H' v) (hc : q.c.At H) : ∃ a cap, v = .tuple #[.slice a (runL q).length cap, .agg (runF q).toArray, iv (checkE q.c q.hs q.ln)] ∧ Sl H' a (runL q).length cap (spc (runL q)) := by
  by_cases he : checkE q.c q.hs q.ln = 0
  · obtain ⟨a, cap, e, s⟩ := p.ok he
    rw [runL_len hc he]
    refine ⟨a, cap, by rw [e, he]; simp only [runF, if_pos he], ?_⟩
    rw [show runL q = _ from if_pos he]; exact s
  · refine ⟨none, 0, ?_, ?_⟩
    · rw [p.bad he]; simp [runL, runF, if_neg he]
    · rw [show runL q = [] from if_neg he]; exact .inl ⟨.inl rfl, rfl, rfl, rfl⟩
section
variable {kn : FuncId → Option Bool} {lo : Nat} {H : Hp}
theorem law_runs (hkn : kn 15 = some true) {q : LQ} (hc : q.c.At H) (hl : Sl H q.la q.ln q.lcap (hrc q.hs)) (hln : q.hs.length = q.ln) (hh : ∀ h ∈ q.hs, h.At H) (hm : Sl H q.ma q.mn q.mcap (ints q.ms)) (hmn : q.ms.length = q.mn) (hlo : lo ≤ H.next) :
    ∃ H', FnX Try.prog kn lo 4 [q.c.cv, q.c.wv, .slice q.la q.ln q.lcap, .slice q.ma q.mn q.mcap] H (.bool true) H' := by
  have key := fnX_low (kn := kn) (lo := lo) (H := H) (args := [q.c.cv, q.c.wv, .slice q.la q.ln q.lcap, .slice q.ma q.mn q.mcap]) (Q := fun v H' => v = .bool true) Try.func4 B4 N4 Z4 L4 (by simp) ?_
  · obtain ⟨v, H', hf, rfl⟩ := key; exact ⟨H', hf⟩
  intro H1 hH1; obtain ⟨k1, n1, c1⟩ := new_facts hH1; clear hH1
  have c1 : Cl H1 H.next [.slice q.c.pa q.c.pn q.c.pcap, .slice q.c.ga q.c.gn q.c.gcap] := c1
  have m1 := k1.1
  have al : ∀ (H9 : Hp) (K : Value → Hp → Prop), K (.bool true) H9 → ∃ v H', CallsX Try.prog kn lo (.fn (.func 15) #[]) [] H9 v H' ∧ K v H' := fun H9 K h => ⟨_, _, callX_known hkn, h⟩
  refine callB many_ok ?_
  intro t2 H2 h2 k2
  have k02 := k1.trans k2
  have m2 := k02.1
  cases t2
  rotate_left
  · repeat (refine And.intro rfl (Exists.intro (.bool true) (And.intro rfl ?_)))
    refine condT ?_
    refine al _ _ ?_
    exact And.intro trivial (Exists.intro _ (And.intro rfl (rfl)))
  have hmany : q.ln ≤ 205 := by
    simp [manyB] at h2; omega
  have c1 := k2.cl c1 (by simp)
  refine Exists.intro _ (Exists.intro _ (And.intro c1.of (And.intro (show row 2 _ _ = some [.slice q.c.pa q.c.pn q.c.pcap, .slice q.c.ga q.c.gn q.c.gcap] from rfl) ?_)))
  refine callB (great_ok (lo := lo) (c := q.c) (k02.sl0 hl) hln (by omega) (by omega)) ?_
  intro t3 H3 h3 k3
  have k03 := k02.trans k3
  have m3 := k03.1
  have m2' := k2.1; have m3' := k3.1
  cases t3
  rotate_left
  · repeat (refine And.intro rfl (Exists.intro (.bool true) (And.intro rfl ?_)))
    refine condT ?_
    refine al _ _ ?_
    exact And.intro trivial (Exists.intro _ (And.intro rfl (rfl)))
  refine And.intro rfl (Exists.intro (.bool false) (And.intro rfl ?_))
  intro t4 h4
  refine And.intro rfl (Exists.intro (.bool t4) (And.intro rfl ?_))
  cases t4
  rotate_left
  · refine condT ?_
    refine al _ _ ?_
    exact And.intro trivial (Exists.intro _ (And.intro rfl (rfl)))
  refine condF ?_
  have hbn : q.c.pn ≤ 20 ∧ q.c.gn ≤ 40 ∧ q.c.wn ≤ 20 ∧ ∀ h ∈ q.hs, h.bn ≤ 40 ∧ h.cn ≤ 20 ∧ h.tn ≤ 40 := by
    simp only [greatB, Bool.or_eq_false_iff, decide_eq_false_iff_not, List.any_eq_false, greatH, Bool.or_eq_true, decide_eq_true_eq] at h3
    obtain ⟨⟨⟨a1, a2⟩, a3⟩, a4⟩ := h3
    refine ⟨by omega, by omega, by omega, fun h hm => ?_⟩
    have := a4 h hm
    omega
  obtain ⟨b1, b2, b3, b4⟩ := hbn
  have hmore : ∀ H9, Keep H H9 [] → ∀ h ∈ q.hs, h.At H9 ∧ h.bn ≤ 1000 ∧ h.cn ≤ 1000 ∧ h.tn ≤ 1000 := fun H9 k h hm => ⟨(hh h hm).keep k, by have := b4 h hm; omega, by have := b4 h hm; omega, by have := b4 h hm; omega⟩
  have c1 := k3.cl c1 (by simp)
  let Q : BQ := ⟨q.c, q.la, q.ln, q.lcap, q.hs⟩
  obtain ⟨x1, x2, x3, x4, x5, x6, x7, x8, hx⟩ := runF_eight Q
  have hsmall : (runL Q).length ≤ 1000 := by
    by_cases he : checkE Q.c Q.hs Q.ln = 0
    · rw [runL_len (q := Q) hc he]; show q.c.wn ≤ 1000; omega
    · rw [show runL Q = [] from if_neg he]; simp
  refine Exists.intro _ (Exists.intro _ (And.intro c1.of (And.intro (show row 2 _ _ = some [.slice q.c.pa q.c.pn q.c.pcap, .slice q.c.ga q.c.gn q.c.gcap] from rfl) ?_)))
  obtain ⟨v5, H5, h5, k5, p5⟩ := run_ok (kn := kn) (lo := lo) (H := H3) (q := Q) (hc.keep k03) (k03.sl0 hl) hln (fun h hm => (hh h hm).keep k03) (by omega)
  obtain ⟨a5, cap5, rfl, s5⟩ := run_uni p5.toB hc
  rw [hx] at h5
  have m5 := k5.1
  refine Exists.intro _ (Exists.intro _ (And.intro (callX_args h5) ?_))
  refine And.intro rfl (Exists.intro (_) (And.intro rfl ?_))
  refine And.intro rfl (Exists.intro (_) (And.intro rfl ?_))
  refine And.intro rfl (Exists.intro (_) (And.intro rfl ?_))
  intro H6 hH6; obtain ⟨k6, n6, c6⟩ := new_facts hH6; clear hH6
  have k36 := k5.trans k6
  have c1 := k36.cl c1 (by simp)
  have m6 := k6.1
  obtain ⟨_, e7, l7, g7⟩ := id c6
  refine Exists.intro _ (Exists.intro _ (Exists.intro _ (And.intro g7 (And.intro (by omega) (And.intro rfl (And.intro rfl (And.intro (by simp) ?_)))))))
  intro H7 hH7; obtain ⟨k7, n7, c7⟩ := up_facts c6 hH7; clear hH7
  have c7 : Cl H7 H5.next [iv x1, iv x2, iv x3, iv x4, iv x5, iv x6, iv x7, iv x8] := c7
  have k57 : Keep H5 H7 [] := k6.new k7 (fun b hb => .inr (by simp at hb; omega))
  have s5 := k57.sl0 s5
  have c1 := k7.cl c1 (by simp; omega)
  have k07 := k03.trans (k5.trans k57)
  have m7 := k07.1
  refine Exists.intro _ (Exists.intro _ (And.intro c1.of (And.intro (show row 2 _ _ = some [.slice q.c.pa q.c.pn q.c.pcap, .slice q.c.ga q.c.gn q.c.gcap] from rfl) ?_)))
  obtain ⟨v8, H8, h8, k8, p8⟩ := refrun_ok (kn := kn) (lo := lo) (H := H7) (q := Q) (hc.keep k07) (k07.sl0 hl) hln (hmore _ k07) (by show q.c.pn ≤ 1000; omega) (by show q.c.gn ≤ 1000; omega) (by omega)
  obtain ⟨a8, cap8, rfl, s8⟩ := run_uni p8 hc
  rw [hx] at h8
  have m8 := k8.1
  refine Exists.intro _ (Exists.intro _ (And.intro (callX_args h8) ?_))
  refine And.intro rfl (Exists.intro (_) (And.intro rfl ?_))
  refine And.intro rfl (Exists.intro (_) (And.intro rfl ?_))
  refine And.intro rfl (Exists.intro (_) (And.intro rfl ?_))
  intro H9 hH9; obtain ⟨k9, n9, c9⟩ := new_facts hH9; clear hH9
  have k79 := k8.trans k9
  have c1 := k79.cl c1 (by simp)
  have c7 := k79.cl c7 (by simp)
  have m9 := k9.1
  obtain ⟨_, e10, l10, g10⟩ := id c9
  refine Exists.intro _ (Exists.intro _ (Exists.intro _ (And.intro g10 (And.intro (by omega) (And.intro rfl (And.intro rfl (And.intro (by simp) ?_)))))))
  intro H10 hH10; obtain ⟨k10, n10, c10⟩ := up_facts c9 hH10; clear hH10
  have c10 : Cl H10 H8.next [iv x1, iv x2, iv x3, iv x4, iv x5, iv x6, iv x7, iv x8] := c10
  have k810 : Keep H8 H10 [] := k9.new k10 (fun b hb => .inr (by simp at hb; omega))
  have k710 := k8.trans k810
  have s5 := k710.sl0 s5
  have s8 := k810.sl0 s8
  have c1 := k10.cl c1 (by simp; omega)
  have c7 := k10.cl c7 (by simp; omega)
  have k010 := k07.trans k710
  have m10 := k010.1
  refine Exists.intro _ (Exists.intro _ (And.intro c1.of (And.intro (show row 2 _ _ = some [.slice q.c.pa q.c.pn q.c.pcap, .slice q.c.ga q.c.gn q.c.gcap] from rfl) ?_)))
  obtain ⟨H11, h11, k11⟩ := low_ok (kn := kn) (lo := lo) (H := H10) (q := q) (hc.keep k010) (k010.sl0 hl) hln (fun h hm => (hh h hm).keep k010) (k010.sl0 hm) hmn (by omega)
  have m11 := k11.1
  refine Exists.intro _ (Exists.intro _ (And.intro (callX_args h11) ?_))
  refine And.intro rfl (Exists.intro (_) (And.intro rfl ?_))
  refine And.intro rfl (Exists.intro (_) (And.intro rfl ?_))
  refine And.intro rfl (Exists.intro (_) (And.intro rfl ?_))
  have c1 := k11.cl c1 (by simp)
  have k011 := k010.trans k11
  refine Exists.intro _ (Exists.intro _ (And.intro c1.of (And.intro (show row 2 _ _ = some [.slice q.c.pa q.c.pn q.c.pcap, .slice q.c.ga q.c.gn q.c.gcap] from rfl) ?_)))
  obtain ⟨H12, h12, k12⟩ := reflow_ok (kn := kn) (lo := lo) (H := H11) (q := q) (hc.keep k011) (k011.sl0 hl) hln (hmore _ k011) (k011.sl0 hm) hmn (by omega) (by omega) (by omega)
  refine Exists.intro _ (Exists.intro _ (And.intro (callX_args h12) ?_))
  refine And.intro rfl (Exists.intro (_) (And.intro rfl ?_))
  refine And.intro rfl (Exists.intro (_) (And.intro rfl ?_))
  refine And.intro rfl (Exists.intro (_) (And.intro rfl ?_))
  have k1012 := k11.trans k12
  have s5 := k1012.sl0 s5
  have s8 := k1012.sl0 s8
  have c7 := k1012.cl c7 (by simp)
  have c10 := k1012.cl c10 (by simp)
  have f22 := spans_same (kn := kn) (lo := lo) s5 s8 rfl hsmall
  refine Exists.intro _ (Exists.intro _ (And.intro (callX_args f22) ?_))
  refine Exists.intro _ (Exists.intro _ (And.intro c7.of (And.intro (show row 8 _ _ = some [iv x1, iv x2, iv x3, iv x4, iv x5, iv x6, iv x7, iv x8] from rfl) ?_)))
  refine Exists.intro _ (Exists.intro _ (And.intro c10.of (And.intro (show row 8 _ _ = some [iv x1, iv x2, iv x3, iv x4, iv x5, iv x6, iv x7, iv x8] from rfl) ?_)))
  refine And.intro rfl (Exists.intro (.bool true) (And.intro (pur_eql37 (x1 := x1) (x2 := x2) (x3 := x3) (x4 := x4) (x5 := x5) (x6 := x6) (x7 := x7) (x8 := x8) rfl rfl rfl) ?_))
  refine And.intro rfl (Exists.intro (.bool true) (And.intro rfl ?_))
  have yes : ∀ (a : Int) (u : Bool), (a == a) = u → u = true := fun a u h => by rw [← h]; simp
  intro u1 hu1; obtain rfl := yes _ _ hu1
  refine And.intro rfl (Exists.intro (.bool true) (And.intro rfl ?_))
  intro u2 hu2; obtain rfl := yes _ _ hu2
  refine And.intro rfl (Exists.intro (.bool true) (And.intro rfl ?_))
  intro u3 hu3; obtain rfl := yes _ _ hu3
  refine And.intro rfl (Exists.intro (.bool true) (And.intro rfl ?_))
  intro u4 hu4; obtain rfl := yes _ _ hu4
  refine And.intro rfl (Exists.intro (.bool true) (And.intro rfl ?_))
  refine al _ _ ?_
  refine And.intro rfl (Exists.intro (.bool true) (And.intro rfl ?_))
  exact And.intro trivial (Exists.intro _ (And.intro rfl (rfl)))
end
end Go.Ax

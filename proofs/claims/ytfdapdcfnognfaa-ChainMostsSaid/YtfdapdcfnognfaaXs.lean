import Derived.Test.YtfdapdcfnognfaaXr
set_option linter.all false
namespace Go.Ax
open Go Go.RowKit Go.Proofs
noncomputable def R50x1t35 : RC := (.dreg [⟨(some 35), none, (.mov (.tmp 13))⟩, ⟨(some 36), none, (.addo (.tmp 11) 0)⟩, ⟨(some 37), none, (.ld (.tmp 36) 1)⟩, ⟨(some 38), none, (.mov (.tmp 14))⟩, ⟨(some 39), none, (.idx (.tmp 37) (.tmp 38) 1)⟩, ⟨(some 40), none, (.ld (.tmp 39) 1)⟩, ⟨(some 41), none, (.addo (.tmp 12) 0)⟩, ⟨(some 42), none, (.ld (.tmp 41) 1)⟩, ⟨(some 43), none, (.mov (.tmp 14))⟩, ⟨(some 44), none, (.idx (.tmp 42) (.tmp 43) 1)⟩, ⟨(some 45), none, (.ld (.tmp 44) 1)⟩, ⟨(some 46), none, (.pur ⟨(some 46), (.build 35 (List.toArray [(0, (.tmp 40)), (1, (.tmp 45))])), 35, "", (List.toArray []), none⟩)⟩, ⟨(some 47), none, (.mem ⟨(some 47), (.buildSlice 26 1 (List.toArray [(0, (.tmp 46))])), 26, "", (List.toArray []), none⟩)⟩, ⟨(some 48), none, (.mem ⟨(some 48), (.call ⟨(.builtin .append), (List.toArray [(.tmp 35), (.tmp 47)]), (List.toArray [26, 26])⟩), 26, "", (List.toArray []), none⟩)⟩, ⟨(some 13), none, (.mov (.tmp 48))⟩] [16383, 8191, 4094, 2046, 960, 448, 0, 64, 0, 30, 14, 0, 2, 0, 0])
theorem L50x1t35 : low Try.prog 75 (at_ Try.f50 [1, 1, 1, 1, 0, 1, 0, 0, 1, 0, 0]) = some R50x1t35 := by kernel_rfl
noncomputable def R50x1e : RC := (.reg [⟨(some 33), none, (.mov (.tmp 14))⟩, ⟨(some 34), none, (.ari .add (.tmp 33) (.const (.int .i64 1)))⟩, ⟨(some 14), none, (.mov (.tmp 34))⟩])
theorem L50x1e : low Try.prog 75 (at_ Try.f50 [1, 1, 1, 1, 0, 1, 0, 0, 1, 1]) = some R50x1e := by kernel_rfl
noncomputable def R50x1v : RC := (.seq (.seq (.reg [⟨(some 29), none, (.mov (.tmp 14))⟩, ⟨(some 30), none, (.mov (.tmp 1))⟩, ⟨(some 31), none, (.len (.tmp 30))⟩, ⟨(some 32), none, (.cmp .lss (.tmp 29) (.tmp 31))⟩])
  (.cond (.tmp 32) .skip
  (.exit 0)))
  (.seq (.block 1 (.other (at_ Try.f50 [1, 1, 1, 1, 0, 1, 0, 0, 1, 0, 0])))
  (.other (at_ Try.f50 [1, 1, 1, 1, 0, 1, 0, 0, 1, 1]))))
theorem V50x1 : LT Try.prog 75 (at_ Try.f50 [1, 1, 1, 1, 0, 1, 0, 0]) R50x1v := by
  have e : at_ Try.f50 [1, 1, 1, 1, 0, 1, 0, 0] = (.seq (at_ Try.f50 [1, 1, 1, 1, 0, 1, 0, 0, 0]) (.seq (.block 1 (at_ Try.f50 [1, 1, 1, 1, 0, 1, 0, 0, 1, 0, 0])) (at_ Try.f50 [1, 1, 1, 1, 0, 1, 0, 0, 1, 1]))) := by kernel_rfl
  rw [e]
  exact (.seq (.low (by kernel_rfl)) (.seq (.block 1 (.other _)) (.other _)))

section
variable {kn : FuncId → Option Bool} {lo : Nat} {F H : Hp} {c : Ch} {h : Hr}
/-- A span of each pond, put behind the list. -/
theorem out_tail {S : Rg} {K : Exit → Rg → Hp → Prop} {b11 b12 b10 b5 b6 b8 wb1 wb2 n cap1 cap2 i f : Nat} {u1 u2 : List Value} {ws1 ws2 : List Int} {w wv : Value} {cs : List (Int × Int)} {a b : Int} (h11 : Rd H b11 (.slice (some ⟨wb1, 0, none⟩) n cap1 :: u1)) (h12 : Rd H b12 (.slice (some ⟨wb2, 0, none⟩) n cap2 :: u2)) (r1 : Rd H wb1 (ints ws1)) (r2 : Rd H wb2 (ints ws2)) (ha : ws1[i]? = some a) (hb : ws2[i]? = some b) (hi : i < n) (hil : cs.length = i) (hi2 : i < 1000) (acc : Acc lo f 35 H w i (spc cs)) (hf : f ≤ H.next) (hlo : lo ≤ H.next)
    (hS : Subs [(14, iv (i : Int)), (13, w), (11, pt b11), (12, pt b12), (10, pt b10), (1, wv), (3, pt b5), (6, pt b6), (8, pt b8)] S)
    (hK : ∀ w' S' H', Subs [(14, iv (i : Int)), (13, w'), (11, pt b11), (12, pt b12), (10, pt b10), (1, wv), (3, pt b5), (6, pt b6), (8, pt b8)] S' → Acc lo f 35 H' w' (i + 1) (spc (cs ++ [(a, b)])) → Keep H H' (accB w) → K .normal S' H') :
    Tri Try.prog kn lo 75 false (at_ Try.f50 [1, 1, 1, 1, 0, 1, 0, 0, 1, 0, 0]) S H K := by
  have hblk := acc.blk
  refine tri_piece L50x1t35 hS ?_
  refine Exists.intro _ (Exists.intro _ (And.intro h11.of (And.intro rfl (And.intro h11.lt ?_))))
  refine Exists.intro i (And.intro rfl (And.intro hi ?_))
  refine Exists.intro _ (Exists.intro _ (And.intro r1.of (And.intro (show _ = some (iv a) by rw [Nat.zero_add, Nat.mul_one]; simp [ints, ha]) (And.intro r1.lt ?_))))
  refine Exists.intro _ (Exists.intro _ (And.intro h12.of (And.intro rfl (And.intro h12.lt ?_))))
  refine Exists.intro i (And.intro rfl (And.intro hi ?_))
  refine Exists.intro _ (Exists.intro _ (And.intro r2.of (And.intro (show _ = some (iv b) by rw [Nat.zero_add, Nat.mul_one]; simp [ints, hb]) (And.intro r2.lt ?_))))
  refine And.intro rfl (Exists.intro (sp a b) (And.intro (pure_span (lo := lo) rfl rfl) ?_))
  obtain ⟨H6, hH6⟩ : ∃ H6, H.new (.cells [iv a, iv b] 35 false) = H6 := ⟨_, rfl⟩
  refine And.intro rfl (Or.inr (And.intro rfl (Exists.intro _ (Exists.intro H6 (Exists.intro _ (And.intro ((heap_build1 (v := sp a b) se26 z35 rfl rfl rfl (by decide)).trans (by rw [← hH6]; rfl)) (And.intro (fun b e => by cases e) ?_)))))))
  obtain ⟨k6, n6, c6⟩ := new_facts hH6
  clear hH6
  have hsl : Sl H6 (some ⟨H.next, 0, none⟩) 1 1 [iv a, iv b] := .inr ⟨H.next, rfl, c6.rd, Nat.le_refl _⟩
  have m6 := k6.1
  obtain ⟨H7, kd, h7', hkd, acc7, k7, n7⟩ := heap_append_two (P := Try.prog) (lo := lo) (k := i) (t1 := 26) se26 u26 hsl rfl (by decide) rfl (by unfold spc; rw [flat_len (size := 2) (fun _ _ => rfl), hil]) (by omega) (acc.keep k6) (by omega) (by omega)
  have e2 : spc (cs ++ [(a, b)]) = spc cs ++ [iv a, iv b] := by simp [spc, List.flatMap_append]
  rw [← e2] at acc7
  refine And.intro rfl (Or.inr (And.intro (by cases w <;> kernel_rfl) (Exists.intro _ (Exists.intro H7 (Exists.intro _ (And.intro (h7' _ _ _ _ _ _ _ rfl rfl) (And.intro (reg_ok hkd _) ?_)))))))
  rcases hkd with rfl | ⟨bk, rfl, hbk⟩
  all_goals
    refine And.intro (by repeat' first | exact True.intro | exact (fun h => h) | refine And.intro ?_ ?_) ?_
    exact hK _ _ H7 ⟨rfl, rfl, rfl, rfl, rfl, rfl, rfl, rfl, rfl, trivial⟩ acc7 ((k6.mono (by simp)).trans k7)
theorem out_loop {S : Rg} {K : Exit → Rg → Hp → Prop} {b11 b12 b10 b5 b6 b8 wb1 wb2 n cap1 cap2 : Nat} {u1 u2 : List Value} {ws1 ws2 : List Int} {wa : Option Addr} {wn wcap : Nat} (hwn : wn = n) (h11 : Rd H b11 (.slice (some ⟨wb1, 0, none⟩) n cap1 :: u1)) (h12 : Rd H b12 (.slice (some ⟨wb2, 0, none⟩) n cap2 :: u2)) (r1 : Rd H wb1 (ints ws1)) (r2 : Rd H wb2 (ints ws2)) (hn1 : ws1.length = n) (hn2 : ws2.length = n) (hn : n < 1000) (hlo : lo ≤ H.next)
    (hS : Subs [(14, iv ((0 : Nat) : Int)), (13, .slice none 0 0), (11, pt b11), (12, pt b12), (10, pt b10), (1, .slice wa wn wcap), (3, pt b5), (6, pt b6), (8, pt b8)] S)
    (hK : ∀ w v29 v30 v31 v32 H', Acc lo H.next 35 H' w n (spc (ws1.zip ws2)) → Keep H H' [] → K (.exit 0) [(32, v32), (31, v31), (30, v30), (29, v29), (14, iv (n : Int)), (13, w), (11, pt b11), (12, pt b12), (10, pt b10), (1, .slice wa wn wcap), (3, pt b5), (6, pt b6), (8, pt b8)] H') :
    Tri Try.prog kn lo 75 false (at_ Try.f50 [1, 1, 1, 1, 0, 1, 0]) S H K := by
  refine loop_lt E50_1 V50x1 (fun x : Value × Nat => [(14, iv (x.2 : Int)), (13, x.1), (11, pt b11), (12, pt b12), (10, pt b10), (1, .slice wa wn wcap), (3, pt b5), (6, pt b6), (8, pt b8)])
    (fun k x H2 => x.2 + k = n ∧ Keep H H2 [] ∧ Acc lo H.next 35 H2 x.1 x.2 (spc ((ws1.zip ws2).take x.2)))
    n (.slice none 0 0, 0) ⟨by simp, Keep.refl H _, .inl ⟨rfl, rfl, rfl⟩⟩ hS ?_
  rintro k ⟨w, i⟩ H2 ⟨hik, hk, hacc⟩
  simp only at hik hacc
  have hkn := hk.1
  refine And.intro (fun hlt => ?_) (fun hge => ?_)
  · have hi : i < n := by
      have : i < wn := by simpa using hlt
      omega
    obtain ⟨a, ha⟩ := get_some (l := ws1) (i := i) (by omega)
    obtain ⟨b, hb⟩ := get_some (l := ws2) (i := i) (by omega)
    have hblk := hacc.blk
    refine out_tail (b10 := b10) (b5 := b5) (b6 := b6) (b8 := b8) (wv := .slice wa wn wcap) (hk.rd h11 (by simp)) (hk.rd h12 (by simp)) (hk.rd r1 (by simp)) (hk.rd r2 (by simp)) ha hb hi (by rw [List.length_take, List.length_zip]; omega) (by omega) hacc (by omega) (by omega) ⟨rfl, rfl, rfl, rfl, rfl, rfl, rfl, rfl, rfl, trivial⟩ ?_
    intro w' S' H3 hS' acc' k'
    refine tri_piece L50x1e hS' ?_
    refine And.intro ⟨by omega, by omega⟩ ?_
    refine ⟨k - 1, (w', i + 1), by omega, ⟨by simp only; omega, hk.new k' (fun b hb => .inr (hblk b hb).1), ?_⟩, rfl, rfl, rfl, rfl, rfl, rfl, rfl, rfl, rfl, trivial⟩
    have e2 : (ws1.zip ws2).take (i + 1) = (ws1.zip ws2).take i ++ [(a, b)] := by
      rw [List.take_add_one, zip2_get ha hb]; rfl
    show Acc lo H.next 35 H3 w' (i + 1) (spc ((ws1.zip ws2).take (i + 1)))
    rw [e2]; exact acc'
  · have hi : ¬ i < n := by
      have : ¬ i < wn := by simpa using hge
      omega
    have hl : i = n := by omega
    subst hl
    rw [List.take_of_length_le (by rw [List.length_zip]; omega)] at hacc
    exact hK _ _ _ _ _ _ hacc hk
theorem res_pass {S : Rg} {H : Hp} {v1 v2 : Value} {x y : Nat} {cs ds : List Value} (h6 : lk S 6 = some (pt x)) (h7 : lk S 7 = some v1) (h8 : lk S 8 = some (pt y)) (h9 : lk S 9 = some v2) (hl : cs.length = 2) (hd : ds.length = 8) (r : Rd H x cs) (q : Rd H y ds) :
    resS Try.prog S H [.cell 6 25, .tmp 7, .cell 8 37, .tmp 9] = some [.agg cs.toArray, v1, .agg ds.toArray, v2] := by
  obtain ⟨i, hi, hs⟩ := i25s
  obtain ⟨j, hj, ht⟩ := i37
  have e1 := load_all ag25 hi (cs := cs) (by omega) r
  have e2 := load_all ag37 hj (cs := ds) (by omega) q
  simp only [resS, h6, h7, h8, h9, e1, e2]
/-- The document's hour: the chain then, the water, the flows, and whether each take surely gets all. -/
theorem refpass_okW (hc : c.At H) (v : c.Vd) (ha : h.At H) (hv : hourW h c.pn c.gn = true) (hlo : lo ≤ H.next) :
    ∃ ga' gcap' w H', FnX Try.prog kn lo 50 [c.cv, c.wv, .agg h.v.toArray] H (.tuple #[chv c.pa c.pn c.pcap ga' c.gn gcap', w, .agg (flowsV (hourF c false h c.gs (s0 false c)) (hourF c true h c.gs (s0 true c))).toArray, .bool (sideB false h (boardsF h c.gs) (s0 false c))]) H' ∧
      Keep H H' [] ∧ Own H.next H' ga' c.gn (gtc (boardsF h c.gs)) ∧ Acc lo H.next 35 H' w c.pn (spc ((hourF c false h c.gs (s0 false c)).ws.zip (hourF c true h c.gs (s0 true c)).ws)) ∧ c.gn ≤ gcap' ∧ ∃ b, ga' = some ⟨b, 0, none⟩ := by
  have key := fnX_low (kn := kn) (lo := lo) (H := H) (args := [c.cv, c.wv, .agg h.v.toArray]) (Q := fun u H' => ∃ ga' gcap' w, u = (.tuple #[chv c.pa c.pn c.pcap ga' c.gn gcap', w, .agg (flowsV (hourF c false h c.gs (s0 false c)) (hourF c true h c.gs (s0 true c))).toArray, .bool (sideB false h (boardsF h c.gs) (s0 false c))]) ∧
      Keep H H' [] ∧ Own H.next H' ga' c.gn (gtc (boardsF h c.gs)) ∧ Acc lo H.next 35 H' w c.pn (spc ((hourF c false h c.gs (s0 false c)).ws.zip (hourF c true h c.gs (s0 true c)).ws)) ∧ c.gn ≤ gcap' ∧ ∃ b, ga' = some ⟨b, 0, none⟩) Try.func50 B50 N50 Z50 L50 (by simp) ?_
  · obtain ⟨u, H', q, ga', gcap', w, rfl, r⟩ := key; exact ⟨ga', gcap', w, H', q, r⟩
  have h16 := v.h16; have h32 := v.h32; have h1p := v.h1; have hwp := v.wp; have hlw := v.lw
  have hv0 := hv
  simp only [hourW, Bool.and_eq_true] at hv
  obtain ⟨⟨⟨⟨⟨v1, v2⟩, v3⟩, v4⟩, v5⟩, v6⟩ := hv
  have hbn : h.bn ≤ 32 := by simp at v1; omega
  intro H1 hH1; obtain ⟨k1, n1, c1⟩ := new_facts hH1; clear hH1
  intro H2 hH2; obtain ⟨k2, n2, c2⟩ := new_facts hH2; clear hH2
  intro H3 hH3; obtain ⟨k3, n3, c3⟩ := new_facts hH3; clear hH3
  intro H4 hH4; obtain ⟨k4, n4, c4⟩ := new_facts hH4; clear hH4
  have m1 := k1.1; have m2 := k2.1; have m3 := k3.1; have m4 := k4.1
  have c1 : Cl H4 H.next [.slice c.pa c.pn c.pcap, .slice c.ga c.gn c.gcap] := k4.cl (k3.cl (k2.cl c1 (by simp)) (by simp)) (by simp)
  have c2 : Cl H4 H1.next h.v := k4.cl (k3.cl c2 (by simp)) (by simp)
  have c3 : Cl H4 H2.next [.slice none 0 0, .slice none 0 0] := k4.cl c3 (by simp)
  have c4 : Cl H4 H3.next zero8 := c4
  have k04 : Keep H H4 [] := ((k1.trans k2).trans k3).trans k4
  -- the boards
  refine Exists.intro _ (Exists.intro _ (And.intro c1.of (And.intro (show row 2 _ _ = some [.slice c.pa c.pn c.pcap, .slice c.ga c.gn c.gcap] from rfl) ?_)))
  refine Exists.intro _ (Exists.intro _ (And.intro c2.of (And.intro (show row 3 _ _ = some h.v from rfl) ?_)))
  obtain ⟨ga', gcap', H5, f5, k5, own5, hcap, hsome⟩ := set_ok (kn := kn) (lo := lo) (H := H4) (pa := c.pa) (pn := c.pn) (pcap := c.pcap) (gs := c.gs) (k04.sl0 hc.g) hc.lg (by omega) (ha.keep k04) (by omega) (fun b hb => by
    have := List.all_eq_true.1 v4 b hb
    simp [indexB, boardsB] at this; omega) (by omega)
  refine Exists.intro _ (Exists.intro _ (And.intro (callX_args f5) ?_))
  have m5 := k5.1
  intro H6 hH6; obtain ⟨k6, n6, c6⟩ := new_facts hH6; clear hH6
  obtain ⟨_, e6, l6, g6⟩ := id c6
  have m6 := k6.1
  refine Exists.intro _ (Exists.intro _ (Exists.intro _ (And.intro g6 (And.intro (by omega) (And.intro rfl (And.intro rfl (And.intro (by simp) ?_)))))))
  intro H7 hH7; obtain ⟨k7, n7, c7⟩ := up_facts c6 hH7; clear hH7
  have c7 : Cl H7 H5.next [.slice c.pa c.pn c.pcap, .slice ga' c.gn gcap'] := c7
  have k57 : Keep H5 H7 [] := k6.new k7 (by simp)
  have k47 := k5.trans k57
  have k07 := k04.trans k47
  have m7 := k57.1
  have own7 : Own H4.next H7 ga' c.gn (gtc (boardsF h c.gs)) := own5.keep k57 (fun b e => by simp)
  -- both cases
  refine Exists.intro _ (Exists.intro _ (And.intro c7.of (And.intro (show row 2 _ _ = some [.slice c.pa c.pn c.pcap, .slice ga' c.gn gcap'] from rfl) (And.intro c7.lt ?_))))
  have c2' := k47.cl c2 (by simp)
  obtain ⟨e1, H8, f8, k8, acc8⟩ := refends_ok (kn := kn) (lo := H7.next) (H := H7) (g := false) (k07.sl0 hc.w) hc.lw (by omega) (Nat.le_refl _)
  refine Exists.intro _ (Exists.intro _ (And.intro (callX_args f8) ?_))
  have m8 := k8.1
  have c2' := k8.cl c2' (by simp)
  refine Exists.intro _ (Exists.intro _ (And.intro c2'.of (And.intro (show row 3 _ _ = some h.v from rfl) (And.intro c2'.lt ?_))))
  obtain ⟨ea1, ecap1, rfl, sl8, _⟩ := acc8.sl
  rw [hwp] at sl8
  obtain ⟨wb1, H9, f9, k9, hw9, c9⟩ := side_ok (kn := kn) (lo := H8.next) (H := H8) (c := c) (h := h) (g := false) (ga' := ga') (gcap' := gcap') (gs' := boardsF h c.gs) (ws := endS false c.ss) v ((k07.trans k8).sl0 hc.p) ((own7.keep k8 (fun b e => by simp)).sl hcap hsome) (by rw [show boardsF h c.gs = h.bs.foldl boardS c.gs from rfl, boards_len, hc.lg]) sl8 (by simp [endS]; omega) ((ha.keep k07).keep k8) hv0 (boards_good (h := { h with tn := 0 }) v.g (hourW_B hv0)) (v.ahead false) (Nat.le_refl _)
  refine Exists.intro _ (Exists.intro _ (And.intro (callX_args (by rw [hwp]; exact f9)) ?_))
  have m9 := k9.1
  have k79 := k8.trans k9
  have c7' := k79.cl c7 (by simp)
  refine Exists.intro _ (Exists.intro _ (And.intro c7'.of (And.intro (show row 2 _ _ = some [.slice c.pa c.pn c.pcap, .slice ga' c.gn gcap'] from rfl) (And.intro c7'.lt ?_))))
  obtain ⟨e2, H10, f10, k10, acc10⟩ := refends_ok (kn := kn) (lo := H9.next) (H := H9) (g := true) ((k07.trans k79).sl0 hc.w) hc.lw (by omega) (Nat.le_refl _)
  refine Exists.intro _ (Exists.intro _ (And.intro (callX_args f10) ?_))
  have m10 := k10.1
  have c2' := k10.cl (k9.cl c2' (by simp)) (by simp)
  refine Exists.intro _ (Exists.intro _ (And.intro c2'.of (And.intro (show row 3 _ _ = some h.v from rfl) (And.intro c2'.lt ?_))))
  obtain ⟨ea2, ecap2, rfl, sl10, _⟩ := acc10.sl
  rw [hwp] at sl10
  have k710 := k79.trans k10
  obtain ⟨wb2, H11, f11, k11, hw11, c11⟩ := side_ok (kn := kn) (lo := H10.next) (H := H10) (c := c) (h := h) (g := true) (ga' := ga') (gcap' := gcap') (gs' := boardsF h c.gs) (ws := endS true c.ss) v ((k07.trans k710).sl0 hc.p) ((own7.keep k710 (fun b e => by simp)).sl hcap hsome) (by rw [show boardsF h c.gs = h.bs.foldl boardS c.gs from rfl, boards_len, hc.lg]) sl10 (by simp [endS]; omega) ((ha.keep k07).keep k710) hv0 (boards_good (h := { h with tn := 0 }) v.g (hourW_B hv0)) (v.ahead true) (Nat.le_refl _)
  refine Exists.intro _ (Exists.intro _ (And.intro (callX_args (by rw [hwp]; exact f11)) ?_))
  have m11 := k11.1
  intro H12 hH12; obtain ⟨k12, n12, c12⟩ := new_facts hH12; clear hH12
  intro H13 hH13; obtain ⟨k13, n13, c13⟩ := new_facts hH13; clear hH13
  have m12 := k12.1; have m13 := k13.1
  have c12 := k13.cl c12 (by simp)
  obtain ⟨_, e14, l14, g14⟩ := id c12
  refine Exists.intro _ (Exists.intro _ (Exists.intro _ (And.intro g14 (And.intro (by omega) (And.intro rfl (And.intro rfl (And.intro (by simp) ?_)))))))
  intro H14 hH14; obtain ⟨k14, n14, c14⟩ := up_facts c12 hH14; clear hH14
  have c13 := k14.cl c13 (by simp; omega)
  obtain ⟨_, e15, l15, g15⟩ := id c13
  refine Exists.intro _ (Exists.intro _ (Exists.intro _ (And.intro g15 (And.intro (by omega) (And.intro rfl (And.intro rfl (And.intro (by simp) ?_)))))))
  intro H15 hH15; obtain ⟨k15, n15, c15⟩ := up_facts c13 hH15; clear hH15
  have c14 : Cl H15 H11.next (Sx.cells ⟨0, wb1, c.pn⟩ c.pn (hourF c false h c.gs (s0 false c)) (sideB false h (boardsF h c.gs) (s0 false c))) := k15.cl c14 (by simp; omega)
  have c15 : Cl H15 H12.next (Sx.cells ⟨0, wb2, c.pn⟩ c.pn (hourF c true h c.gs (s0 true c)) (sideB true h (boardsF h c.gs) (s0 true c))) := c15
  refine And.intro (by repeat' first | exact True.intro | exact (fun h => h) | refine And.intro ?_ ?_) ?_
  have k715 : Keep H7 H15 [] := ((((k710.trans k11).trans k12).trans k13).new k14 (fun b hb => .inr (by simp at hb; omega))).new k15 (fun b hb => .inr (by simp at hb; omega))
  have m715 := k715.1
  have c9' : Cl H15 wb1 (ints (hourF c false h c.gs (s0 false c)).ws) := k15.cl (k14.cl (k13.cl (k12.cl (k11.cl (k10.cl c9 (by simp)) (by simp)) (by simp)) (by simp)) (by have := c9.lt; simp; omega)) (by have := c9.lt; simp; omega)
  have c11' : Cl H15 wb2 (ints (hourF c true h c.gs (s0 true c)).ws) := k15.cl (k14.cl (k13.cl (k12.cl c11 (by simp)) (by simp)) (by have := c11.lt; simp; omega)) (by have := c11.lt; simp; omega)
  have w1 : (hourF c false h c.gs (s0 false c)).ws.length = c.pn := by rw [hour_len]; simp [s0, endS]; omega
  have w2 : (hourF c true h c.gs (s0 true c)).ws.length = c.pn := by rw [hour_len]; simp [s0, endS]; omega
  refine out_loop (n := c.pn) (b5 := H.next) (b6 := H2.next) (b8 := H3.next) (b10 := H5.next) (wa := c.wa) (wn := c.wn) (wcap := c.wcap) hwp c14.rd c15.rd c9'.rd c11'.rd w1 w2 (by omega) (by omega) ⟨rfl, rfl, rfl, rfl, rfl, rfl, rfl, rfl, rfl, trivial⟩ ?_
  intro w v29 v30 v31 v32 H16 accW k16
  have m16 := k16.1
  have c14 := k16.cl c14 (by simp)
  have c15 := k16.cl c15 (by simp)
  -- the flows
  refine Exists.intro _ (Exists.intro _ (And.intro c14.of (And.intro (show _ = some (iv (hourF c false h c.gs (s0 false c)).came) from rfl) ?_)))
  refine Exists.intro _ (Exists.intro _ (And.intro c15.of (And.intro (show _ = some (iv (hourF c true h c.gs (s0 true c)).came) from rfl) ?_)))
  refine And.intro rfl (Exists.intro _ (And.intro (pure_span (lo := lo) rfl rfl) ?_))
  refine Exists.intro _ (Exists.intro _ (And.intro c14.of (And.intro (show _ = some (iv (hourF c false h c.gs (s0 false c)).seeped) from rfl) ?_)))
  refine Exists.intro _ (Exists.intro _ (And.intro c15.of (And.intro (show _ = some (iv (hourF c true h c.gs (s0 true c)).seeped) from rfl) ?_)))
  refine And.intro rfl (Exists.intro _ (And.intro (pure_span (lo := lo) rfl rfl) ?_))
  refine Exists.intro _ (Exists.intro _ (And.intro c14.of (And.intro (show _ = some (iv (hourF c false h c.gs (s0 false c)).river) from rfl) ?_)))
  refine Exists.intro _ (Exists.intro _ (And.intro c15.of (And.intro (show _ = some (iv (hourF c true h c.gs (s0 true c)).river) from rfl) ?_)))
  refine And.intro rfl (Exists.intro _ (And.intro (pure_span (lo := lo) rfl rfl) ?_))
  refine Exists.intro _ (Exists.intro _ (And.intro c14.of (And.intro (show _ = some (iv (hourF c false h c.gs (s0 false c)).taken) from rfl) ?_)))
  refine Exists.intro _ (Exists.intro _ (And.intro c15.of (And.intro (show _ = some (iv (hourF c true h c.gs (s0 true c)).taken) from rfl) ?_)))
  refine And.intro rfl (Exists.intro _ (And.intro (pure_span (lo := lo) rfl rfl) ?_))
  refine And.intro rfl (Exists.intro _ (And.intro (pure_flows rfl rfl rfl rfl) ?_))
  intro H17 hH17; obtain ⟨k17, n17, c17⟩ := new_facts hH17; clear hH17
  obtain ⟨_, e18, l18, g18⟩ := id c17
  have m17 := k17.1
  refine Exists.intro _ (Exists.intro _ (Exists.intro _ (And.intro g18 (And.intro (by omega) (And.intro rfl (And.intro rfl (And.intro (by simp) ?_)))))))
  intro H18 hH18; obtain ⟨k18, n18, c18⟩ := up_facts c17 hH18; clear hH18
  have c18 : Cl H18 H16.next (flowsV (hourF c false h c.gs (s0 false c)) (hourF c true h c.gs (s0 true c))) := c18
  have k1618 : Keep H16 H18 [] := k17.new k18 (by simp)
  have k718 : Keep H7 H18 [] := (k715.trans k16).trans k1618
  have k418 := k47.trans k718
  have c7' := k718.cl c7 (by simp)
  have c14 := k1618.cl c14 (by simp)
  have c3' := k418.cl c3 (by simp)
  have c4' := k418.cl c4 (by simp)
  have accW := accW.keep k1618
  have m18 := k718.1
  refine Exists.intro _ (Exists.intro _ (And.intro c7'.of (And.intro (show row 2 _ _ = some [.slice c.pa c.pn c.pcap, .slice ga' c.gn gcap'] from rfl) (And.intro c7'.lt ?_))))
  refine Exists.intro _ (Exists.intro _ (And.intro c18.of (And.intro (show row 8 _ _ = some (flowsV (hourF c false h c.gs (s0 false c)) (hourF c true h c.gs (s0 true c))) from rfl) (And.intro c18.lt ?_))))
  refine Exists.intro _ (Exists.intro _ (And.intro c14.of (And.intro (show _ = some (.bool (sideB false h (boardsF h c.gs) (s0 false c))) from rfl) (And.intro c14.lt ?_))))
  obtain ⟨_, e19, l19, g19⟩ := id c3'
  refine Exists.intro _ (Exists.intro _ (Exists.intro _ (And.intro g19 (And.intro (by omega) (And.intro rfl (And.intro rfl (And.intro (by simp) ?_)))))))
  intro H19 hH19; obtain ⟨k19, n19, c19⟩ := up_facts c3' hH19; clear hH19
  have c19 : Cl H19 H2.next [.slice c.pa c.pn c.pcap, .slice ga' c.gn gcap'] := c19
  have c4' := k19.cl c4' (by simp; omega)
  obtain ⟨_, e20, l20, g20⟩ := id c4'
  refine Exists.intro _ (Exists.intro _ (Exists.intro _ (And.intro g20 (And.intro (by omega) (And.intro rfl (And.intro rfl (And.intro (by simp [zero8]) ?_)))))))
  intro H20 hH20; obtain ⟨k20, n20, c20⟩ := up_facts c4' hH20; clear hH20
  have c20 : Cl H20 H3.next (flowsV (hourF c false h c.gs (s0 false c)) (hourF c true h c.gs (s0 true c))) := c20
  have c19 := k20.cl c19 (by simp; omega)
  refine And.intro (by repeat' first | exact True.intro | exact (fun h => h) | exact (fun hh => absurd (show H3.next = H11.next from hh) (by omega)) | exact (fun hh => absurd (show H3.next = H16.next from hh) (by omega)) | exact (fun hh => absurd (show H3.next = H5.next from hh) (by omega)) | exact (fun hh => absurd (show H2.next = H11.next from hh) (by omega)) | exact (fun hh => absurd (show H2.next = H16.next from hh) (by omega)) | exact (fun hh => absurd (show H2.next = H5.next from hh) (by omega)) | refine And.intro ?_ ?_) ?_
  have own20 := ((own7.keep k718 (fun b e => by simp)).keep k19 (fun b e hb => by
    rcases own7 with ⟨e', _⟩ | ⟨gb, e', hl, _⟩
    · rw [e] at e'; cases e'
    · rw [e] at e'; cases e'; simp at hb; omega)).keep k20 (fun b e hb => by
    rcases own7 with ⟨e', _⟩ | ⟨gb, e', hl, _⟩
    · rw [e] at e'; cases e'
    · rw [e] at e'; cases e'; simp at hb; omega)
  have accF : Acc lo H.next 35 H20 w c.pn (spc ((hourF c false h c.gs (s0 false c)).ws.zip (hourF c true h c.gs (s0 true c)).ws)) := by
    rcases accW with q | ⟨b, eb, h0, hf, hl, hn, hg⟩
    · exact .inl q
    · refine .inr ⟨b, eb, h0, by omega, hl, by omega, ?_⟩
      rw [k20.2 b (by omega) (by simp; omega), k19.2 b hn (by simp; omega)]; exact hg
  refine And.intro trivial (Exists.intro _ (And.intro (res_pass (x := H2.next) (y := H3.next) rfl rfl rfl rfl rfl rfl c19.rd c20.rd) ⟨ga', gcap', w, rfl, ?_, own20.mono (by omega), accF, hcap, hsome⟩))
  exact ((k04.trans k418).new k19 (fun b hb => .inr (by simp at hb; omega))).new k20 (fun b hb => .inr (by simp at hb; omega))
end
end Go.Ax
namespace Go.Ax
open Go Go.RowKit Go.Proofs
theorem pond_iff {p : Pd} {i n : Int} : pondB p i n = true ↔ 1 ≤ p.full ∧ p.full ≤ 68719476736 ∧ 0 ≤ p.lo ∧ p.lo ≤ p.hi ∧ p.hi ≤ 1000000 ∧ (p.spill = -1 ∨ i < p.spill ∧ p.spill < n) := by
  simp only [pondB, withinB, Bool.and_eq_true, Bool.or_eq_true, decide_eq_true_eq, beq_iff_eq]
  constructor <;> intro h <;> omega
theorem gate_iff {g : Gt} {n : Int} : gateB g n = true ↔ 0 ≤ g.fr ∧ g.fr < n ∧ (g.to = -1 ∨ 0 ≤ g.to ∧ g.to < n ∧ g.to ≠ g.fr) ∧ 0 ≤ g.sill ∧ g.sill ≤ 68719476736 ∧ 0 ≤ g.step ∧ g.step ≤ 68719476736 ∧ 0 ≤ g.most ∧ g.most ≤ 68719476736 ∧ 0 ≤ g.boards ∧ g.boards ≤ 16 := by
  simp only [gateB, indexB, waterB, boardsB, Bool.and_eq_true, Bool.or_eq_true, decide_eq_true_eq, beq_iff_eq, bne_iff_ne]
  constructor <;> intro h <;> omega
theorem in_iff {n a b : Int} {t : Bool} (h : inB n a b = t) : (t = true ∧ a ≤ n ∧ n ≤ b) ∨ (t = false ∧ (n < a ∨ b < n)) := by
  unfold inB at h
  cases t
  · right; refine ⟨rfl, ?_⟩; simp at h; omega
  · left; refine ⟨rfl, ?_⟩; simpa using h
theorem refw_iff {a b l m : Int} {t : Bool} (h : refWithinB a b l m = t) : (t = true ∧ l ≤ a ∧ a ≤ b ∧ b ≤ m) ∨ (t = false ∧ (a < l ∨ b < a ∨ m < b)) := by
  unfold refWithinB at h
  cases t
  · right; refine ⟨rfl, ?_⟩; simp at h; omega
  · left; refine ⟨rfl, ?_⟩; simp at h; omega
section
variable {kn : FuncId → Option Bool} {lo : Nat} {H : Hp}
theorem refchainB_ok {pa ga : Option Addr} {pn pcap gn gcap : Nat} {ponds : List Pd} {gs : List Gt} (hp : Sl H pa pn pcap (pdc ponds)) (hpn : ponds.length = pn) (hg : Sl H ga gn gcap (gtc gs)) (hgn : gs.length = gn) (hpb : pn ≤ 1000) (hlo : lo ≤ H.next) :
    ∃ H', FnX Try.prog kn lo 32 [chv pa pn pcap ga gn gcap] H (.bool (chainB ponds gs pn gn)) H' ∧ Keep H H' [] := by
  have key := fnX_low (kn := kn) (lo := lo) (H := H) (args := [chv pa pn pcap ga gn gcap]) (Q := fun w H' => w = .bool (chainB ponds gs pn gn) ∧ Keep H H' []) Try.func32 B32 N32 Z32 L32 (by simp) ?_
  · obtain ⟨w, H', h, rfl, q⟩ := key; exact ⟨H', h, q⟩
  intro H1 hH1
  obtain ⟨k1, n1, c1⟩ := new_facts hH1
  clear hH1
  have c1 : Cl H1 H.next [.slice pa pn pcap, .slice ga gn gcap] := c1
  have hn1 := k1.1
  have fin : sizesB pn gn = false → chainB ponds gs pn gn = false := fun h => by simp [chainB, h]
  refine Exists.intro _ (Exists.intro _ (And.intro c1.of (And.intro (show _ = some (.slice pa pn pcap) from rfl) ?_)))
  refine callB in_ok ?_
  intro t2 H2 h2 k2
  have h2 := in_iff h2
  have c2 := k2.cl c1 (by simp)
  have k02 := k1.trans k2
  have hn2 := k2.1
  cases t2
  · repeat (refine And.intro rfl (Exists.intro (.bool true) (And.intro rfl ?_)))
    refine condT ?_
    exact And.intro trivial (Exists.intro _ (And.intro rfl ⟨by rw [fin (by simp [sizesB]; simp at h2; omega)]; rfl, k02⟩))
  have h2 : 1 ≤ (pn : Int) ∧ (pn : Int) ≤ 16 := by simpa using h2
  refine And.intro rfl (Exists.intro (.bool false) (And.intro rfl ?_))
  refine Exists.intro _ (Exists.intro _ (And.intro c2.of (And.intro (show _ = some (.slice ga gn gcap) from rfl) ?_)))
  intro t ht
  cases t
  rotate_left
  · refine And.intro rfl (Exists.intro (.bool true) (And.intro rfl ?_))
    refine condT ?_
    exact And.intro trivial (Exists.intro _ (And.intro rfl ⟨by rw [fin (by simp [sizesB]; simp at ht; omega)]; rfl, k02⟩))
  have hg32 : gn ≤ 32 := by simp at ht; omega
  have hsz : sizesB pn gn = true := by simp [sizesB]; omega
  refine And.intro rfl (Exists.intro (.bool false) (And.intro rfl ?_))
  refine condF ?_
  refine loop_low (fn := Try.f32) E32_1 N32 L32x1 (fun i : Nat => [(1, pt H.next), (3, iv (pn : Int)), (4, iv (i : Int))])
    (fun k i H' => i + k = pn ∧ Keep H2 H' [] ∧ (ponds.zipIdx.take i).all (fun p => pondB p.1 p.2 pn) = true) pn 0 ⟨by omega, Keep.refl _ _, rfl⟩ ⟨rfl, rfl, rfl, trivial⟩ ?_
  rintro k i H3 ⟨hik, hk, hall⟩
  have c3 := hk.cl c2 (by simp)
  have hn3 := hk.1
  refine And.intro (fun hlt => ?_) (fun hge => ?_)
  · have hi : i < pn := by simpa using hlt
    have hp3 := (k02.trans hk).sl0 hp
    rcases hp3 with ⟨_, h0, _⟩ | ⟨pb, epa, hpc, _⟩
    · omega
    obtain ⟨x, hx⟩ := get_some (l := ponds) (i := i) (by omega)
    have hz := zip_getP hx
    refine Exists.intro _ (Exists.intro _ (And.intro c3.of (And.intro (show _ = some (.slice pa pn pcap) from rfl) ?_)))
    rw [epa]
    refine Exists.intro i (And.intro rfl (And.intro hi ?_))
    refine Exists.intro _ (Exists.intro _ (And.intro hpc.of (And.intro (row_flat (f := Pd.v) (fun _ _ => rfl) hx) ?_)))
    intro H4 hH4; obtain ⟨k4, n4, c4⟩ := new_facts hH4; clear hH4
    obtain ⟨_, e4, l4, g4⟩ := id c4
    refine Exists.intro _ (Exists.intro _ (Exists.intro _ (And.intro g4 (And.intro (by omega) (And.intro rfl (And.intro rfl (And.intro (by simp) ?_)))))))
    intro H5 hH5; obtain ⟨k5, n5, c5⟩ := up_facts c4 hH5; clear hH5
    have c5 : Cl H5 H3.next x.v := c5
    have k25 : Keep H H5 [] := (k02.trans hk).trans (k4.new k5 (by simp))
    refine Exists.intro _ (Exists.intro _ (And.intro c5.of (And.intro (show _ = some (iv x.full) from rfl) ?_)))
    refine callB in_ok ?_
    intro t6 H6 h6 k6
    have h6 := in_iff h6
    have c6 := k6.cl c5 (by simp)
    have k26 := k25.trans k6
    cases t6
    · simp only [Bool.false_eq_true, false_and, true_and, false_or] at h6
      repeat (refine And.intro rfl (Exists.intro (.bool true) (And.intro rfl ?_)))
      refine condT ?_
      refine And.intro trivial (Exists.intro _ (And.intro rfl ⟨?_, k26⟩))
      have hno := all_fail (f := fun p : Pd × Nat => pondB p.1 p.2 pn) hz (Bool.eq_false_iff.2 (fun q => by have q := pond_iff.1 q; simp only [] at q;  omega))
      simp [chainB, hno, retV]
    simp only [true_and, Bool.true_eq_false, false_and, or_false] at h6
    refine And.intro rfl (Exists.intro (.bool false) (And.intro rfl ?_))
    refine Exists.intro _ (Exists.intro _ (And.intro c6.of (And.intro (show row 2 _ _ = some [iv x.lo, iv x.hi] from rfl) ?_)))
    refine callB refwithin_ok ?_
    intro t7 H7 h7 k7
    have h7 := refw_iff h7
    have c7 := k7.cl c6 (by simp)
    have k27 := k26.trans k7
    cases t7
    · simp only [Bool.false_eq_true, false_and, true_and, false_or] at h7
      repeat (refine And.intro rfl (Exists.intro (.bool true) (And.intro rfl ?_)))
      refine condT ?_
      refine And.intro trivial (Exists.intro _ (And.intro rfl ⟨?_, k27⟩))
      have hno := all_fail (f := fun p : Pd × Nat => pondB p.1 p.2 pn) hz (Bool.eq_false_iff.2 (fun q => by have q := pond_iff.1 q; simp only [] at q;  omega))
      simp [chainB, hno, retV]
    simp only [true_and, Bool.true_eq_false, false_and, or_false] at h7
    refine And.intro rfl (Exists.intro (.bool false) (And.intro rfl ?_))
    refine And.intro rfl (Exists.intro (.bool false) (And.intro rfl ?_))
    refine Exists.intro _ (Exists.intro _ (And.intro c7.of (And.intro (show _ = some (iv x.spill) from rfl) ?_)))
    have go : ∀ H8, Keep H7 H8 [] → pondB x i pn = true → ∃ k' a', k' < k ∧ (a' + k' = pn ∧ Keep H2 H8 [] ∧ (ponds.zipIdx.take a').all (fun p => pondB p.1 p.2 pn) = true) ∧ a' = i + 1 := fun H8 k8 q => ⟨k - 1, i + 1, by omega, ⟨by omega, (((hk.trans (k4.new k5 (by simp))).trans k6).trans k7).trans k8, by rw [all_step hz, hall]; simpa using q⟩, rfl⟩
    intro t8 h8
    cases t8
    · have h8 : x.spill = -1 := by simpa using h8
      refine And.intro rfl (Exists.intro (.bool false) (And.intro rfl ?_))
      refine And.intro rfl (Exists.intro (.bool false) (And.intro rfl ?_))
      refine condF ?_
      refine And.intro ⟨by omega, by omega⟩ ?_
      obtain ⟨k', a', q1, q2, rfl⟩ := go H7 (Keep.refl _ _) (pond_iff.2 (by omega))
      exact ⟨k', i + 1, q1, q2, rfl, rfl, rfl, trivial⟩
    · have h8 : x.spill ≠ -1 := by simpa using h8
      refine Exists.intro _ (Exists.intro _ (And.intro c7.of (And.intro (show _ = some (iv x.spill) from rfl) ?_)))
      refine And.intro ⟨by omega, by omega⟩ ?_
      refine And.intro ⟨by omega, by omega⟩ ?_
      refine callB in_ok ?_
      intro t9 H9 h9 k9
      have h9 := in_iff h9
      cases t9
      · simp only [Bool.false_eq_true, false_and, true_and, false_or] at h9
        repeat (refine And.intro rfl (Exists.intro (.bool true) (And.intro rfl ?_)))
        refine condT ?_
        refine And.intro trivial (Exists.intro _ (And.intro rfl ⟨?_, k27.trans k9⟩))
        have hno := all_fail (f := fun p : Pd × Nat => pondB p.1 p.2 pn) hz (Bool.eq_false_iff.2 (fun q => by have q := pond_iff.1 q; simp only [] at q;  omega))
        simp [chainB, hno, retV]
      simp only [true_and, Bool.true_eq_false, false_and, or_false] at h9
      refine And.intro rfl (Exists.intro (.bool false) (And.intro rfl ?_))
      refine And.intro rfl (Exists.intro (.bool false) (And.intro rfl ?_))
      refine And.intro rfl (Exists.intro (.bool false) (And.intro rfl ?_))
      refine condF ?_
      refine And.intro ⟨by omega, by omega⟩ ?_
      obtain ⟨k', a', q1, q2, rfl⟩ := go H9 k9 (pond_iff.2 (by omega))
      exact ⟨k', i + 1, q1, q2, rfl, rfl, rfl, trivial⟩
  have hi : ¬ i < pn := by simpa using hge
  rw [List.take_of_length_le (by simp; omega)] at hall
  have k03 := k02.trans hk
  refine loop_low (fn := Try.f32) E32_2 N32 L32x2 (fun i : Nat => [(1, pt H.next), (3, iv (pn : Int)), (6, iv (i : Int))])
    (fun k i H' => i + k = gn ∧ Keep H3 H' [] ∧ (gs.take i).all (fun g => gateB g pn) = true) gn 0 ⟨by omega, Keep.refl _ _, rfl⟩ ⟨rfl, rfl, rfl, trivial⟩ ?_
  clear hik hge hi
  rintro k i H4 ⟨hik, hk4, hall2⟩
  have c4 := hk4.cl c3 (by simp)
  have hn4 := hk4.1
  refine Exists.intro _ (Exists.intro _ (And.intro c4.of (And.intro (show _ = some (.slice ga gn gcap) from rfl) ?_)))
  refine And.intro (fun hlt => ?_) (fun hge => ?_)
  · have hi : i < gn := by simpa using hlt
    have hg4 := (k03.trans hk4).sl0 hg
    rcases hg4 with ⟨_, h0, _⟩ | ⟨gb, ega, hgc, _⟩
    · omega
    obtain ⟨x, hx⟩ := get_some (l := gs) (i := i) (by omega)
    refine Exists.intro _ (Exists.intro _ (And.intro c4.of (And.intro (show _ = some (.slice ga gn gcap) from rfl) ?_)))
    rw [ega]
    refine Exists.intro i (And.intro rfl (And.intro hi ?_))
    refine Exists.intro _ (Exists.intro _ (And.intro hgc.of (And.intro (row_flat (f := Gt.v) (fun _ _ => rfl) hx) ?_)))
    intro H5 hH5; obtain ⟨k5, n5, c5⟩ := new_facts hH5; clear hH5
    obtain ⟨_, e5, l5, g5⟩ := id c5
    refine Exists.intro _ (Exists.intro _ (Exists.intro _ (And.intro g5 (And.intro (by omega) (And.intro rfl (And.intro rfl (And.intro (by simp) ?_)))))))
    intro H6 hH6; obtain ⟨k6, n6, c6⟩ := up_facts c5 hH6; clear hH6
    have c6 : Cl H6 H4.next x.v := c6
    have kk6 : Keep H4 H6 [] := k5.new k6 (by simp)
    have kA := (k03.trans hk4).trans kk6
    refine Exists.intro _ (Exists.intro _ (And.intro c6.of (And.intro (show _ = some (iv x.fr) from rfl) ?_)))
    refine And.intro ⟨by omega, by omega⟩ ?_
    refine callB in_ok ?_
    intro t7 H7 h7 k7
    have h7 := in_iff h7
    have c7 := k7.cl c6 (by simp)
    have kk7 := kk6.trans k7
    have kA := kA.trans k7
    cases t7
    · simp only [Bool.false_eq_true, false_and, true_and, false_or] at h7
      repeat (refine And.intro rfl (Exists.intro (.bool true) (And.intro rfl ?_)))
      refine condT ?_
      refine And.intro trivial (Exists.intro _ (And.intro rfl ⟨?_, kA⟩))
      have hno := all_fail (f := fun g : Gt => gateB g pn) hx (Bool.eq_false_iff.2 (fun q => by have q := gate_iff.1 q;  omega))
      simp [chainB, hno, retV]
    simp only [true_and, Bool.true_eq_false, false_and, or_false] at h7
    refine And.intro rfl (Exists.intro (.bool false) (And.intro rfl ?_))
    refine Exists.intro _ (Exists.intro _ (And.intro c7.of (And.intro (show _ = some (iv x.to) from rfl) ?_)))
    refine And.intro ⟨by omega, by omega⟩ ?_
    refine callB in_ok ?_
    intro t8 H8 h8 k8
    have h8 := in_iff h8
    have c8 := k8.cl c7 (by simp)
    have kk8 := kk7.trans k8
    have kA := kA.trans k8
    cases t8
    · simp only [Bool.false_eq_true, false_and, true_and, false_or] at h8
      repeat (refine And.intro rfl (Exists.intro (.bool true) (And.intro rfl ?_)))
      refine condT ?_
      refine And.intro trivial (Exists.intro _ (And.intro rfl ⟨?_, kA⟩))
      have hno := all_fail (f := fun g : Gt => gateB g pn) hx (Bool.eq_false_iff.2 (fun q => by have q := gate_iff.1 q;  omega))
      simp [chainB, hno, retV]
    simp only [true_and, Bool.true_eq_false, false_and, or_false] at h8
    refine And.intro rfl (Exists.intro (.bool false) (And.intro rfl ?_))
    refine And.intro rfl (Exists.intro (.bool false) (And.intro rfl ?_))
    refine Exists.intro _ (Exists.intro _ (And.intro c8.of (And.intro (show _ = some (iv x.fr) from rfl) ?_)))
    refine Exists.intro _ (Exists.intro _ (And.intro c8.of (And.intro (show _ = some (iv x.to) from rfl) ?_)))
    intro te he
    cases te
    rotate_left
    · have he : x.fr = x.to := by simpa using he
      repeat (refine And.intro rfl (Exists.intro (.bool true) (And.intro rfl ?_)))
      refine condT ?_
      refine And.intro trivial (Exists.intro _ (And.intro rfl ⟨?_, kA⟩))
      have hno := all_fail (f := fun g : Gt => gateB g pn) hx (Bool.eq_false_iff.2 (fun q => by have q := gate_iff.1 q;  omega))
      simp [chainB, hno, retV]
    have he : x.fr ≠ x.to := by simpa using he
    refine And.intro rfl (Exists.intro (.bool false) (And.intro rfl ?_))
    refine Exists.intro _ (Exists.intro _ (And.intro c8.of (And.intro (show _ = some (iv x.sill) from rfl) ?_)))
    refine callB in_ok ?_
    intro t9 H9 h9 k9
    have h9 := in_iff h9
    have c9 := k9.cl c8 (by simp)
    have kk9 := kk8.trans k9
    have kA := kA.trans k9
    cases t9
    · simp only [Bool.false_eq_true, false_and, true_and, false_or] at h9
      repeat (refine And.intro rfl (Exists.intro (.bool true) (And.intro rfl ?_)))
      refine condT ?_
      refine And.intro trivial (Exists.intro _ (And.intro rfl ⟨?_, kA⟩))
      have hno := all_fail (f := fun g : Gt => gateB g pn) hx (Bool.eq_false_iff.2 (fun q => by have q := gate_iff.1 q;  omega))
      simp [chainB, hno, retV]
    simp only [true_and, Bool.true_eq_false, false_and, or_false] at h9
    refine And.intro rfl (Exists.intro (.bool false) (And.intro rfl ?_))
    refine And.intro rfl (Exists.intro (.bool false) (And.intro rfl ?_))
    refine Exists.intro _ (Exists.intro _ (And.intro c9.of (And.intro (show _ = some (iv x.step) from rfl) ?_)))
    refine callB in_ok ?_
    intro t10 H10 h10 k10
    have h10 := in_iff h10
    have c10 := k10.cl c9 (by simp)
    have kk10 := kk9.trans k10
    have kA := kA.trans k10
    cases t10
    · simp only [Bool.false_eq_true, false_and, true_and, false_or] at h10
      repeat (refine And.intro rfl (Exists.intro (.bool true) (And.intro rfl ?_)))
      refine condT ?_
      refine And.intro trivial (Exists.intro _ (And.intro rfl ⟨?_, kA⟩))
      have hno := all_fail (f := fun g : Gt => gateB g pn) hx (Bool.eq_false_iff.2 (fun q => by have q := gate_iff.1 q;  omega))
      simp [chainB, hno, retV]
    simp only [true_and, Bool.true_eq_false, false_and, or_false] at h10
    refine And.intro rfl (Exists.intro (.bool false) (And.intro rfl ?_))
    refine And.intro rfl (Exists.intro (.bool false) (And.intro rfl ?_))
    refine Exists.intro _ (Exists.intro _ (And.intro c10.of (And.intro (show _ = some (iv x.most) from rfl) ?_)))
    refine callB in_ok ?_
    intro t11 H11 h11 k11
    have h11 := in_iff h11
    have c11 := k11.cl c10 (by simp)
    have kk11 := kk10.trans k11
    have kA := kA.trans k11
    cases t11
    · simp only [Bool.false_eq_true, false_and, true_and, false_or] at h11
      repeat (refine And.intro rfl (Exists.intro (.bool true) (And.intro rfl ?_)))
      refine condT ?_
      refine And.intro trivial (Exists.intro _ (And.intro rfl ⟨?_, kA⟩))
      have hno := all_fail (f := fun g : Gt => gateB g pn) hx (Bool.eq_false_iff.2 (fun q => by have q := gate_iff.1 q;  omega))
      simp [chainB, hno, retV]
    simp only [true_and, Bool.true_eq_false, false_and, or_false] at h11
    refine And.intro rfl (Exists.intro (.bool false) (And.intro rfl ?_))
    refine And.intro rfl (Exists.intro (.bool false) (And.intro rfl ?_))
    refine Exists.intro _ (Exists.intro _ (And.intro c11.of (And.intro (show _ = some (iv x.boards) from rfl) ?_)))
    refine callB in_ok ?_
    intro t12 H12 h12 k12
    have h12 := in_iff h12
    have c12 := k12.cl c11 (by simp)
    have kk12 := kk11.trans k12
    have kA := kA.trans k12
    cases t12
    · simp only [Bool.false_eq_true, false_and, true_and, false_or] at h12
      repeat (refine And.intro rfl (Exists.intro (.bool true) (And.intro rfl ?_)))
      refine condT ?_
      refine And.intro trivial (Exists.intro _ (And.intro rfl ⟨?_, kA⟩))
      have hno := all_fail (f := fun g : Gt => gateB g pn) hx (Bool.eq_false_iff.2 (fun q => by have q := gate_iff.1 q;  omega))
      simp [chainB, hno, retV]
    simp only [true_and, Bool.true_eq_false, false_and, or_false] at h12
    refine And.intro rfl (Exists.intro (.bool false) (And.intro rfl ?_))
    refine And.intro rfl (Exists.intro (.bool false) (And.intro rfl ?_))
    refine condF ?_
    refine And.intro ⟨by omega, by omega⟩ ?_
    refine ⟨k - 1, i + 1, by omega, ⟨by omega, hk4.trans kk12, ?_⟩, rfl, rfl, rfl, trivial⟩
    rw [all_step hx, hall2]
    simp only [Bool.true_and]
    exact gate_iff.2 (by omega)
  · have hi : ¬ i < gn := by simpa using hge
    rw [List.take_of_length_le (by omega)] at hall2
    refine And.intro trivial (Exists.intro _ (And.intro rfl ⟨?_, k03.trans hk4⟩))
    simp [chainB, hsz, hall, hall2, retV]
end
end Go.Ax
namespace Go.Ax
open Go Go.RowKit Go.Proofs
noncomputable def R49x1t34 : RC := (.seq (.dreg [⟨(some 34), none, (.addo (.tmp 3) 0)⟩, ⟨(some 35), none, (.ld (.tmp 34) 1)⟩, ⟨(some 36), none, (.mov (.tmp 5))⟩, ⟨(some 37), none, (.idx (.tmp 35) (.tmp 36) 2)⟩, ⟨(some 38), none, (.addo (.tmp 37) 0)⟩, ⟨(some 39), none, (.ld (.tmp 38) 1)⟩, ⟨(some 40), none, (.addo (.tmp 2) 1)⟩, ⟨(some 41), none, (.ld (.tmp 40) 1)⟩, ⟨(some 42), none, (.len (.tmp 41))⟩, ⟨(some 43), none, (.ari .sub (.tmp 42) (.const (.int .i64 1)))⟩, ⟨(some 44), none, (.call ⟨(.value (.func 66)), (List.toArray [(.tmp 39), (.const (.int .i64 0)), (.tmp 43)]), (List.toArray [3, 3, 3])⟩ true)⟩, ⟨(some 45), none, (.pur ⟨(some 45), (.unOp .not 4 (.tmp 44)), 4, "", (List.toArray []), none⟩)⟩, ⟨(some 46), none, (.mov (.tmp 45))⟩, ⟨(some 47), (some (46, false)), (.addo (.tmp 3) 0)⟩, ⟨(some 48), (some (46, false)), (.ld (.tmp 47) 1)⟩, ⟨(some 49), (some (46, false)), (.mov (.tmp 5))⟩, ⟨(some 50), (some (46, false)), (.idx (.tmp 48) (.tmp 49) 2)⟩, ⟨(some 51), (some (46, false)), (.addo (.tmp 50) 1)⟩, ⟨(some 52), (some (46, false)), (.ld (.tmp 51) 1)⟩, ⟨(some 53), (some (46, false)), (.call ⟨(.value (.func 66)), (List.toArray [(.tmp 52), (.const (.int .i64 0)), (.const (.int .i64 16))]), (List.toArray [3, 3, 3])⟩ true)⟩, ⟨(some 54), (some (46, false)), (.pur ⟨(some 54), (.unOp .not 4 (.tmp 53)), 4, "", (List.toArray []), none⟩)⟩, ⟨(some 55), none, (.pur ⟨(some 55), (.pick (.tmp 46) (.const (.bool true)) (.tmp 54)), 4, "", (List.toArray []), none⟩)⟩] [2097151, 1048575, 524287, 262143, 131071, 65535, 8191, 16383, 8191, 4095, 2047, 1023, 448, 192, 64, 0, 31, 15, 7, 0, 1, 0])
  (.cond (.tmp 55) (.seq (.reg [⟨(some 4), none, (.mov (.const (.bool false)))⟩])
  .ret)
  .skip))
theorem L49x1t34 : low Try.prog 99 (at_ Try.f49 [1, 1, 0, 1, 0, 0, 1, 0, 0]) = some R49x1t34 := by kernel_rfl
noncomputable def R49x1e : RC := (.reg [⟨(some 32), none, (.mov (.tmp 5))⟩, ⟨(some 33), none, (.ari .add (.tmp 32) (.const (.int .i64 1)))⟩, ⟨(some 5), none, (.mov (.tmp 33))⟩])
theorem L49x1e : low Try.prog 99 (at_ Try.f49 [1, 1, 0, 1, 0, 0, 1, 1]) = some R49x1e := by kernel_rfl
noncomputable def R49x1v : RC := (.seq (.seq (.reg [⟨(some 27), none, (.mov (.tmp 5))⟩, ⟨(some 28), none, (.addo (.tmp 3) 0)⟩, ⟨(some 29), none, (.ld (.tmp 28) 1)⟩, ⟨(some 30), none, (.len (.tmp 29))⟩, ⟨(some 31), none, (.cmp .lss (.tmp 27) (.tmp 30))⟩])
  (.cond (.tmp 31) .skip
  (.exit 0)))
  (.seq (.block 1 (.other (at_ Try.f49 [1, 1, 0, 1, 0, 0, 1, 0, 0])))
  (.other (at_ Try.f49 [1, 1, 0, 1, 0, 0, 1, 1]))))
theorem V49x1 : LT Try.prog 99 (at_ Try.f49 [1, 1, 0, 1, 0, 0]) R49x1v := by
  have e : at_ Try.f49 [1, 1, 0, 1, 0, 0] = (.seq (at_ Try.f49 [1, 1, 0, 1, 0, 0, 0]) (.seq (.block 1 (at_ Try.f49 [1, 1, 0, 1, 0, 0, 1, 0, 0])) (at_ Try.f49 [1, 1, 0, 1, 0, 0, 1, 1]))) := by kernel_rfl
  rw [e]
  exact (.seq (.low (by kernel_rfl)) (.seq (.block 1 (.other _)) (.other _)))
noncomputable def R49x3t77 : RC := (.seq (.dreg [⟨(some 77), none, (.addo (.tmp 3) 2)⟩, ⟨(some 78), none, (.ld (.tmp 77) 1)⟩, ⟨(some 79), none, (.mov (.tmp 7))⟩, ⟨(some 80), none, (.idx (.tmp 78) (.tmp 79) 2)⟩, ⟨(some 81), none, (.addo (.tmp 80) 0)⟩, ⟨(some 82), none, (.ld (.tmp 81) 1)⟩, ⟨(some 83), none, (.addo (.tmp 2) 0)⟩, ⟨(some 84), none, (.ld (.tmp 83) 1)⟩, ⟨(some 85), none, (.len (.tmp 84))⟩, ⟨(some 86), none, (.ari .sub (.tmp 85) (.const (.int .i64 1)))⟩, ⟨(some 87), none, (.call ⟨(.value (.func 66)), (List.toArray [(.tmp 82), (.const (.int .i64 0)), (.tmp 86)]), (List.toArray [3, 3, 3])⟩ true)⟩, ⟨(some 88), none, (.pur ⟨(some 88), (.unOp .not 4 (.tmp 87)), 4, "", (List.toArray []), none⟩)⟩, ⟨(some 89), none, (.mov (.tmp 88))⟩, ⟨(some 90), (some (89, false)), (.addo (.tmp 3) 2)⟩, ⟨(some 91), (some (89, false)), (.ld (.tmp 90) 1)⟩, ⟨(some 92), (some (89, false)), (.mov (.tmp 7))⟩, ⟨(some 93), (some (89, false)), (.idx (.tmp 91) (.tmp 92) 2)⟩, ⟨(some 94), (some (89, false)), (.addo (.tmp 93) 1)⟩, ⟨(some 95), (some (89, false)), (.ld (.tmp 94) 1)⟩, ⟨(some 96), (some (89, false)), (.call ⟨(.value (.func 66)), (List.toArray [(.tmp 95), (.const (.int .i64 0)), (.const (.int .i64 68719476736))]), (List.toArray [3, 3, 3])⟩ true)⟩, ⟨(some 97), (some (89, false)), (.pur ⟨(some 97), (.unOp .not 4 (.tmp 96)), 4, "", (List.toArray []), none⟩)⟩, ⟨(some 98), none, (.pur ⟨(some 98), (.pick (.tmp 89) (.const (.bool true)) (.tmp 97)), 4, "", (List.toArray []), none⟩)⟩] [2097151, 1048575, 524287, 262143, 131071, 65535, 8191, 16383, 8191, 4095, 2047, 1023, 448, 192, 64, 0, 31, 15, 7, 0, 1, 0])
  (.cond (.tmp 98) (.seq (.reg [⟨(some 4), none, (.mov (.const (.bool false)))⟩])
  .ret)
  .skip))
theorem L49x3t77 : low Try.prog 99 (at_ Try.f49 [1, 1, 1, 1, 0, 1, 0, 0, 1, 0, 0]) = some R49x3t77 := by kernel_rfl
noncomputable def R49x3e : RC := (.reg [⟨(some 75), none, (.mov (.tmp 7))⟩, ⟨(some 76), none, (.ari .add (.tmp 75) (.const (.int .i64 1)))⟩, ⟨(some 7), none, (.mov (.tmp 76))⟩])
theorem L49x3e : low Try.prog 99 (at_ Try.f49 [1, 1, 1, 1, 0, 1, 0, 0, 1, 1]) = some R49x3e := by kernel_rfl
noncomputable def R49x3v : RC := (.seq (.seq (.reg [⟨(some 70), none, (.mov (.tmp 7))⟩, ⟨(some 71), none, (.addo (.tmp 3) 2)⟩, ⟨(some 72), none, (.ld (.tmp 71) 1)⟩, ⟨(some 73), none, (.len (.tmp 72))⟩, ⟨(some 74), none, (.cmp .lss (.tmp 70) (.tmp 73))⟩])
  (.cond (.tmp 74) .skip
  (.exit 4)))
  (.seq (.block 5 (.other (at_ Try.f49 [1, 1, 1, 1, 0, 1, 0, 0, 1, 0, 0])))
  (.other (at_ Try.f49 [1, 1, 1, 1, 0, 1, 0, 0, 1, 1]))))
theorem V49x3 : LT Try.prog 99 (at_ Try.f49 [1, 1, 1, 1, 0, 1, 0, 0]) R49x3v := by
  have e : at_ Try.f49 [1, 1, 1, 1, 0, 1, 0, 0] = (.seq (at_ Try.f49 [1, 1, 1, 1, 0, 1, 0, 0, 0]) (.seq (.block 5 (at_ Try.f49 [1, 1, 1, 1, 0, 1, 0, 0, 1, 0, 0])) (at_ Try.f49 [1, 1, 1, 1, 0, 1, 0, 0, 1, 1]))) := by kernel_rfl
  rw [e]
  exact (.seq (.low (by kernel_rfl)) (.seq (.block 5 (.other _)) (.other _)))

theorem tkc_get {l : List Tk} {i : Nat} {s : Tk} (h : l[i]? = some s) : (tkc l)[0 + i * 2 + 0]? = some (iv s.pond) ∧ (tkc l)[0 + i * 2 + 1]? = some (iv s.amount) :=
  ⟨row_get (row_flat (f := Tk.v) (size := 2) (fun _ _ => rfl) h) rfl, row_get (row_flat (f := Tk.v) (size := 2) (fun _ _ => rfl) h) rfl⟩
section
variable {P : Program} {kn : FuncId → Option Bool} {lo n : Nat} {masks : List Nat} {r : List RO} {ks : List Kd} {S : Rg} {H : Hp} {K : Rg → Hp → Prop} {d : Option Nat}
theorem wD_gs {g : Nat} {t : Bool} {ri : RI} (hg : lk S g = some (.bool (!t))) (h : wDraw P kn lo n masks r (.pure :: ks) (putS S d undef) H K) : wDraw P kn lo n masks (⟨d, some (g, t), ri⟩ :: r) ks S H K := by
  cases t <;> (simp only [wDraw, wRO, hg, Bool.not_true, Bool.not_false, cond_true, cond_false] at h ⊢; exact h)
end
section
variable {kn : FuncId → Option Bool} {lo : Nat} {H : Hp}
theorem rh1_tail {S : Rg} {K : Exit → Rg → Hp → Prop} {b2 b3 eb i bn bcap gn gnc : Nat} {u1 u2 u3 : Value} {x : Bd} {l : List Bd} {ng : Option Addr} (h3 : Rd H b3 [.slice (some ⟨eb, 0, none⟩) bn bcap, u2, u3]) (h2 : Rd H b2 [u1, .slice ng gn gnc]) (hr : Rd H eb (bdc l)) (hx : l[i]? = some x) (hi : i < bn) (hn : gn ≤ 1000)
    (hS : Subs [(5, iv (i : Int)), (3, pt b3), (2, pt b2)] S)
    (hK : ∀ S' H' t, (inB x.gate 0 ((gn : Int) - 1) && inB x.boards 0 16) = t → Subs [(5, iv (i : Int)), (3, pt b3), (2, pt b2)] S' → Keep H H' [] → if t = true then K .normal S' H' else (∀ S'', lk S'' 4 = some (.bool false) → K .ret S'' H')) :
    Tri Try.prog kn lo 99 false (at_ Try.f49 [1, 1, 0, 1, 0, 0, 1, 0, 0]) S H K := by
  obtain ⟨g0, g1⟩ := bdc_get hx
  obtain ⟨H5, f5, k5⟩ := in_ok (kn := kn) (lo := lo) (H := H) (n := x.gate) (a := 0) (b := (gn : Int) - 1)
  obtain ⟨H6, f6, k6⟩ := in_ok (kn := kn) (lo := lo) (H := H5) (n := x.boards) (a := 0) (b := 16)
  have h35 := k5.rd h3 (by simp)
  have h25 := k5.rd h2 (by simp)
  have hr5 := k5.rd hr (by simp)
  refine tri_piece L49x1t34 hS ?_
  cases e1 : inB x.gate 0 ((gn : Int) - 1)
  · rw [e1] at f5
    refine wD_seq ?_
    refine wD_addo (b := b3) (o := 0) rfl ?_
    refine wD_ld (b := b3) (o := 0 + 0) (v := .slice (some ⟨eb, 0, none⟩) bn bcap) rfl h3 rfl ?_
    refine wD_mov (v := iv ((i : Int))) rfl ?_
    refine wD_idx (b := eb) (o := 0) (k := i) (j := (i : Int)) rfl rfl rfl hi ?_
    refine wD_addo (b := eb) (o := 0 + i * 2) rfl ?_
    refine wD_ld (b := eb) (o := 0 + i * 2 + 0) (v := iv (x.gate)) rfl hr g0 ?_
    refine wD_addo (b := b2) (o := 0) rfl ?_
    refine wD_ld (b := b2) (o := 0 + 1) (v := .slice ng gn gnc) rfl h2 rfl ?_
    refine wD_len (m := gn) rfl ?_
    refine wD_sub (a := (gn : Int)) (b := 1) rfl rfl ⟨by omega, by omega⟩ ?_
    refine wD_callf (vs := [iv (x.gate), iv 0, iv ((gn : Int) - (1))]) rfl (callX_args f5) ?_
    refine wD_pur (v := .bool true) rfl (by kernel_rfl) ?_
    refine wD_mov (v := .bool true) rfl ?_
    refine wD_gs rfl ?_
    refine wD_gs rfl ?_
    refine wD_gs rfl ?_
    refine wD_gs rfl ?_
    refine wD_gs rfl ?_
    refine wD_gs rfl ?_
    refine wD_gs rfl ?_
    refine wD_gs rfl ?_
    refine wD_pur (v := .bool true) rfl rfl ?_
    refine wD_end (by repeat' first | exact True.intro | exact (fun h => h) | refine And.intro ?_ ?_) ?_
    refine condT ?_
    have := hK _ H5 false (by rw [e1]; rfl) hS k5
    simp only [Bool.false_eq_true, if_false] at this
    exact this _ rfl
  · rw [e1] at f5
    cases e2 : inB x.boards 0 16
    · rw [e2] at f6
      refine wD_seq ?_
      refine wD_addo (b := b3) (o := 0) rfl ?_
      refine wD_ld (b := b3) (o := 0 + 0) (v := .slice (some ⟨eb, 0, none⟩) bn bcap) rfl h3 rfl ?_
      refine wD_mov (v := iv ((i : Int))) rfl ?_
      refine wD_idx (b := eb) (o := 0) (k := i) (j := (i : Int)) rfl rfl rfl hi ?_
      refine wD_addo (b := eb) (o := 0 + i * 2) rfl ?_
      refine wD_ld (b := eb) (o := 0 + i * 2 + 0) (v := iv (x.gate)) rfl hr g0 ?_
      refine wD_addo (b := b2) (o := 0) rfl ?_
      refine wD_ld (b := b2) (o := 0 + 1) (v := .slice ng gn gnc) rfl h2 rfl ?_
      refine wD_len (m := gn) rfl ?_
      refine wD_sub (a := (gn : Int)) (b := 1) rfl rfl ⟨by omega, by omega⟩ ?_
      refine wD_callf (vs := [iv (x.gate), iv 0, iv ((gn : Int) - (1))]) rfl (callX_args f5) ?_
      refine wD_pur (v := .bool false) rfl (by kernel_rfl) ?_
      refine wD_mov (v := .bool false) rfl ?_
      refine wD_g rfl (wD_addo (b := b3) (o := 0) rfl ?_)
      refine wD_g rfl (wD_ld (b := b3) (o := 0 + 0) (v := .slice (some ⟨eb, 0, none⟩) bn bcap) rfl h35 rfl ?_)
      refine wD_g rfl (wD_mov (v := iv ((i : Int))) rfl ?_)
      refine wD_g rfl (wD_idx (b := eb) (o := 0) (k := i) (j := (i : Int)) rfl rfl rfl hi ?_)
      refine wD_g rfl (wD_addo (b := eb) (o := 0 + i * 2) rfl ?_)
      refine wD_g rfl (wD_ld (b := eb) (o := 0 + i * 2 + 1) (v := iv (x.boards)) rfl hr5 g1 ?_)
      refine wD_g rfl (wD_callf (vs := [iv (x.boards), iv 0, iv 16]) rfl (callX_args f6) ?_)
      refine wD_g rfl (wD_pur (v := .bool true) rfl (by kernel_rfl) ?_)
      refine wD_pur (v := .bool true) rfl rfl ?_
      refine wD_end (by repeat' first | exact True.intro | exact (fun h => h) | refine And.intro ?_ ?_) ?_
      refine condT ?_
      have := hK _ H6 false (by rw [e1, e2]; rfl) hS (k5.trans k6)
      simp only [Bool.false_eq_true, if_false] at this
      exact this _ rfl
    · rw [e2] at f6
      refine wD_seq ?_
      refine wD_addo (b := b3) (o := 0) rfl ?_
      refine wD_ld (b := b3) (o := 0 + 0) (v := .slice (some ⟨eb, 0, none⟩) bn bcap) rfl h3 rfl ?_
      refine wD_mov (v := iv ((i : Int))) rfl ?_
      refine wD_idx (b := eb) (o := 0) (k := i) (j := (i : Int)) rfl rfl rfl hi ?_
      refine wD_addo (b := eb) (o := 0 + i * 2) rfl ?_
      refine wD_ld (b := eb) (o := 0 + i * 2 + 0) (v := iv (x.gate)) rfl hr g0 ?_
      refine wD_addo (b := b2) (o := 0) rfl ?_
      refine wD_ld (b := b2) (o := 0 + 1) (v := .slice ng gn gnc) rfl h2 rfl ?_
      refine wD_len (m := gn) rfl ?_
      refine wD_sub (a := (gn : Int)) (b := 1) rfl rfl ⟨by omega, by omega⟩ ?_
      refine wD_callf (vs := [iv (x.gate), iv 0, iv ((gn : Int) - (1))]) rfl (callX_args f5) ?_
      refine wD_pur (v := .bool false) rfl (by kernel_rfl) ?_
      refine wD_mov (v := .bool false) rfl ?_
      refine wD_g rfl (wD_addo (b := b3) (o := 0) rfl ?_)
      refine wD_g rfl (wD_ld (b := b3) (o := 0 + 0) (v := .slice (some ⟨eb, 0, none⟩) bn bcap) rfl h35 rfl ?_)
      refine wD_g rfl (wD_mov (v := iv ((i : Int))) rfl ?_)
      refine wD_g rfl (wD_idx (b := eb) (o := 0) (k := i) (j := (i : Int)) rfl rfl rfl hi ?_)
      refine wD_g rfl (wD_addo (b := eb) (o := 0 + i * 2) rfl ?_)
      refine wD_g rfl (wD_ld (b := eb) (o := 0 + i * 2 + 1) (v := iv (x.boards)) rfl hr5 g1 ?_)
      refine wD_g rfl (wD_callf (vs := [iv (x.boards), iv 0, iv 16]) rfl (callX_args f6) ?_)
      refine wD_g rfl (wD_pur (v := .bool false) rfl (by kernel_rfl) ?_)
      refine wD_pur (v := .bool false) rfl rfl ?_
      refine wD_end (by repeat' first | exact True.intro | exact (fun h => h) | refine And.intro ?_ ?_) ?_
      refine condF ?_
      have := fun S' hS' => hK S' H6 true (by rw [e1, e2]; rfl) hS' (k5.trans k6)
      simp only [if_true] at this
      refine this _ ?_
      exact ⟨rfl, rfl, rfl, trivial⟩
theorem rh3_tail {S : Rg} {K : Exit → Rg → Hp → Prop} {b2 b3 eb i tn tcap pn pnc : Nat} {u1 u2 u3 : Value} {x : Tk} {l : List Tk} {ng : Option Addr} (h3 : Rd H b3 [u2, u3, .slice (some ⟨eb, 0, none⟩) tn tcap]) (h2 : Rd H b2 [.slice ng pn pnc, u1]) (hr : Rd H eb (tkc l)) (hx : l[i]? = some x) (hi : i < tn) (hn : pn ≤ 1000)
    (hS : Subs [(7, iv (i : Int)), (3, pt b3), (2, pt b2)] S)
    (hK : ∀ S' H' t, (inB x.pond 0 ((pn : Int) - 1) && inB x.amount 0 68719476736) = t → Subs [(7, iv (i : Int)), (3, pt b3), (2, pt b2)] S' → Keep H H' [] → if t = true then K .normal S' H' else (∀ S'', lk S'' 4 = some (.bool false) → K .ret S'' H')) :
    Tri Try.prog kn lo 99 false (at_ Try.f49 [1, 1, 1, 1, 0, 1, 0, 0, 1, 0, 0]) S H K := by
  obtain ⟨g0, g1⟩ := tkc_get hx
  obtain ⟨H5, f5, k5⟩ := in_ok (kn := kn) (lo := lo) (H := H) (n := x.pond) (a := 0) (b := (pn : Int) - 1)
  obtain ⟨H6, f6, k6⟩ := in_ok (kn := kn) (lo := lo) (H := H5) (n := x.amount) (a := 0) (b := 68719476736)
  have h35 := k5.rd h3 (by simp)
  have h25 := k5.rd h2 (by simp)
  have hr5 := k5.rd hr (by simp)
  refine tri_piece L49x3t77 hS ?_
  cases e1 : inB x.pond 0 ((pn : Int) - 1)
  · rw [e1] at f5
    refine wD_seq ?_
    refine wD_addo (b := b3) (o := 0) rfl ?_
    refine wD_ld (b := b3) (o := 0 + 2) (v := .slice (some ⟨eb, 0, none⟩) tn tcap) rfl h3 rfl ?_
    refine wD_mov (v := iv ((i : Int))) rfl ?_
    refine wD_idx (b := eb) (o := 0) (k := i) (j := (i : Int)) rfl rfl rfl hi ?_
    refine wD_addo (b := eb) (o := 0 + i * 2) rfl ?_
    refine wD_ld (b := eb) (o := 0 + i * 2 + 0) (v := iv (x.pond)) rfl hr g0 ?_
    refine wD_addo (b := b2) (o := 0) rfl ?_
    refine wD_ld (b := b2) (o := 0 + 0) (v := .slice ng pn pnc) rfl h2 rfl ?_
    refine wD_len (m := pn) rfl ?_
    refine wD_sub (a := (pn : Int)) (b := 1) rfl rfl ⟨by omega, by omega⟩ ?_
    refine wD_callf (vs := [iv (x.pond), iv 0, iv ((pn : Int) - (1))]) rfl (callX_args f5) ?_
    refine wD_pur (v := .bool true) rfl (by kernel_rfl) ?_
    refine wD_mov (v := .bool true) rfl ?_
    refine wD_gs rfl ?_
    refine wD_gs rfl ?_
    refine wD_gs rfl ?_
    refine wD_gs rfl ?_
    refine wD_gs rfl ?_
    refine wD_gs rfl ?_
    refine wD_gs rfl ?_
    refine wD_gs rfl ?_
    refine wD_pur (v := .bool true) rfl rfl ?_
    refine wD_end (by repeat' first | exact True.intro | exact (fun h => h) | refine And.intro ?_ ?_) ?_
    refine condT ?_
    have := hK _ H5 false (by rw [e1]; rfl) hS k5
    simp only [Bool.false_eq_true, if_false] at this
    exact this _ rfl
  · rw [e1] at f5
    cases e2 : inB x.amount 0 68719476736
    · rw [e2] at f6
      refine wD_seq ?_
      refine wD_addo (b := b3) (o := 0) rfl ?_
      refine wD_ld (b := b3) (o := 0 + 2) (v := .slice (some ⟨eb, 0, none⟩) tn tcap) rfl h3 rfl ?_
      refine wD_mov (v := iv ((i : Int))) rfl ?_
      refine wD_idx (b := eb) (o := 0) (k := i) (j := (i : Int)) rfl rfl rfl hi ?_
      refine wD_addo (b := eb) (o := 0 + i * 2) rfl ?_
      refine wD_ld (b := eb) (o := 0 + i * 2 + 0) (v := iv (x.pond)) rfl hr g0 ?_
      refine wD_addo (b := b2) (o := 0) rfl ?_
      refine wD_ld (b := b2) (o := 0 + 0) (v := .slice ng pn pnc) rfl h2 rfl ?_
      refine wD_len (m := pn) rfl ?_
      refine wD_sub (a := (pn : Int)) (b := 1) rfl rfl ⟨by omega, by omega⟩ ?_
      refine wD_callf (vs := [iv (x.pond), iv 0, iv ((pn : Int) - (1))]) rfl (callX_args f5) ?_
      refine wD_pur (v := .bool false) rfl (by kernel_rfl) ?_
      refine wD_mov (v := .bool false) rfl ?_
      refine wD_g rfl (wD_addo (b := b3) (o := 0) rfl ?_)
      refine wD_g rfl (wD_ld (b := b3) (o := 0 + 2) (v := .slice (some ⟨eb, 0, none⟩) tn tcap) rfl h35 rfl ?_)
      refine wD_g rfl (wD_mov (v := iv ((i : Int))) rfl ?_)
      refine wD_g rfl (wD_idx (b := eb) (o := 0) (k := i) (j := (i : Int)) rfl rfl rfl hi ?_)
      refine wD_g rfl (wD_addo (b := eb) (o := 0 + i * 2) rfl ?_)
      refine wD_g rfl (wD_ld (b := eb) (o := 0 + i * 2 + 1) (v := iv (x.amount)) rfl hr5 g1 ?_)
      refine wD_g rfl (wD_callf (vs := [iv (x.amount), iv 0, iv 68719476736]) rfl (callX_args f6) ?_)
      refine wD_g rfl (wD_pur (v := .bool true) rfl (by kernel_rfl) ?_)
      refine wD_pur (v := .bool true) rfl rfl ?_
      refine wD_end (by repeat' first | exact True.intro | exact (fun h => h) | refine And.intro ?_ ?_) ?_
      refine condT ?_
      have := hK _ H6 false (by rw [e1, e2]; rfl) hS (k5.trans k6)
      simp only [Bool.false_eq_true, if_false] at this
      exact this _ rfl
    · rw [e2] at f6
      refine wD_seq ?_
      refine wD_addo (b := b3) (o := 0) rfl ?_
      refine wD_ld (b := b3) (o := 0 + 2) (v := .slice (some ⟨eb, 0, none⟩) tn tcap) rfl h3 rfl ?_
      refine wD_mov (v := iv ((i : Int))) rfl ?_
      refine wD_idx (b := eb) (o := 0) (k := i) (j := (i : Int)) rfl rfl rfl hi ?_
      refine wD_addo (b := eb) (o := 0 + i * 2) rfl ?_
      refine wD_ld (b := eb) (o := 0 + i * 2 + 0) (v := iv (x.pond)) rfl hr g0 ?_
      refine wD_addo (b := b2) (o := 0) rfl ?_
      refine wD_ld (b := b2) (o := 0 + 0) (v := .slice ng pn pnc) rfl h2 rfl ?_
      refine wD_len (m := pn) rfl ?_
      refine wD_sub (a := (pn : Int)) (b := 1) rfl rfl ⟨by omega, by omega⟩ ?_
      refine wD_callf (vs := [iv (x.pond), iv 0, iv ((pn : Int) - (1))]) rfl (callX_args f5) ?_
      refine wD_pur (v := .bool false) rfl (by kernel_rfl) ?_
      refine wD_mov (v := .bool false) rfl ?_
      refine wD_g rfl (wD_addo (b := b3) (o := 0) rfl ?_)
      refine wD_g rfl (wD_ld (b := b3) (o := 0 + 2) (v := .slice (some ⟨eb, 0, none⟩) tn tcap) rfl h35 rfl ?_)
      refine wD_g rfl (wD_mov (v := iv ((i : Int))) rfl ?_)
      refine wD_g rfl (wD_idx (b := eb) (o := 0) (k := i) (j := (i : Int)) rfl rfl rfl hi ?_)
      refine wD_g rfl (wD_addo (b := eb) (o := 0 + i * 2) rfl ?_)
      refine wD_g rfl (wD_ld (b := eb) (o := 0 + i * 2 + 1) (v := iv (x.amount)) rfl hr5 g1 ?_)
      refine wD_g rfl (wD_callf (vs := [iv (x.amount), iv 0, iv 68719476736]) rfl (callX_args f6) ?_)
      refine wD_g rfl (wD_pur (v := .bool false) rfl (by kernel_rfl) ?_)
      refine wD_pur (v := .bool false) rfl rfl ?_
      refine wD_end (by repeat' first | exact True.intro | exact (fun h => h) | refine And.intro ?_ ?_) ?_
      refine condF ?_
      have := fun S' hS' => hK S' H6 true (by rw [e1, e2]; rfl) hS' (k5.trans k6)
      simp only [if_true] at this
      refine this _ ?_
      exact ⟨rfl, rfl, rfl, trivial⟩
theorem refhourB_ok {pa ga : Option Addr} {pn pcap gn gcap : Nat} {h : Hr} (ha : h.At H) (hpn : pn ≤ 1000) (hgn : gn ≤ 1000) (hbn : h.bn ≤ 1000) (hcn : h.cn ≤ 1000) (htn : h.tn ≤ 1000) (hlo : lo ≤ H.next) :
    ∃ H', FnX Try.prog kn lo 49 [chv pa pn pcap ga gn gcap, .agg h.v.toArray] H (.bool (hourB h pn gn)) H' ∧ Keep H H' [] := by
  have key := fnX_low (kn := kn) (lo := lo) (H := H) (args := [chv pa pn pcap ga gn gcap, .agg h.v.toArray]) (Q := fun w H' => w = .bool (hourB h pn gn) ∧ Keep H H' []) Try.func49 B49 N49 Z49 L49 (by simp) ?_
  · obtain ⟨w, H', q, rfl, r⟩ := key; exact ⟨H', q, r⟩
  have lb := ha.lb; have lc := ha.lc; have lt := ha.lt
  intro H1 hH1; obtain ⟨k1, n1, c1⟩ := new_facts hH1; clear hH1
  intro H2 hH2; obtain ⟨k2, n2, c2⟩ := new_facts hH2; clear hH2
  have c1 : Cl H2 H.next [.slice pa pn pcap, .slice ga gn gcap] := k2.cl c1 (by simp)
  have c2 : Cl H2 H1.next [.slice h.ba h.bn h.bcap, .slice h.ca h.cn h.ccap, .slice h.ta h.tn h.tcap] := c2
  have k02 := k1.trans k2
  have m1 := k1.1; have m2 := k2.1
  have ha2 := ha.keep k02
  have no : ∀ {b : Bool} {H' : Hp}, hourB h pn gn = false → Keep H H' [] → (retV [Value.bool false] = Value.bool (hourB h pn gn) ∧ Keep H H' []) := fun e k => ⟨by rw [e]; rfl, k⟩
  refine Exists.intro _ (Exists.intro _ (And.intro c2.of (And.intro (show _ = some (.slice h.ba h.bn h.bcap) from rfl) ?_)))
  intro t1 h1
  cases t1
  rotate_left
  · repeat (refine And.intro rfl (Exists.intro (.bool true) (And.intro rfl ?_)))
    refine condT ?_
    exact And.intro trivial (Exists.intro _ (And.intro rfl (no (b := true) (by simp only [hourB, h1]; rfl) k02)))
  refine Exists.intro _ (Exists.intro _ (And.intro c2.of (And.intro (show _ = some (.slice h.ca h.cn h.ccap) from rfl) ?_)))
  refine Exists.intro _ (Exists.intro _ (And.intro c1.of (And.intro (show _ = some (.slice pa pn pcap) from rfl) ?_)))
  intro t2 h2
  cases t2
  rotate_left
  · repeat (refine And.intro rfl (Exists.intro (.bool true) (And.intro rfl ?_)))
    refine condT ?_
    exact And.intro trivial (Exists.intro _ (And.intro rfl (no (b := true) (by simp only [hourB, h1, h2]; rfl) k02)))
  refine And.intro rfl (Exists.intro (.bool false) (And.intro rfl ?_))
  refine Exists.intro _ (Exists.intro _ (And.intro c2.of (And.intro (show _ = some (.slice h.ta h.tn h.tcap) from rfl) ?_)))
  intro t3 h3
  cases t3
  rotate_left
  · repeat (refine And.intro rfl (Exists.intro (.bool true) (And.intro rfl ?_)))
    refine condT ?_
    exact And.intro trivial (Exists.intro _ (And.intro rfl (no (b := true) (by simp only [hourB, h1, h2, h3]; rfl) k02)))
  refine And.intro rfl (Exists.intro (.bool false) (And.intro rfl ?_))
  refine condF ?_
  -- the boards
  refine loop_lt E49_1 V49x1 (fun i : Nat => [(5, iv (i : Int)), (3, pt H1.next), (2, pt H.next)])
    (fun k i H' => i + k = h.bn ∧ Keep H2 H' [] ∧ (h.bs.take i).all (fun b => indexB b.gate gn && boardsB b.boards) = true) h.bn 0 ⟨by omega, Keep.refl _ _, rfl⟩ ⟨rfl, rfl, rfl, trivial⟩ ?_
  rintro k i H3 ⟨hik, hk, hall⟩
  have c23 := hk.cl c2 (by simp)
  have c13 := hk.cl c1 (by simp)
  refine Exists.intro _ (Exists.intro _ (And.intro c23.of (And.intro (show _ = some (.slice h.ba h.bn h.bcap) from rfl) ?_)))
  refine And.intro (fun hlt => ?_) (fun hge => ?_)
  · have hi : i < h.bn := by simpa using hlt
    have hb3 := (ha2.keep hk).b
    rcases hb3 with ⟨_, h0, _⟩ | ⟨eb, eba, hr, _⟩
    · omega
    obtain ⟨x, hx⟩ := get_some (l := h.bs) (i := i) (by omega)
    rw [eba] at c23
    refine rh1_tail (b2 := H.next) (b3 := H1.next) (x := x) (l := h.bs) (i := i) (gn := gn) (gnc := gcap) (ng := ga) c23.rd c13.rd hr hx hi hgn ⟨rfl, rfl, rfl, trivial⟩ ?_
    intro S' H4 t ht hS' k4
    have hh : (indexB x.gate gn && boardsB x.boards) = t := by
      rw [← ht, Bool.eq_iff_iff]; simp only [indexB, boardsB, inB, Bool.and_eq_true, decide_eq_true_eq]; omega
    cases t
    · simp only [Bool.false_eq_true, if_false]
      intro S'' h4
      have hno := all_fail (f := fun b : Bd => indexB b.gate gn && boardsB b.boards) hx hh
      refine And.intro trivial (Exists.intro [.bool false] (And.intro (by simp only [resS, h4]) (no (b := true) (by simp only [hourB, hno, Bool.and_false, Bool.false_and]) (k02.trans (hk.trans k4)))))
    · simp only [if_true]
      refine tri_piece L49x1e hS' ?_
      refine And.intro ⟨by omega, by omega⟩ ?_
      refine ⟨k - 1, i + 1, by omega, ⟨by omega, hk.trans k4, ?_⟩, rfl, rfl, rfl, trivial⟩
      rw [all_step hx, hall, hh]; rfl
  have hi : ¬ i < h.bn := by simpa using hge
  rw [List.take_of_length_le (by omega)] at hall
  clear hik hge hi
  have ha3 := ha2.keep hk
  have k03 := k02.trans hk
  -- what comes
  refine loop_low (fn := Try.f49) E49_2 N49 L49x2 (fun i : Nat => [(6, iv (i : Int)), (3, pt H1.next), (2, pt H.next)])
    (fun k i H' => i + k = h.cn ∧ Keep H3 H' [] ∧ (h.cs.take i).all (fun s => withinB s.1 s.2 68719476736) = true) h.cn 0 ⟨by omega, Keep.refl _ _, rfl⟩ ⟨rfl, rfl, rfl, trivial⟩ ?_
  rintro k i H4 ⟨hik, hk4, hall2⟩
  have c24 := hk4.cl c23 (by simp)
  have c14 := hk4.cl c13 (by simp)
  refine Exists.intro _ (Exists.intro _ (And.intro c24.of (And.intro (show _ = some (.slice h.ca h.cn h.ccap) from rfl) ?_)))
  refine And.intro (fun hlt => ?_) (fun hge => ?_)
  · have hi : i < h.cn := by simpa using hlt
    have hb3 := (ha3.keep hk4).c
    rcases hb3 with ⟨_, h0, _⟩ | ⟨eb, eba, hr, _⟩
    · omega
    obtain ⟨x, hx⟩ := get_some (l := h.cs) (i := i) (by omega)
    refine Exists.intro _ (Exists.intro _ (And.intro c24.of (And.intro (show _ = some (.slice h.ca h.cn h.ccap) from rfl) ?_)))
    rw [eba]
    refine Exists.intro i (And.intro rfl (And.intro hi ?_))
    refine Exists.intro _ (Exists.intro _ (And.intro hr.of (And.intro (spc_row hx) ?_)))
    refine callB refwithin_ok ?_
    intro t H5 ht k5
    have hh : withinB x.1 x.2 68719476736 = t := by
      rw [← ht]; rfl
    cases t
    · refine And.intro rfl (Exists.intro (.bool true) (And.intro rfl ?_))
      refine condT ?_
      have hno := all_fail (f := fun s : Int × Int => withinB s.1 s.2 68719476736) hx hh
      exact And.intro trivial (Exists.intro _ (And.intro rfl (no (b := true) (by simp only [hourB, hno, Bool.and_false, Bool.false_and]) (k03.trans (hk4.trans k5)))))
    · refine And.intro rfl (Exists.intro (.bool false) (And.intro rfl ?_))
      refine condF ?_
      refine And.intro ⟨by omega, by omega⟩ ?_
      refine ⟨k - 1, i + 1, by omega, ⟨by omega, hk4.trans k5, ?_⟩, rfl, rfl, rfl, trivial⟩
      rw [all_step hx, hall2, hh]; rfl
  have hi : ¬ i < h.cn := by simpa using hge
  rw [List.take_of_length_le (by omega)] at hall2
  clear hik hge hi
  have ha4 := ha3.keep hk4
  have k04 := k03.trans hk4
  -- the takes
  refine loop_lt E49_3 V49x3 (fun i : Nat => [(7, iv (i : Int)), (3, pt H1.next), (2, pt H.next)])
    (fun k i H' => i + k = h.tn ∧ Keep H4 H' [] ∧ (h.ts.take i).all (fun t => indexB t.pond pn && waterB t.amount) = true) h.tn 0 ⟨by omega, Keep.refl _ _, rfl⟩ ⟨rfl, rfl, rfl, trivial⟩ ?_
  rintro k i H5 ⟨hik, hk5, hall3⟩
  have c25 := hk5.cl c24 (by simp)
  have c15 := hk5.cl c14 (by simp)
  refine Exists.intro _ (Exists.intro _ (And.intro c25.of (And.intro (show _ = some (.slice h.ta h.tn h.tcap) from rfl) ?_)))
  refine And.intro (fun hlt => ?_) (fun hge => ?_)
  · have hi : i < h.tn := by simpa using hlt
    have hb3 := (ha4.keep hk5).t
    rcases hb3 with ⟨_, h0, _⟩ | ⟨eb, eba, hr, _⟩
    · omega
    obtain ⟨x, hx⟩ := get_some (l := h.ts) (i := i) (by omega)
    rw [eba] at c25
    refine rh3_tail (b2 := H.next) (b3 := H1.next) (x := x) (l := h.ts) (i := i) (pn := pn) (pnc := pcap) (ng := pa) c25.rd c15.rd hr hx hi hpn ⟨rfl, rfl, rfl, trivial⟩ ?_
    intro S' H6 t ht hS' k6
    have hh : (indexB x.pond pn && waterB x.amount) = t := by
      rw [← ht, Bool.eq_iff_iff]; simp only [indexB, waterB, inB, Bool.and_eq_true, decide_eq_true_eq]; omega
    cases t
    · simp only [Bool.false_eq_true, if_false]
      intro S'' h4
      have hno := all_fail (f := fun t : Tk => indexB t.pond pn && waterB t.amount) hx hh
      refine And.intro trivial (Exists.intro [.bool false] (And.intro (by simp only [resS, h4]) (no (b := true) (by simp only [hourB, hno, Bool.and_false, Bool.false_and]) (k04.trans (hk5.trans k6)))))
    · simp only [if_true]
      refine tri_piece L49x3e hS' ?_
      refine And.intro ⟨by omega, by omega⟩ ?_
      refine ⟨k - 1, i + 1, by omega, ⟨by omega, hk5.trans k6, ?_⟩, rfl, rfl, rfl, trivial⟩
      rw [all_step hx, hall3, hh]; rfl
  have hi : ¬ i < h.tn := by simpa using hge
  rw [List.take_of_length_le (by omega)] at hall3
  refine And.intro trivial (Exists.intro _ (And.intro rfl ⟨?_, k04.trans hk5⟩))
  simp only [hourB, h1, h2, h3, hall, hall2, hall3]; rfl
end
end Go.Ax
namespace Go.Ax
open Go Go.RowKit Go.Proofs
theorem water_ref (ponds : List Pd) (ss : List (Int × Int)) (pn wn : Nat) : refWaterB ponds ss pn wn = waterOkB ponds ss pn wn := rfl
end Go.Ax
namespace Go.Ax
open Go Go.RowKit Go.Proofs
end Go.Ax
namespace Go.Ax
open Go Go.RowKit Go.Proofs
end Go.Ax
namespace Go.Ax
open Go Go.RowKit Go.Proofs
end Go.Ax
namespace Go.Ax
open Go Go.RowKit Go.Proofs
end Go.Ax
namespace Go.Ax
open Go Go.RowKit Go.Proofs
end Go.Ax
namespace Go.Ax
open Go Go.RowKit Go.Proofs
end Go.Ax
namespace Go.Ax
open Go Go.RowKit Go.Proofs
end Go.Ax

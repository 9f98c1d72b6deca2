/-
  Proved here: whatever the input, the law FrostTrue returns true and leaves what it was given as it was. Conditions: none beyond the row's own.
  The call is worked out for all inputs (the texts Ax .. AxW9, AxO, AxR .. AxR8, F1, T1 .. T26, U1 .. U4, G, G2: 'Go.Ax.law_true'), alive by the evaluator of closed calls.
-/
import Derived.Test.YtjgpbiobacjobaaGreatRows
import Derived.Test.YtjgpbiobacjobaaGreatAlive
import Derived.Test.YtjgpbiobacjobaaGreatTe
import Derived.Test.YtjgpbiobacjobaaGreatG2
import Derived.ProofKit
import Derived.Below
import Derived.Carry
import Derived.ChangeSame
set_option linter.all false
namespace Go.Proofs.YtjgpbiobacjobaaGreat.frostTrue
open Go.Proofs.YtjgpbiobacjobaaGreat
open Go.ChangeShapes Go.WideShapes Go.ChangeAt Go.RowKit Go.Ax

theorem own : ownKnob Tryz.prog.godebug = none := by kernel_rfl
theorem laid : laidOutB Tryz.prog = true := by kernel_rfl

theorem okWide_cell {P : Program} {w : World} {r : Reach} {b : Nat} {t e : TypeId} {v : Value} (ht : P.underlying t = some (.slice e)) (h : Value.okWide P w r b t v) : Cell.okWide P w r b t v := by
  unfold Value.okWide at h; rw [ht] at h; exact h
theorem okWide_row {P : Program} {w : World} {r : Reach} {b : Nat} {t : TypeId} {v : Value} {fs : Array Field} {us : List TypeId} (ht : P.underlying t = some (.struct fs)) (hc : P.cellTypes P.depth t = some us) (h : Value.okWide P w r b t v) :
    ∃ cs, v = .agg cs ∧ cs.size = P.cellsOf t ∧ ∀ i u, cs[i]? = some u → ∃ a, us[i % us.length]? = some a ∧ Cell.okWide P w r b a u := by
  unfold Value.okWide at h; rw [ht] at h
  obtain ⟨cs, e, hsz, ts, hts, _, hall⟩ := h
  rw [hc] at hts
  cases hts
  exact ⟨cs, e, hsz, hall⟩

theorem okWide_cint {P : Program} {w : World} {r : Reach} {b : Nat} {t : TypeId} {k : IntKind} {v : Value} (ht : P.underlying t = some (.int k)) (h : Cell.okWide P w r b t v) : ∃ n, v = .int k n :=
  Go.WideShapes.okWide_int (base := b) ht (by unfold Value.okWide; rw [ht]; exact h)
theorem i3 : IntT Tryz.prog 3 := .int Tryz.underlying3 (by kernel_rfl)
theorem i48 : IntT Tryz.prog 48 := .struct Tryz.underlying48 (by intro f hf; simp at hf; rcases hf with rfl | rfl <;> exact i3) (by kernel_rfl)
theorem i57 : IntT Tryz.prog 57 := .struct Tryz.underlying57 (by intro f hf; simp at hf; rcases hf with rfl | rfl | rfl <;> exact i3) (by kernel_rfl)
theorem ct25 : Tryz.prog.cellTypes Tryz.prog.depth 25 = some [3, 3, 3, 22, 23] := by kernel_rfl
section
variable {H : Type} {enc : TypeId × Value → H} {w : World} {base : Nat} {v : Value} {d : DataW H} {p : List MemPlace}
set_option maxRecDepth 100000 in
theorem open_c (hv : Value.okWide Tryz.prog w .any base (25 : Nat) v) (h : DataW.Trod enc Tryz.prog w 0 (fun _ => true) true (25 : Nat) v d p) :
    ∃ (a b c : Int) (s1 s2 : Value) (ss : List (Int × Int)) (rs : List Rdg) (x1 x2 : Imp), v = .agg #[iv a, iv b, iv c, s1, s2] ∧ Given w s1 (fun s : Int × Int => [iv s.1, iv s.2]) ss x1 ∧ Given w s2 Rdg.v rs x2 := by
  obtain ⟨fuel, h⟩ := h
  obtain ⟨cs, rfl, hsz, hall⟩ := okWide_row Tryz.underlying25 ct25 hv
  have h2 : cs.size = 5 := hsz.trans (by kernel_rfl)
  obtain ⟨l⟩ := cs
  match l, h2 with
  | [s1, s2, s3, s4, s5], _ =>
    obtain ⟨u1, hu1, o1⟩ := hall 0 s1 rfl
    obtain ⟨u2, hu2, o2⟩ := hall 1 s2 rfl
    obtain ⟨u3, hu3, o3⟩ := hall 2 s3 rfl
    obtain ⟨u4, hu4, o4⟩ := hall 3 s4 rfl
    obtain ⟨u5, hu5, o5⟩ := hall 4 s5 rfl
    cases hu1
    cases hu2
    cases hu3
    cases hu4
    cases hu5
    obtain ⟨n1, rfl⟩ := okWide_cint Tryz.underlying3 o1
    obtain ⟨n2, rfl⟩ := okWide_cint Tryz.underlying3 o2
    obtain ⟨n3, rfl⟩ := okWide_cint Tryz.underlying3 o3
    obtain ⟨xs, n, _, _, _, hxl, hg⟩ := DataW.trod_struct Tryz.underlying25 h
    match xs, hxl with
    | [y1, y2, y3, y4, y5], _ =>
      have g1 : DataW.trod enc Tryz.prog w 0 (fun _ => true) true n (22 : Nat) [s4] = some y4 := by
        have q := hg 3 ⟨"Sensors", 22, 3, false, "", "", 24⟩ rfl
        have c : Tryz.prog.cellsOf (22 : Nat) = 1 := by kernel_rfl
        simp only [c] at q
        exact q
      have g2 : DataW.trod enc Tryz.prog w 0 (fun _ => true) true n (23 : Nat) [s5] = some y5 := by
        have q := hg 4 ⟨"Readings", 23, 4, false, "", "", 48⟩ rfl
        have c : Tryz.prog.cellsOf (23 : Nat) = 1 := by kernel_rfl
        simp only [c] at q
        exact q
      obtain ⟨ss, x1, q1⟩ := slice_given (fun s : Int × Int => [iv s.1, iv s.2]) (fun N => (N 0, N 1)) 2 Tryz.underlying22 i48 (by kernel_rfl) (by decide) (fun _ => rfl) o4 g1
      obtain ⟨rs, x2, q2⟩ := slice_given Rdg.v (fun N => ⟨N 0, N 1, N 2⟩) 3 Tryz.underlying23 i57 (by kernel_rfl) (by decide) (fun _ => rfl) o5 g2
      exact ⟨n1, n2, n3, s4, s5, ss, rs, x1, x2, rfl, q1, q2⟩
end

theorem rel0 {α : Type} {w : World} {v : Value} {f : α → List Value} {l : List α} {x : Imp} (g : Given w v f l x) {r : Ren} {H : Hp} {b : Nat} (hr : r b = some ⟨x.blk, x.off, none⟩) (hb : b < H.next) (hc : cellsOf H b = some x.cs) :
    ∃ a cap, VR r (.slice a l.length cap) v ∧ Sl H a l.length cap (l.flatMap f) := by
  rcases g.v with ⟨rfl, rfl⟩ | ⟨cap, rfl, hl⟩
  · exact ⟨none, 0, .nilSlice, .inl ⟨.inl rfl, rfl, rfl, rfl⟩⟩
  · refine ⟨some ⟨b, 0, none⟩, cap, ?_, .inr ⟨b, rfl, ⟨hb, by rw [hc, g.cs]⟩, hl⟩⟩
    have := VR.slice (o := 0) (n := l.length) (c := cap) hr rfl hl
    simpa using this
set_option maxRecDepth 100000 in
theorem open_u {H : Type} {enc : TypeId × Value → H} {w : World} {base : Nat} {v : Value} {d : DataW H} {p : List MemPlace} (hv : Value.okWide Tryz.prog w .any base (55 : Nat) v) (h : DataW.Trod enc Tryz.prog w 0 (fun _ => true) true (55 : Nat) v d p) : ∃ (us : List Nat) (x : Imp), Given w v (fun n : Nat => [Value.int .u32 (n : Int)]) us x ∧ us.length ≤ 9223372036854775807 ∧ ∀ n ∈ us, n ≤ 4294967295 := by
  obtain ⟨fuel, h⟩ := h
  have hR : ∀ (fuel : Nat) (cs : List Value) (x : DataW H × List MemPlace), DataW.trod enc Tryz.prog w 0 (fun _ => true) true fuel (67 : Nat) cs = some x → ∃ y : Nat, cs = [Value.int .u32 (y : Int)] ∧ y ≤ 4294967295 := by
    intro fuel cs x hx
    obtain ⟨n, rfl, _, hwf⟩ := DataW.trod_int Tryz.underlying67 hx
    have hr : 0 ≤ n ∧ n ≤ 4294967295 := by
      simp [Lit.wf, IntKind.min, IntKind.max, IntKind.signed, IntKind.bits] at hwf
      omega
    obtain ⟨t, rfl⟩ : ∃ t : Nat, n = (t : Int) := ⟨n.toNat, by omega⟩
    exact ⟨t, rfl, by omega⟩
  obtain ⟨a, len, cap, rfl⟩ := okWide_slice Tryz.underlying55 hv
  obtain ⟨l, y, g, h1, h2⟩ := rows_givenG (f := fun n : Nat => [Value.int .u32 (n : Int)]) (Q := fun n => n ≤ 4294967295) (k := 1) Tryz.underlying55 hR (by kernel_rfl) (by decide) (fun _ => rfl) (fun y u hu => by simp at hu; subst hu; rfl) (okWide_cell Tryz.underlying55 hv) h
  exact ⟨l, y, g, Nat.le_trans h1 maxLen_le, h2⟩
theorem u32_flat (l : List Nat) : l.flatMap (fun n : Nat => [Value.int .u32 (n : Int)]) = u32s l := by
  induction l with
  | nil => rfl
  | cons a l ih => rw [List.flatMap_cons, ih]; rfl
theorem ct57 : Tryz.prog.cellTypes Tryz.prog.depth 57 = some [3, 3, 3] := by kernel_rfl
set_option maxRecDepth 100000 in
theorem open_r {w : World} {base : Nat} {v : Value} (hv : Value.okWide Tryz.prog w .any base (57 : Nat) v) : ∃ x : Rdg, v = .agg #[iv x.sensor, iv x.slot, iv x.value] := by
  obtain ⟨cs, rfl, hsz, hall⟩ := okWide_row Tryz.underlying57 ct57 hv
  have h2 : cs.size = 3 := hsz.trans (by kernel_rfl)
  obtain ⟨l⟩ := cs
  match l, h2 with
  | [s1, s2, s3], _ =>
    obtain ⟨u1, hu1, o1⟩ := hall 0 s1 rfl
    obtain ⟨u2, hu2, o2⟩ := hall 1 s2 rfl
    obtain ⟨u3, hu3, o3⟩ := hall 2 s3 rfl
    cases hu1
    cases hu2
    cases hu3
    obtain ⟨n1, rfl⟩ := okWide_cint Tryz.underlying3 o1
    obtain ⟨n2, rfl⟩ := okWide_cint Tryz.underlying3 o2
    obtain ⟨n3, rfl⟩ := okWide_cint Tryz.underlying3 o3
    exact ⟨⟨n1, n2, n3⟩, rfl⟩
theorem call {w : World} {a b c f : Int} {s1 s2 s3 : Value} {ss : List (Int × Int)} {rs : List Rdg} {us : List Nat} {x1 x2 x3 : Imp} {x : Rdg} (g1 : Given w s1 (fun s : Int × Int => [iv s.1, iv s.2]) ss x1) (g2 : Given w s2 Rdg.v rs x2) (g3 : Given w s3 (fun n : Nat => [Value.int .u32 (n : Int)]) us x3)
    (hf : -32768 ≤ f ∧ f ≤ 32767) (hus : ∀ n ∈ us, n ≤ 4294967295) (hu2 : us.length ≤ 9223372036854775807) :
    Calls Tryz.prog 7 #[.agg #[iv a, iv b, iv c, s1, s2], .int .i16 f, s3, .agg #[iv x.sensor, iv x.slot, iv x.value]] w fun e w' => e = .returned (.bool true) ∧ Below w.heap.size w w' := by
  obtain ⟨r, H, hrel, hn, hr, himp⟩ := imports (P := Tryz.prog) [x1, x2, x3] w (by
    intro x hx i u hu
    simp at hx
    rcases hx with rfl | rfl | rfl
    · exact g1.ok i u hu
    · exact g2.ok i u hu
    · exact g3.ok i u hu)
  have hn : H.next = 3 := hn
  obtain ⟨a1, c1, r1, l1⟩ := rel0 g1 (himp 0 x1 rfl).1 (by omega) (himp 0 x1 rfl).2
  obtain ⟨a2, c2, r2, l2⟩ := rel0 g2 (himp 1 x2 rfl).1 (by omega) (himp 1 x2 rfl).2
  obtain ⟨a3, c3, r3, l3⟩ := rel0 g3 (himp 2 x3 rfl).1 (by omega) (himp 2 x3 rfl).2
  rw [u32_flat] at l3
  obtain ⟨H', hf⟩ := law_true (f := f) (x := x) (kn := fun f => bif Nat.beq f 16 then some true else none) (lo := H.next) (H := H) (g := ⟨a, b, c, a.toNat, a1, ss.length, c1, ss, a2, rs.length, c2, rs⟩) rfl rfl l1 l2 rfl rfl hf hus hu2 l3 (Nat.le_refl _)
  refine open_call alive.mixed alive.noCount alive.known hrel hr ?_ hf
  exact .cons (.agg rfl fun i u u' e e' => by
    match i with
    | 0 => cases e; cases e'; exact .int _ _
    | 1 => cases e; cases e'; exact .int _ _
    | 2 => cases e; cases e'; exact .int _ _
    | 3 => cases e; cases e'; exact r1
    | 4 => cases e; cases e'; exact r2
    | _ + 5 => cases e) (.cons (.int _ _) (.cons r3 (.cons (.agg rfl fun i u u' e e' => by
    match i with
    | 0 => cases e; cases e'; exact .int _ _
    | 1 => cases e; cases e'; exact .int _ _
    | 2 => cases e; cases e'; exact .int _ _
    | _ + 3 => cases e) .nil)))
theorem all_below {H : Type} {enc : TypeId × Value → H} {P : Program} (hl : laidOutB P = true) {W W' : World} (hb : Below W.heap.size W W') {sp : Nat → Bool} : ∀ {ts : List TypeId} {vs : List Value} {ds : List (DataW H)} {ps : List MemPlace},
    (ts.all fun t => P.readableRec t && decide (t < P.types.size)) = true → (∀ x ∈ ps, x.block < W.heap.size) → (∀ x ∈ ps, sp x.block = true) → DataW.TrodAll enc P W 0 (fun _ => true) true ts vs ds ps → DataW.TrodAll enc P W' 0 sp true ts vs ds ps
  | [], _, _, _, _, _, _, h => by
    obtain ⟨rfl, rfl, rfl⟩ := trodAll_nil h
    exact rfl
  | t :: ts, _, _, _, ht, hlt, hsp, h => by
    obtain ⟨v, vs1, d, ds1, a, b, rfl, rfl, rfl, h1, h2⟩ := trodAll_cons h
    simp only [List.all_cons, Bool.and_eq_true, decide_eq_true_eq] at ht
    exact ⟨a, b, WideElems.Trod_stays hl ht.1.1 ht.1.2 h1 (fun x hx => hb.same (hlt x (List.mem_append.2 (.inl hx)))) (fun x hx => hsp x (List.mem_append.2 (.inl hx))),
      all_below hl hb ht.2 (fun x hx => hlt x (List.mem_append.2 (.inr hx))) (fun x hx => hsp x (List.mem_append.2 (.inr hx))) h2, rfl⟩

/-- The last step of a row without variables, where the call leaves what lay below as it was and makes a plain value. -/
theorem post_args {H : Type} {enc : TypeId × Value → H} {P : Program} {f : Func} {s : ChangeSpec} {apart fresh handsOn again : Bool} {W W' : World} {args : Array Value} {v : Value} {ds gs : List (DataW H)} {before : List MemPlace}
    (hl : laidOutB P = true) (hts : (f.params.toList.all fun t => P.readableRec t && decide (t < P.types.size)) = true)
    (hW : DataW.Whole enc P f.params.toList s.vars apart W args.toList ds gs before) (hA : DataW.TrodAll enc P W 0 (fun _ => true) true f.params.toList args.toList ds before)
    (hres : ∀ (b : Nat) (sp : Nat → Bool) (hd : Bool), DataW.TrodAll enc P W' b sp hd f.resultTypes.toList (v.resultList f.resultTypes.size) (s.fn H (ds ++ gs)).results [])
    (hargs : (s.fn H (ds ++ gs)).args = ds) (hvars : ∀ sp : Nat → Bool, DataW.TrodVars enc P W' sp s.vars (s.fn H (ds ++ gs)).vars [])
    (hb : Below W.heap.size W W')
    (hok : ∀ (j : Nat) (t : TypeId) (r : Value), f.resultTypes[j]? = some t → (v.resultList f.resultTypes.size)[j]? = some r → Value.okWide P W' .any 0 t r) :
    s.post enc P f apart fresh handsOn again W args v W' := by
  have hlt : ∀ p ∈ before, p.block < W.heap.size := fun p hp => hW.lt p hp
  have key : ∀ sp : Nat → Bool, (∀ p ∈ before, sp p.block = true) → DataW.TrodAll enc P W' 0 sp true f.params.toList args.toList (s.fn H (ds ++ gs)).args before := fun sp hsp => by
    rw [hargs]; exact all_below hl hb hts hlt hsp hA
  refine ⟨ds, gs, before, [], before, [], hW, hres _ _ _, key _ (fun p hp => by simpa using hlt p hp), hvars _, World.keptBut_mono (fun p hp => ⟨hp, by simpa using hp⟩) (hb.frame (· ∈ before)), fun _ => ?_⟩
  obtain ⟨_, _, _, _, _, hz, hn⟩ := hW
  refine ⟨hok, _, _, [] ++ before ++ [], ⟨[] ++ before, [], trodAll_append (key _ (fun _ _ => rfl)) (hres _ _ _), hvars _, rfl, fun b off hp => ?_, fun ha => by simpa using hn ha⟩, fun p hp _ => by simpa using hp⟩
  have hin : MemPlace.cell b off ∈ before := by simpa using hp
  rw [hb.frozen (hlt _ hin)]
  exact hz b off hin

set_option maxRecDepth 100000 in
theorem lifted (os : Os) (started : os.Started) (H : Type) (enc : TypeId × Value → H) :
    ReturnsInHanded {} Tryz.checked os 7 .any (Rows.frostTrueSpec.pre6 enc Tryz.prog Tryz.f7 Rows.frostTrueRow.domain false) (Rows.frostTrueSpec.post enc Tryz.prog Tryz.f7 false true false false) := by
  refine returnsInHanded_of_change (C := Tryz.checked) own started (by kernel_rfl) Tryz.func7
    (ChangeSpec.witness6 (enc := enc) (C := Tryz.checked) false ⟨#[], #[.agg #[.int .i64 0, .int .i64 0, .int .i64 0, .slice none 0 0, .slice none 0 0], .int .i16 0, .slice none 0 0, .agg #[.int .i64 0, .int .i64 0, .int .i64 0]], []⟩ 8 (by kernel_rfl) (by kernel_rfl) (by kernel_rfl) (by kernel_rfl)) ?_
  intro W base args ds gs before hval0 hW hcnd _
  have hW' := hW
  obtain ⟨p, q, hA0, hV, rfl, hfz, hnd⟩ := hW
  obtain ⟨rfl, rfl⟩ := trodVars_none hV
  have hA : DataW.TrodAll enc Tryz.prog W 0 (fun _ => true) true [(25 : Nat), (54 : Nat), (55 : Nat), (57 : Nat)] args.toList ds p := by
    have := hA0
    rw [Tryz.params7] at this
    exact this
  obtain ⟨v1, vs1, d1, ds1, p1, q1, e1, rfl, rfl, h1, hA⟩ := trodAll_cons hA
  obtain ⟨v2, vs2, d2, ds2, p2, q2, rfl, rfl, rfl, h2, hA⟩ := trodAll_cons hA
  obtain ⟨v3, vs3, d3, ds3, p3, q3, rfl, rfl, rfl, h3, hA⟩ := trodAll_cons hA
  obtain ⟨v4, vs4, d4, ds4, p4, q4, rfl, rfl, rfl, h4, hA⟩ := trodAll_cons hA
  obtain ⟨rfl, rfl, rfl⟩ := trodAll_nil hA
  obtain rfl : args = #[v1, v2, v3, v4] := by
    rw [← Array.toList_inj]; exact e1
  have o1 : Value.okWide Tryz.prog W .any base (25 : Nat) v1 := hval0 0 25 v1 (by rw [Tryz.params7]; rfl) rfl
  have o2 : Value.okWide Tryz.prog W .any base (54 : Nat) v2 := hval0 1 54 v2 (by rw [Tryz.params7]; rfl) rfl
  have o3 : Value.okWide Tryz.prog W .any base (55 : Nat) v3 := hval0 2 55 v3 (by rw [Tryz.params7]; rfl) rfl
  have o4 : Value.okWide Tryz.prog W .any base (57 : Nat) v4 := hval0 3 57 v4 (by rw [Tryz.params7]; rfl) rfl
  obtain ⟨a, b, c, s1, s2, ss, rs, x1, x2, rfl, g1, g2⟩ := open_c o1 h1
  obtain ⟨y2, rfl, _, _, w2⟩ := open_int Tryz.underlying54 o2 h2
  obtain ⟨us, x3, g3, hu2, hus⟩ := open_u o3 h3
  obtain ⟨x, rfl⟩ := open_r o4
  have hf : -32768 ≤ y2 ∧ y2 ≤ 32767 := by
    simp [Lit.wf, IntKind.min, IntKind.max, IntKind.signed, IntKind.bits] at w2
    omega
  refine (call (a := a) (b := b) (c := c) (f := y2) (x := x) g1 g2 g3 hf hus hu2).mono fun e W' ⟨he, hb⟩ => ?_
  subst he
  refine ⟨_, rfl, post_args laid (by rw [Tryz.params7]; kernel_rfl) hW' (by simpa using hA0) (fun _ _ _ => trodAll_mk1 (shut_bool Tryz.underlying4 _)) rfl (fun _ => rfl) hb (ok_one (by kernel_rfl) rfl (okWide_bool_mk Tryz.underlying4 _))⟩

theorem holds : Rows.FrostTrueSaid :=
  OpenClaim.holds_of_wide 7 Tryz.f7 rfl rfl rfl rfl rfl rfl rfl ⟨rfl, rfl, rfl, rfl, rfl⟩ rfl rfl rfl rfl rfl (by kernel_rfl) Tryz.func7 (by kernel_rfl)
    (of_decide_eq_true (by kernel_rfl)) (by unfold Func.isWrapper; first | (rw [if_pos (by decide +kernel)]; kernel_rfl) | (rw [if_neg (by decide +kernel)]; exact ⟨rfl, rfl⟩))
    (fun os started H enc _ => lifted os started H enc)
end Go.Proofs.YtjgpbiobacjobaaGreat.frostTrue

/-
  Proved here: whatever the input, the law LateFreshens returns true and leaves what it was given as it was. Conditions: none beyond the row's own.
  The call is worked out for all inputs (the texts Ax .. AxW10, AxO, AxD, AxE, B1, B2, AxR .. AxR8, M1, K1 .. K36, G, G2: 'Go.Ax.law_freshens'), alive by the evaluator of closed calls.
-/
import Derived.Test.YtpdoogfafjjdkaaRows
import Derived.Test.YtpdoogfafjjdkaaAlive
import Derived.Test.YtpdoogfafjjdkaaMd
import Derived.ProofKit
import Derived.Below
import Derived.Carry
import Derived.ChangeSame
set_option linter.all false
namespace Go.Proofs.Ytpdoogfafjjdkaa.lateFreshens
open Go.Proofs.Ytpdoogfafjjdkaa
open Go.ChangeShapes Go.WideShapes Go.ChangeAt Go.RowKit Go.Ax

theorem own : ownKnob Try.prog.godebug = none := by kernel_rfl
theorem laid : laidOutB Try.prog = true := by kernel_rfl

theorem okWide_cell {P : Program} {w : World} {r : Reach} {b : Nat} {t e : TypeId} {v : Value} (ht : P.underlying t = some (.slice e)) (h : Value.okWide P w r b t v) : Cell.okWide P w r b t v := by
  unfold Value.okWide at h; rw [ht] at h; exact h
theorem okWide_row {P : Program} {w : World} {r : Reach} {b : Nat} {t : TypeId} {v : Value} {fs : Array Field} {us : List TypeId} (ht : P.underlying t = some (.struct fs)) (hc : P.cellTypes P.depth t = some us) (h : Value.okWide P w r b t v) :
    ∃ cs, v = .agg cs ∧ cs.size = P.cellsOf t ∧ ∀ i u, cs[i]? = some u → ∃ a, us[i % us.length]? = some a ∧ Cell.okWide P w r b a u := by
  unfold Value.okWide at h; rw [ht] at h
  obtain ⟨cs, e, hsz, ts, hts, _, hall⟩ := h
  rw [hc] at hts
  cases hts
  exact ⟨cs, e, hsz, hall⟩

theorem okWide_cint {P : Program} {w : World} {r : Reach} {b : Nat} {t : TypeId} {k : IntKind} {v : Value} (ht : P.underlying t = some (.int k)) (h : Cell.okWide P w r b t v) : ∃ n, v = .int k n :=
  Go.WideShapes.okWide_int (base := b) ht (by unfold Value.okWide; rw [ht]; exact h)
theorem i3 : IntT Try.prog 3 := .int Try.underlying3 (by kernel_rfl)
theorem i24 : IntT Try.prog 24 := .struct Try.underlying24 (by intro f hf; simp at hf; rcases hf with rfl | rfl <;> exact i3) (by kernel_rfl)
theorem ct26 : Try.prog.cellTypes Try.prog.depth 26 = some [22, 22, 3, 3, 3, 3, 3, 3, 3, 3, 3, 3, 3] := by kernel_rfl
section
variable {H : Type} {enc : TypeId × Value → H} {w : World} {base : Nat} {v : Value} {d : DataW H} {p : List MemPlace}
set_option maxRecDepth 100000 in
theorem open_l (hv : Value.okWide Try.prog w .any base (26 : Nat) v) (h : DataW.Trod enc Try.prog w 0 (fun _ => true) true (26 : Nat) v d p) :
    ∃ (s1 s2 : Value) (r1 r2 f1 f2 g1 g2 full bas kill need bear : Int) (ws ads : List (Int × Int)) (x1 x2 : Imp), v = .agg #[s1, s2, iv r1, iv r2, iv f1, iv f2, iv g1, iv g2, iv full, iv bas, iv kill, iv need, iv bear] ∧ Given w s1 (fun s : Int × Int => [iv s.1, iv s.2]) ws x1 ∧ Given w s2 (fun s : Int × Int => [iv s.1, iv s.2]) ads x2 := by
  obtain ⟨fuel, h⟩ := h
  obtain ⟨cs, rfl, hsz, hall⟩ := okWide_row Try.underlying26 ct26 hv
  have h2 : cs.size = 13 := hsz.trans (by kernel_rfl)
  obtain ⟨l⟩ := cs
  match l, h2 with
  | [s1, s2, s3, s4, s5, s6, s7, s8, s9, s10, s11, s12, s13], _ =>
    obtain ⟨u1, hu1, o1⟩ := hall 0 s1 rfl
    obtain ⟨u2, hu2, o2⟩ := hall 1 s2 rfl
    obtain ⟨u3, hu3, o3⟩ := hall 2 s3 rfl
    obtain ⟨u4, hu4, o4⟩ := hall 3 s4 rfl
    obtain ⟨u5, hu5, o5⟩ := hall 4 s5 rfl
    obtain ⟨u6, hu6, o6⟩ := hall 5 s6 rfl
    obtain ⟨u7, hu7, o7⟩ := hall 6 s7 rfl
    obtain ⟨u8, hu8, o8⟩ := hall 7 s8 rfl
    obtain ⟨u9, hu9, o9⟩ := hall 8 s9 rfl
    obtain ⟨u10, hu10, o10⟩ := hall 9 s10 rfl
    obtain ⟨u11, hu11, o11⟩ := hall 10 s11 rfl
    obtain ⟨u12, hu12, o12⟩ := hall 11 s12 rfl
    obtain ⟨u13, hu13, o13⟩ := hall 12 s13 rfl
    cases hu1
    cases hu2
    cases hu3
    cases hu4
    cases hu5
    cases hu6
    cases hu7
    cases hu8
    cases hu9
    cases hu10
    cases hu11
    cases hu12
    cases hu13
    obtain ⟨n3, rfl⟩ := okWide_cint Try.underlying3 o3
    obtain ⟨n4, rfl⟩ := okWide_cint Try.underlying3 o4
    obtain ⟨n5, rfl⟩ := okWide_cint Try.underlying3 o5
    obtain ⟨n6, rfl⟩ := okWide_cint Try.underlying3 o6
    obtain ⟨n7, rfl⟩ := okWide_cint Try.underlying3 o7
    obtain ⟨n8, rfl⟩ := okWide_cint Try.underlying3 o8
    obtain ⟨n9, rfl⟩ := okWide_cint Try.underlying3 o9
    obtain ⟨n10, rfl⟩ := okWide_cint Try.underlying3 o10
    obtain ⟨n11, rfl⟩ := okWide_cint Try.underlying3 o11
    obtain ⟨n12, rfl⟩ := okWide_cint Try.underlying3 o12
    obtain ⟨n13, rfl⟩ := okWide_cint Try.underlying3 o13
    obtain ⟨xs, n, _, _, _, hxl, hg⟩ := DataW.trod_struct Try.underlying26 h
    match xs, hxl with
    | [y1, y2, y3, y4, y5, y6, y7, y8, y9, y10], _ =>
      have g1 : DataW.trod enc Try.prog w 0 (fun _ => true) true n (22 : Nat) [s1] = some y1 := by
        have q := hg 0 ⟨"Warm", 22, 0, false, "", "", 0⟩ rfl
        have c : Try.prog.cellsOf (22 : Nat) = 1 := by kernel_rfl
        simp only [c] at q
        exact q
      have g2 : DataW.trod enc Try.prog w 0 (fun _ => true) true n (22 : Nat) [s2] = some y2 := by
        have q := hg 1 ⟨"Air", 22, 1, false, "", "", 24⟩ rfl
        have c : Try.prog.cellsOf (22 : Nat) = 1 := by kernel_rfl
        simp only [c] at q
        exact q
      obtain ⟨ws, x1, q1⟩ := slice_given (fun s : Int × Int => [iv s.1, iv s.2]) (fun N => (N 0, N 1)) 2 Try.underlying22 i24 (by kernel_rfl) (by decide) (fun _ => rfl) o1 g1
      obtain ⟨ads, x2, q2⟩ := slice_given (fun s : Int × Int => [iv s.1, iv s.2]) (fun N => (N 0, N 1)) 2 Try.underlying22 i24 (by kernel_rfl) (by decide) (fun _ => rfl) o2 g2
      exact ⟨s1, s2, n3, n4, n5, n6, n7, n8, n9, n10, n11, n12, n13, ws, ads, x1, x2, rfl, q1, q2⟩
end
theorem rel0 {α : Type} {w : World} {v : Value} {f : α → List Value} {l : List α} {x : Imp} (g : Given w v f l x) {r : Ren} {H : Hp} {b : Nat} (hr : r b = some ⟨x.blk, x.off, none⟩) (hb : b < H.next) (hc : cellsOf H b = some x.cs) :
    ∃ a cap, VR r (.slice a l.length cap) v ∧ Sl H a l.length cap (l.flatMap f) := by
  rcases g.v with ⟨rfl, rfl⟩ | ⟨cap, rfl, hl⟩
  · exact ⟨none, 0, .nilSlice, .inl ⟨.inl rfl, rfl, rfl, rfl⟩⟩
  · refine ⟨some ⟨b, 0, none⟩, cap, ?_, .inr ⟨b, rfl, ⟨hb, by rw [hc, g.cs]⟩, hl⟩⟩
    have := VR.slice (o := 0) (n := l.length) (c := cap) hr rfl hl
    simpa using this
theorem call {w : World} {r1 r2 f1 f2 g1 g2 full bas kill need bear : Int} {s1 s2 : Value} {ws ads : List (Int × Int)} {x1 x2 : Imp} (q1 : Given w s1 (fun s : Int × Int => [iv s.1, iv s.2]) ws x1) (q2 : Given w s2 (fun s : Int × Int => [iv s.1, iv s.2]) ads x2) {y2 : Int} {y3 : Int} :
    Calls Try.prog 5 #[.agg #[s1, s2, iv r1, iv r2, iv f1, iv f2, iv g1, iv g2, iv full, iv bas, iv kill, iv need, iv bear], iv y2, iv y3] w fun e w' => e = .returned (.bool true) ∧ Below w.heap.size w w' := by
  obtain ⟨r, H, hrel, hn, hr, himp⟩ := imports (P := Try.prog) [x1, x2] w (by
    intro x hx i u hu
    simp at hx
    rcases hx with rfl | rfl
    · exact q1.ok i u hu
    · exact q2.ok i u hu)
  have hn : H.next = 2 := hn
  obtain ⟨a1, c1, rv1, l1⟩ := rel0 q1 (himp 0 x1 rfl).1 (by omega) (himp 0 x1 rfl).2
  obtain ⟨a2, c2, rv2, l2⟩ := rel0 q2 (himp 1 x2 rfl).1 (by omega) (himp 1 x2 rfl).2
  obtain ⟨H', hf⟩ := law_freshens (kn := fun f => bif Nat.beq f 14 then some true else none) (lo := H.next) (H := H) (g := ⟨a1, ws.length, c1, ws, a2, ads.length, c2, ads, r1, r2, f1, f2, g1, g2, full, bas, kill, need, bear⟩) (a := y2) (b := y3) rfl rfl l1 l2 rfl rfl (Nat.le_refl _)
  refine open_call alive.mixed alive.noCount alive.known hrel hr ?_ hf
  exact (.cons (.agg rfl fun i u u' e e' => by
    match i with
    | 0 => cases e; cases e'; exact rv1
    | 1 => cases e; cases e'; exact rv2
    | 2 => cases e; cases e'; exact .int _ _
    | 3 => cases e; cases e'; exact .int _ _
    | 4 => cases e; cases e'; exact .int _ _
    | 5 => cases e; cases e'; exact .int _ _
    | 6 => cases e; cases e'; exact .int _ _
    | 7 => cases e; cases e'; exact .int _ _
    | 8 => cases e; cases e'; exact .int _ _
    | 9 => cases e; cases e'; exact .int _ _
    | 10 => cases e; cases e'; exact .int _ _
    | 11 => cases e; cases e'; exact .int _ _
    | 12 => cases e; cases e'; exact .int _ _
    | _ + 13 => cases e) (.cons (.int _ _) (.cons (.int _ _) .nil)))
theorem all_below {H : Type} {enc : TypeId × Value → H} {P : Program} (hl : laidOutB P = true) {W W' : World} (hb : Below W.heap.size W W') {sp : Nat → Bool} : ∀ {ts : List TypeId} {vs : List Value} {ds : List (DataW H)} {ps : List MemPlace},
    (ts.all fun t => P.readableRec t && decide (t < P.types.size)) = true → (∀ x ∈ ps, x.block < W.heap.size) → (∀ x ∈ ps, sp x.block = true) → DataW.TrodAll enc P W 0 (fun _ => true) true ts vs ds ps → DataW.TrodAll enc P W' 0 sp true ts vs ds ps
  | [], _, _, _, _, _, _, h => by
    obtain ⟨rfl, rfl, rfl⟩ := trodAll_nil h
    exact rfl
  | t :: ts, _, _, _, ht, hlt, hsp, h => by
    obtain ⟨v, vs1, d, ds1, a, b, rfl, rfl, rfl, h1, h2⟩ := trodAll_cons h
    simp only [List.all_cons, Bool.and_eq_true, decide_eq_true_eq] at ht
    exact ⟨a, b, WideElems.Trod_stays hl ht.1.1 ht.1.2 h1 (fun x hx => hb.same (hlt x (List.mem_append.2 (.inl hx)))) (fun x hx => hsp x (List.mem_append.2 (.inl hx))),
      all_below hl hb ht.2 (fun x hx => hlt x (List.mem_append.2 (.inr hx))) (fun x hx => hsp x (List.mem_append.2 (.inr hx))) h2, rfl⟩

/-- The last step of a row without variables, where the call leaves what lay below as it was and makes a plain value. -/
theorem post_args {H : Type} {enc : TypeId × Value → H} {P : Program} {f : Func} {s : ChangeSpec} {apart fresh handsOn again : Bool} {W W' : World} {args : Array Value} {v : Value} {ds gs : List (DataW H)} {before : List MemPlace}
    (hl : laidOutB P = true) (hts : (f.params.toList.all fun t => P.readableRec t && decide (t < P.types.size)) = true)
    (hW : DataW.Whole enc P f.params.toList s.vars apart W args.toList ds gs before) (hA : DataW.TrodAll enc P W 0 (fun _ => true) true f.params.toList args.toList ds before)
    (hres : ∀ (b : Nat) (sp : Nat → Bool) (hd : Bool), DataW.TrodAll enc P W' b sp hd f.resultTypes.toList (v.resultList f.resultTypes.size) (s.fn H (ds ++ gs)).results [])
    (hargs : (s.fn H (ds ++ gs)).args = ds) (hvars : ∀ sp : Nat → Bool, DataW.TrodVars enc P W' sp s.vars (s.fn H (ds ++ gs)).vars [])
    (hb : Below W.heap.size W W')
    (hok : ∀ (j : Nat) (t : TypeId) (r : Value), f.resultTypes[j]? = some t → (v.resultList f.resultTypes.size)[j]? = some r → Value.okWide P W' .any 0 t r) :
    s.post enc P f apart fresh handsOn again W args v W' := by
  have hlt : ∀ p ∈ before, p.block < W.heap.size := fun p hp => hW.lt p hp
  have key : ∀ sp : Nat → Bool, (∀ p ∈ before, sp p.block = true) → DataW.TrodAll enc P W' 0 sp true f.params.toList args.toList (s.fn H (ds ++ gs)).args before := fun sp hsp => by
    rw [hargs]; exact all_below hl hb hts hlt hsp hA
  refine ⟨ds, gs, before, [], before, [], hW, hres _ _ _, key _ (fun p hp => by simpa using hlt p hp), hvars _, World.keptBut_mono (fun p hp => ⟨hp, by simpa using hp⟩) (hb.frame (· ∈ before)), fun _ => ?_⟩
  obtain ⟨_, _, _, _, _, hz, hn⟩ := hW
  refine ⟨hok, _, _, [] ++ before ++ [], ⟨[] ++ before, [], trodAll_append (key _ (fun _ _ => rfl)) (hres _ _ _), hvars _, rfl, fun b off hp => ?_, fun ha => by simpa using hn ha⟩, fun p hp _ => by simpa using hp⟩
  have hin : MemPlace.cell b off ∈ before := by simpa using hp
  rw [hb.frozen (hlt _ hin)]
  exact hz b off hin

set_option maxRecDepth 100000 in
theorem lifted (os : Os) (started : os.Started) (H : Type) (enc : TypeId × Value → H) :
    ReturnsInHanded {} Try.checked os 5 .any (Rows.lateFreshensSpec.pre6 enc Try.prog Try.f5 Rows.lateFreshensRow.domain false) (Rows.lateFreshensSpec.post enc Try.prog Try.f5 false true false false) := by
  refine returnsInHanded_of_change (C := Try.checked) own started (by kernel_rfl) Try.func5
    (ChangeSpec.witness6 (enc := enc) (C := Try.checked) false ⟨#[], #[.agg #[.slice none 0 0, .slice none 0 0, .int .i64 0, .int .i64 0, .int .i64 0, .int .i64 0, .int .i64 0, .int .i64 0, .int .i64 0, .int .i64 0, .int .i64 0, .int .i64 0, .int .i64 0], .int .i64 0, .int .i64 0], []⟩ 8 (by kernel_rfl) (by kernel_rfl) (by kernel_rfl) (by kernel_rfl)) ?_
  intro W base args ds gs before hval0 hW hcnd _
  have hW' := hW
  obtain ⟨p, q, hA0, hV, rfl, hfz, hnd⟩ := hW
  obtain ⟨rfl, rfl⟩ := trodVars_none hV
  have hA : DataW.TrodAll enc Try.prog W 0 (fun _ => true) true [(26 : Nat), (3 : Nat), (3 : Nat)] args.toList ds p := by
    have := hA0
    rw [Try.params5] at this
    exact this
  obtain ⟨v1, vs1, d1, ds1, p1, pq1, e1, rfl, rfl, h1, hA⟩ := trodAll_cons hA
  obtain ⟨v2, vs2, d2, ds2, p2, pq2, rfl, rfl, rfl, h2, hA⟩ := trodAll_cons hA
  obtain ⟨v3, vs3, d3, ds3, p3, pq3, rfl, rfl, rfl, h3, hA⟩ := trodAll_cons hA
  obtain ⟨rfl, rfl, rfl⟩ := trodAll_nil hA
  obtain rfl : args = #[v1, v2, v3] := by
    rw [← Array.toList_inj]; exact e1
  have o1 : Value.okWide Try.prog W .any base (26 : Nat) v1 := hval0 0 26 v1 (by rw [Try.params5]; rfl) rfl
  have o2 : Value.okWide Try.prog W .any base (3 : Nat) v2 := hval0 1 3 v2 (by rw [Try.params5]; rfl) rfl
  have o3 : Value.okWide Try.prog W .any base (3 : Nat) v3 := hval0 2 3 v3 (by rw [Try.params5]; rfl) rfl
  obtain ⟨s1, s2, r1, r2, f1, f2, g1, g2, full, bas, kill, need, bear, ws, ads, x1, x2, rfl, q1, q2⟩ := open_l o1 h1
  obtain ⟨y2, rfl, _, _, _⟩ := open_int Try.underlying3 o2 h2
  obtain ⟨y3, rfl, _, _, _⟩ := open_int Try.underlying3 o3 h3
  refine (call (y2 := y2) (y3 := y3) q1 q2).mono fun e W' ⟨he, hb⟩ => ?_
  subst he
  refine ⟨_, rfl, post_args laid (by rw [Try.params5]; kernel_rfl) hW' (by simpa using hA0) (fun _ _ _ => trodAll_mk1 (shut_bool Try.underlying4 _)) rfl (fun _ => rfl) hb (ok_one (by kernel_rfl) rfl (okWide_bool_mk Try.underlying4 _))⟩

theorem holds : Rows.LateFreshensSaid :=
  OpenClaim.holds_of_wide 5 Try.f5 rfl rfl rfl rfl rfl rfl rfl ⟨rfl, rfl, rfl, rfl, rfl⟩ rfl rfl rfl rfl rfl (by kernel_rfl) Try.func5 (by kernel_rfl)
    (of_decide_eq_true (by kernel_rfl)) (by unfold Func.isWrapper; first | (rw [if_pos (by decide +kernel)]; kernel_rfl) | (rw [if_neg (by decide +kernel)]; exact ⟨rfl, rfl⟩))
    (fun os started H enc _ => lifted os started H enc)
end Go.Proofs.Ytpdoogfafjjdkaa.lateFreshens

/-
  Proved here: whatever the input, the law ChainPasses returns true and leaves what it was given as it was. Conditions: none beyond the row's own.
  The call is worked out for all inputs (the texts Ax .. AxO, X1 .. X88: 'Go.Ax.passes_ok'), alive by the evaluator of closed calls.
-/
import Derived.Test.YtfdapdcfnognfaaRows
import Derived.Test.YtfdapdcfnognfaaAlive
import Derived.Test.YtfdapdcfnognfaaXs
import Derived.ProofKit
import Derived.Below
import Derived.Carry
import Derived.ChangeSame
set_option linter.all false
namespace Go.Proofs.Ytfdapdcfnognfaa.chainPasses
open Go.ChangeShapes Go.WideShapes Go.ChangeAt Go.RowKit Go.Ax

theorem own : ownKnob Try.prog.godebug = none := by kernel_rfl
theorem laid : laidOutB Try.prog = true := by kernel_rfl
theorem i3 : IntT Try.prog 3 := .int Try.underlying3 (by kernel_rfl)
theorem i35 : IntT Try.prog 35 := .struct Try.underlying35 (by intro f hf; simp at hf; rcases hf with rfl | rfl <;> exact i3) (by kernel_rfl)
theorem i60 : IntT Try.prog 60 := .struct Try.underlying60 (by intro f hf; simp at hf; rcases hf with rfl | rfl <;> exact i3) (by kernel_rfl)
theorem i86 : IntT Try.prog 86 := .struct Try.underlying86 (by intro f hf; simp at hf; rcases hf with rfl | rfl <;> exact i3) (by kernel_rfl)
theorem i71 : IntT Try.prog 71 := .struct Try.underlying71 (by intro f hf; simp at hf; rcases hf with rfl | rfl | rfl; exact i3; exact i35; exact i3) (by kernel_rfl)
theorem i81 : IntT Try.prog 81 := .struct Try.underlying81 (by intro f hf; simp at hf; rcases hf with rfl | rfl | rfl | rfl | rfl | rfl <;> exact i3) (by kernel_rfl)
theorem ct25 : Try.prog.cellTypes Try.prog.depth 25 = some [22, 23] := by kernel_rfl
theorem ct30 : Try.prog.cellTypes Try.prog.depth 30 = some [27, 26, 28] := by kernel_rfl

theorem okWide_cell {P : Program} {w : World} {r : Reach} {b : Nat} {t e : TypeId} {v : Value} (ht : P.underlying t = some (.slice e)) (h : Value.okWide P w r b t v) : Cell.okWide P w r b t v := by
  unfold Value.okWide at h; rw [ht] at h; exact h
theorem okWide_row {P : Program} {w : World} {r : Reach} {b : Nat} {t : TypeId} {v : Value} {fs : Array Field} {us : List TypeId} (ht : P.underlying t = some (.struct fs)) (hc : P.cellTypes P.depth t = some us) (h : Value.okWide P w r b t v) :
    ∃ cs, v = .agg cs ∧ cs.size = P.cellsOf t ∧ ∀ i u, cs[i]? = some u → ∃ a, us[i % us.length]? = some a ∧ Cell.okWide P w r b a u := by
  unfold Value.okWide at h; rw [ht] at h
  obtain ⟨cs, e, hsz, ts, hts, _, hall⟩ := h
  rw [hc] at hts
  cases hts
  exact ⟨cs, e, hsz, hall⟩
section
variable {H : Type} {enc : TypeId × Value → H} {w : World} {base : Nat} {v : Value} {d : DataW H} {p : List MemPlace}
set_option maxRecDepth 100000 in
theorem open_w (hv : Value.okWide Try.prog w .any base (26 : Nat) v) (h : DataW.Trod enc Try.prog w 0 (fun _ => true) true (26 : Nat) v d p) : ∃ (ss : List (Int × Int)) (x : Imp), Given w v (fun s : Int × Int => [iv s.1, iv s.2]) ss x := by
  obtain ⟨fuel, h⟩ := h
  have hc : Cell.okWide Try.prog w .any base (26 : Nat) v := okWide_cell Try.underlying26 hv
  obtain ⟨a, len, cap, rfl⟩ := okWide_slice Try.underlying26 hv
  exact slice_given (fun s : Int × Int => [iv s.1, iv s.2]) (fun N => (N 0, N 1)) 2 Try.underlying26 i35 (by kernel_rfl) (by decide) (fun _ => rfl) hc h
set_option maxRecDepth 100000 in
theorem open_c (hv : Value.okWide Try.prog w .any base (25 : Nat) v) (h : DataW.Trod enc Try.prog w 0 (fun _ => true) true (25 : Nat) v d p) :
    ∃ (s1 s2 : Value) (ps : List Pd) (gs : List Gt) (x1 x2 : Imp), v = .agg #[s1, s2] ∧ Given w s1 Pd.v ps x1 ∧ Given w s2 Gt.v gs x2 := by
  obtain ⟨fuel, h⟩ := h
  obtain ⟨cs, rfl, hsz, hall⟩ := okWide_row Try.underlying25 ct25 hv
  have h2 : cs.size = 2 := hsz.trans (by kernel_rfl)
  obtain ⟨l⟩ := cs
  match l, h2 with
  | [s1, s2], _ =>
    obtain ⟨u1, hu1, o1⟩ := hall 0 s1 rfl
    obtain ⟨u2, hu2, o2⟩ := hall 1 s2 rfl
    cases hu1
    cases hu2
    obtain ⟨xs, n, _, _, _, hxl, hg⟩ := DataW.trod_struct Try.underlying25 h
    match xs, hxl with
    | [y1, y2], _ =>
      have g1 : DataW.trod enc Try.prog w 0 (fun _ => true) true n (22 : Nat) [s1] = some y1 := by
        have q := hg 0 ⟨"Ponds", 22, 0, false, "", "", 0⟩ rfl
        have c : Try.prog.cellsOf (22 : Nat) = 1 := by kernel_rfl
        simp only [c] at q
        exact q
      have g2 : DataW.trod enc Try.prog w 0 (fun _ => true) true n (23 : Nat) [s2] = some y2 := by
        have q := hg 1 ⟨"Gates", 23, 1, false, "", "", 24⟩ rfl
        have c : Try.prog.cellsOf (23 : Nat) = 1 := by kernel_rfl
        simp only [c] at q
        exact q
      obtain ⟨ps, x1, q1⟩ := slice_given Pd.v (fun N => ⟨N 0, N 1, N 2, N 3⟩) 4 Try.underlying22 i71 (by kernel_rfl) (by decide) (fun _ => rfl) o1 g1
      obtain ⟨gs, x2, q2⟩ := slice_given Gt.v (fun N => ⟨N 0, N 1, N 2, N 3, N 4, N 5⟩) 6 Try.underlying23 i81 (by kernel_rfl) (by decide) (fun _ => rfl) o2 g2
      exact ⟨s1, s2, ps, gs, x1, x2, rfl, q1, q2⟩
set_option maxRecDepth 100000 in
theorem open_h (hv : Value.okWide Try.prog w .any base (30 : Nat) v) (h : DataW.Trod enc Try.prog w 0 (fun _ => true) true (30 : Nat) v d p) :
    ∃ (s1 s2 s3 : Value) (bs : List Bd) (cs : List (Int × Int)) (ts : List Tk) (x1 x2 x3 : Imp), v = .agg #[s1, s2, s3] ∧ Given w s1 Bd.v bs x1 ∧ Given w s2 (fun s : Int × Int => [iv s.1, iv s.2]) cs x2 ∧ Given w s3 Tk.v ts x3 := by
  obtain ⟨fuel, h⟩ := h
  obtain ⟨cs, rfl, hsz, hall⟩ := okWide_row Try.underlying30 ct30 hv
  have h2 : cs.size = 3 := hsz.trans (by kernel_rfl)
  obtain ⟨l⟩ := cs
  match l, h2 with
  | [s1, s2, s3], _ =>
    obtain ⟨u1, hu1, o1⟩ := hall 0 s1 rfl
    obtain ⟨u2, hu2, o2⟩ := hall 1 s2 rfl
    obtain ⟨u3, hu3, o3⟩ := hall 2 s3 rfl
    cases hu1
    cases hu2
    cases hu3
    obtain ⟨xs, n, _, _, _, hxl, hg⟩ := DataW.trod_struct Try.underlying30 h
    match xs, hxl with
    | [y1, y2, y3], _ =>
      have g1 : DataW.trod enc Try.prog w 0 (fun _ => true) true n (27 : Nat) [s1] = some y1 := by
        have q := hg 0 ⟨"Boards", 27, 0, false, "", "", 0⟩ rfl
        have c : Try.prog.cellsOf (27 : Nat) = 1 := by kernel_rfl
        simp only [c] at q
        exact q
      have g2 : DataW.trod enc Try.prog w 0 (fun _ => true) true n (26 : Nat) [s2] = some y2 := by
        have q := hg 1 ⟨"Comes", 26, 1, false, "", "", 24⟩ rfl
        have c : Try.prog.cellsOf (26 : Nat) = 1 := by kernel_rfl
        simp only [c] at q
        exact q
      have g3 : DataW.trod enc Try.prog w 0 (fun _ => true) true n (28 : Nat) [s3] = some y3 := by
        have q := hg 2 ⟨"Takes", 28, 2, false, "", "", 48⟩ rfl
        have c : Try.prog.cellsOf (28 : Nat) = 1 := by kernel_rfl
        simp only [c] at q
        exact q
      obtain ⟨bs, x1, q1⟩ := slice_given Bd.v (fun N => ⟨N 0, N 1⟩) 2 Try.underlying27 i60 (by kernel_rfl) (by decide) (fun _ => rfl) o1 g1
      obtain ⟨cs, x2, q2⟩ := slice_given (fun s : Int × Int => [iv s.1, iv s.2]) (fun N => (N 0, N 1)) 2 Try.underlying26 i35 (by kernel_rfl) (by decide) (fun _ => rfl) o2 g2
      obtain ⟨tt, x3, q3⟩ := slice_given Tk.v (fun N => ⟨N 0, N 1⟩) 2 Try.underlying28 i86 (by kernel_rfl) (by decide) (fun _ => rfl) o3 g3
      exact ⟨s1, s2, s3, bs, cs, tt, x1, x2, x3, rfl, q1, q2, q3⟩
end

theorem call {w : World} {s1 s2 s3 s4 s5 s6 : Value} {ps : List Pd} {gs : List Gt} {ss cs : List (Int × Int)} {bs : List Bd} {ts : List Tk} {x1 x2 x3 x4 x5 x6 : Imp} (g1 : Given w s1 Pd.v ps x1) (g2 : Given w s2 Gt.v gs x2) (g3 : Given w s3 (fun s : Int × Int => [iv s.1, iv s.2]) ss x3)
    (g4 : Given w s4 Bd.v bs x4) (g5 : Given w s5 (fun s : Int × Int => [iv s.1, iv s.2]) cs x5) (g6 : Given w s6 Tk.v ts x6) :
    Calls Try.prog 3 #[.agg #[s1, s2], s3, .agg #[s4, s5, s6]] w fun e w' => e = .returned (.bool true) ∧ Below w.heap.size w w' := by
  obtain ⟨r, H, hrel, hn, hr, himp⟩ := imports (P := Try.prog) [x1, x2, x3, x4, x5, x6] w (by
    intro x hx i u hu
    simp at hx
    rcases hx with rfl | rfl | rfl | rfl | rfl | rfl
    · exact g1.ok i u hu
    · exact g2.ok i u hu
    · exact g3.ok i u hu
    · exact g4.ok i u hu
    · exact g5.ok i u hu
    · exact g6.ok i u hu)
  have hn : H.next = 6 := hn
  obtain ⟨a1, c1, r1, l1⟩ := g1.rel (himp 0 x1 rfl).1 (by omega) (himp 0 x1 rfl).2
  obtain ⟨a2, c2, r2, l2⟩ := g2.rel (himp 1 x2 rfl).1 (by omega) (himp 1 x2 rfl).2
  obtain ⟨a3, c3, r3, l3⟩ := g3.rel (himp 2 x3 rfl).1 (by omega) (himp 2 x3 rfl).2
  obtain ⟨a4, c4, r4, l4⟩ := g4.rel (himp 3 x4 rfl).1 (by omega) (himp 3 x4 rfl).2
  obtain ⟨a5, c5, r5, l5⟩ := g5.rel (himp 4 x5 rfl).1 (by omega) (himp 4 x5 rfl).2
  obtain ⟨a6, c6, r6, l6⟩ := g6.rel (himp 5 x6 rfl).1 (by omega) (himp 5 x6 rfl).2
  let c : Ch := ⟨a1, ps.length, c1, a2, gs.length, c2, a3, ss.length, c3, ps, gs, ss⟩
  let h : Hr := ⟨a4, bs.length, c4, a5, cs.length, c5, a6, ts.length, c6, bs, cs, ts⟩
  have hc : c.At H := ⟨l1, l2, l3, rfl, rfl, rfl⟩
  have hh : h.At H := ⟨l4, l5, l6, rfl, rfl, rfl⟩
  obtain ⟨H', hf⟩ := passes_ok (kn := fun f => bif Nat.beq f 15 then some true else none) (lo := H.next) (c := c) (h := h) rfl hc hh (Nat.le_refl _)
  refine open_call alive.mixed alive.noCount alive.known hrel hr ?_ hf
  have two : ∀ {a b a' b' : Value}, VR r a a' → VR r b b' → VR r (.agg #[a, b]) (.agg #[a', b']) := fun h1 h2 => .agg rfl fun i u u' e e' => by
    match i with
    | 0 => cases e; cases e'; exact h1
    | 1 => cases e; cases e'; exact h2
    | _ + 2 => cases e
  have three : ∀ {a b d a' b' d' : Value}, VR r a a' → VR r b b' → VR r d d' → VR r (.agg #[a, b, d]) (.agg #[a', b', d']) := fun h1 h2 h3 => .agg rfl fun i u u' e e' => by
    match i with
    | 0 => cases e; cases e'; exact h1
    | 1 => cases e; cases e'; exact h2
    | 2 => cases e; cases e'; exact h3
    | _ + 3 => cases e
  exact .cons (two r1 r2) (.cons r3 (.cons (three r4 r5 r6) .nil))
theorem all_below {H : Type} {enc : TypeId × Value → H} {P : Program} (hl : laidOutB P = true) {W W' : World} (hb : Below W.heap.size W W') {sp : Nat → Bool} : ∀ {ts : List TypeId} {vs : List Value} {ds : List (DataW H)} {ps : List MemPlace},
    (ts.all fun t => P.readableRec t && decide (t < P.types.size)) = true → (∀ x ∈ ps, x.block < W.heap.size) → (∀ x ∈ ps, sp x.block = true) → DataW.TrodAll enc P W 0 (fun _ => true) true ts vs ds ps → DataW.TrodAll enc P W' 0 sp true ts vs ds ps
  | [], _, _, _, _, _, _, h => by
    obtain ⟨rfl, rfl, rfl⟩ := trodAll_nil h
    exact rfl
  | t :: ts, _, _, _, ht, hlt, hsp, h => by
    obtain ⟨v, vs1, d, ds1, a, b, rfl, rfl, rfl, h1, h2⟩ := trodAll_cons h
    simp only [List.all_cons, Bool.and_eq_true, decide_eq_true_eq] at ht
    exact ⟨a, b, WideElems.Trod_stays hl ht.1.1 ht.1.2 h1 (fun x hx => hb.same (hlt x (List.mem_append.2 (.inl hx)))) (fun x hx => hsp x (List.mem_append.2 (.inl hx))),
      all_below hl hb ht.2 (fun x hx => hlt x (List.mem_append.2 (.inr hx))) (fun x hx => hsp x (List.mem_append.2 (.inr hx))) h2, rfl⟩

/-- The last step of a row without variables, where the call leaves what lay below as it was and makes a plain value. -/
theorem post_args {H : Type} {enc : TypeId × Value → H} {P : Program} {f : Func} {s : ChangeSpec} {apart fresh handsOn again : Bool} {W W' : World} {args : Array Value} {v : Value} {ds gs : List (DataW H)} {before : List MemPlace}
    (hl : laidOutB P = true) (hts : (f.params.toList.all fun t => P.readableRec t && decide (t < P.types.size)) = true)
    (hW : DataW.Whole enc P f.params.toList s.vars apart W args.toList ds gs before) (hA : DataW.TrodAll enc P W 0 (fun _ => true) true f.params.toList args.toList ds before)
    (hres : ∀ (b : Nat) (sp : Nat → Bool) (hd : Bool), DataW.TrodAll enc P W' b sp hd f.resultTypes.toList (v.resultList f.resultTypes.size) (s.fn H (ds ++ gs)).results [])
    (hargs : (s.fn H (ds ++ gs)).args = ds) (hvars : ∀ sp : Nat → Bool, DataW.TrodVars enc P W' sp s.vars (s.fn H (ds ++ gs)).vars [])
    (hb : Below W.heap.size W W')
    (hok : ∀ (j : Nat) (t : TypeId) (r : Value), f.resultTypes[j]? = some t → (v.resultList f.resultTypes.size)[j]? = some r → Value.okWide P W' .any 0 t r) :
    s.post enc P f apart fresh handsOn again W args v W' := by
  have hlt : ∀ p ∈ before, p.block < W.heap.size := fun p hp => hW.lt p hp
  have key : ∀ sp : Nat → Bool, (∀ p ∈ before, sp p.block = true) → DataW.TrodAll enc P W' 0 sp true f.params.toList args.toList (s.fn H (ds ++ gs)).args before := fun sp hsp => by
    rw [hargs]; exact all_below hl hb hts hlt hsp hA
  refine ⟨ds, gs, before, [], before, [], hW, hres _ _ _, key _ (fun p hp => by simpa using hlt p hp), hvars _, World.keptBut_mono (fun p hp => ⟨hp, by simpa using hp⟩) (hb.frame (· ∈ before)), fun _ => ?_⟩
  obtain ⟨_, _, _, _, _, hz, hn⟩ := hW
  refine ⟨hok, _, _, [] ++ before ++ [], ⟨[] ++ before, [], trodAll_append (key _ (fun _ _ => rfl)) (hres _ _ _), hvars _, rfl, fun b off hp => ?_, fun ha => by simpa using hn ha⟩, fun p hp _ => by simpa using hp⟩
  have hin : MemPlace.cell b off ∈ before := by simpa using hp
  rw [hb.frozen (hlt _ hin)]
  exact hz b off hin

set_option maxRecDepth 100000 in
theorem lifted (os : Os) (started : os.Started) (H : Type) (enc : TypeId × Value → H) :
    ReturnsInHanded {} Try.checked os 3 .any (Rows.chainPassesSpec.pre6 enc Try.prog Try.f3 Rows.chainPassesRow.domain false) (Rows.chainPassesSpec.post enc Try.prog Try.f3 false true false false) := by
  refine returnsInHanded_of_change (C := Try.checked) own started (by kernel_rfl) Try.func3
    (ChangeSpec.witness6 (enc := enc) (C := Try.checked) false ⟨#[], #[.agg #[.slice none 0 0, .slice none 0 0], .slice none 0 0, .agg #[.slice none 0 0, .slice none 0 0, .slice none 0 0]], []⟩ 8 (by kernel_rfl) (by kernel_rfl) (by kernel_rfl) (by kernel_rfl)) ?_
  intro W base args ds gs before hval0 hW hcnd _
  have hW' := hW
  obtain ⟨p, q, hA0, hV, rfl, hfz, hnd⟩ := hW
  obtain ⟨rfl, rfl⟩ := trodVars_none hV
  have hA : DataW.TrodAll enc Try.prog W 0 (fun _ => true) true [(25 : Nat), (26 : Nat), (30 : Nat)] args.toList ds p := by
    have := hA0
    rw [Try.params3] at this
    exact this
  obtain ⟨v1, vs1, d1, ds1, p1, q1, e1, rfl, rfl, h1, hA⟩ := trodAll_cons hA
  obtain ⟨v2, vs2, d2, ds2, p2, q2, rfl, rfl, rfl, h2, hA⟩ := trodAll_cons hA
  obtain ⟨v3, vs3, d3, ds3, p3, q3, rfl, rfl, rfl, h3, hA⟩ := trodAll_cons hA
  obtain ⟨rfl, rfl, rfl⟩ := trodAll_nil hA
  obtain rfl : args = #[v1, v2, v3] := by
    rw [← Array.toList_inj]; exact e1
  have o1 : Value.okWide Try.prog W .any base (25 : Nat) v1 := hval0 0 25 v1 (by rw [Try.params3]; rfl) rfl
  have o2 : Value.okWide Try.prog W .any base (26 : Nat) v2 := hval0 1 26 v2 (by rw [Try.params3]; rfl) rfl
  have o3 : Value.okWide Try.prog W .any base (30 : Nat) v3 := hval0 2 30 v3 (by rw [Try.params3]; rfl) rfl
  obtain ⟨s1, s2, ps, gs, x1, x2, rfl, g1, g2⟩ := open_c o1 h1
  obtain ⟨ss, x3, g3⟩ := open_w o2 h2
  obtain ⟨s4, s5, s6, bs, cs, ts, x4, x5, x6, rfl, g4, g5, g6⟩ := open_h o3 h3
  refine (call g1 g2 g3 g4 g5 g6).mono fun e W' ⟨he, hb⟩ => ?_
  subst he
  refine ⟨_, rfl, post_args laid (by rw [Try.params3]; kernel_rfl) hW' (by simpa using hA0) (fun _ _ _ => trodAll_mk1 (shut_bool Try.underlying4 _)) rfl (fun _ => rfl) hb (ok_one (by kernel_rfl) rfl (okWide_bool_mk Try.underlying4 _))⟩

theorem holds : Rows.ChainPassesSaid :=
  OpenClaim.holds_of_wide 3 Try.f3 rfl rfl rfl rfl rfl rfl rfl ⟨rfl, rfl, rfl, rfl, rfl⟩ rfl rfl rfl rfl rfl (by kernel_rfl) Try.func3 (by kernel_rfl)
    (of_decide_eq_true (by kernel_rfl)) (by unfold Func.isWrapper; first | (rw [if_pos (by decide +kernel)]; kernel_rfl) | (rw [if_neg (by decide +kernel)]; exact ⟨rfl, rfl⟩))
    (fun os started H enc _ => lifted os started H enc)
end Go.Proofs.Ytfdapdcfnognfaa.chainPasses

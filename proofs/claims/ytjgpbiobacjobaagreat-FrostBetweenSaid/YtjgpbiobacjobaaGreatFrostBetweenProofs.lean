/-
  Proved here: whatever the input, the law FrostBetween returns true and leaves what it was given as it was. Conditions: none beyond the row's own.
  The call is worked out for all inputs (the texts Ax .. AxW9, AxO, AxR .. AxR4, F1, T1 .. T14: 'Go.Ax.law_between'), alive by the evaluator of closed calls.
-/
import Derived.Test.YtjgpbiobacjobaaGreatRows
import Derived.Test.YtjgpbiobacjobaaGreatAlive
import Derived.Test.YtjgpbiobacjobaaGreatTb
import Derived.Test.YtjgpbiobacjobaaGreatAxO
import Derived.ProofKit
import Derived.Below
import Derived.Carry
import Derived.ChangeSame
set_option linter.all false
namespace Go.Proofs.YtjgpbiobacjobaaGreat.frostBetween
open Go.Proofs.YtjgpbiobacjobaaGreat
open Go.ChangeShapes Go.WideShapes Go.ChangeAt Go.RowKit Go.Ax

theorem own : ownKnob Tryz.prog.godebug = none := by kernel_rfl
theorem laid : laidOutB Tryz.prog = true := by kernel_rfl

theorem okWide_cell {P : Program} {w : World} {r : Reach} {b : Nat} {t e : TypeId} {v : Value} (ht : P.underlying t = some (.slice e)) (h : Value.okWide P w r b t v) : Cell.okWide P w r b t v := by
  unfold Value.okWide at h; rw [ht] at h; exact h
theorem okWide_row {P : Program} {w : World} {r : Reach} {b : Nat} {t : TypeId} {v : Value} {fs : Array Field} {us : List TypeId} (ht : P.underlying t = some (.struct fs)) (hc : P.cellTypes P.depth t = some us) (h : Value.okWide P w r b t v) :
    ∃ cs, v = .agg cs ∧ cs.size = P.cellsOf t ∧ ∀ i u, cs[i]? = some u → ∃ a, us[i % us.length]? = some a ∧ Cell.okWide P w r b a u := by
  unfold Value.okWide at h; rw [ht] at h
  obtain ⟨cs, e, hsz, ts, hts, _, hall⟩ := h
  rw [hc] at hts
  cases hts
  exact ⟨cs, e, hsz, hall⟩

theorem ct48 : Tryz.prog.cellTypes Tryz.prog.depth 48 = some [3, 3] := by kernel_rfl
theorem okWide_cint {P : Program} {w : World} {r : Reach} {b : Nat} {t : TypeId} {k : IntKind} {v : Value} (ht : P.underlying t = some (.int k)) (h : Cell.okWide P w r b t v) : ∃ n, v = .int k n :=
  Go.WideShapes.okWide_int (base := b) ht (by unfold Value.okWide; rw [ht]; exact h)
set_option maxRecDepth 100000 in
theorem open_sp {w : World} {base : Nat} {v : Value} (hv : Value.okWide Tryz.prog w .any base (48 : Nat) v) : ∃ b1 b2 : Int, v = .agg #[iv b1, iv b2] := by
  obtain ⟨cs, rfl, hsz, hall⟩ := okWide_row Tryz.underlying48 ct48 hv
  have h2 : cs.size = 2 := hsz.trans (by kernel_rfl)
  obtain ⟨l⟩ := cs
  match l, h2 with
  | [s1, s2], _ =>
    obtain ⟨u1, hu1, o1⟩ := hall 0 s1 rfl
    obtain ⟨u2, hu2, o2⟩ := hall 1 s2 rfl
    cases hu1
    cases hu2
    obtain ⟨b1, rfl⟩ := okWide_cint Tryz.underlying3 o1
    obtain ⟨b2, rfl⟩ := okWide_cint Tryz.underlying3 o2
    exact ⟨b1, b2, rfl⟩

theorem call {w : World} {bud b1 b2 fall gap t : Int} (ht : 0 ≤ t ∧ t ≤ 255) :
    Calls Tryz.prog 12 #[iv bud, .agg #[iv b1, iv b2], iv fall, iv gap, .int .u8 t] w fun e w' => e = .returned (.bool true) ∧ Below w.heap.size w w' := by
  obtain ⟨r, H, hrel, hn, hr, himp⟩ := imports (P := Tryz.prog) [] w (by
    intro x hx
    simp at hx)
  obtain ⟨m, rfl⟩ := Int.eq_ofNat_of_zero_le ht.1
  obtain ⟨H', hf⟩ := law_between (kn := fun f => bif Nat.beq f 16 then some true else none) (lo := H.next) (H := H) (bud := bud) (b1 := b1) (b2 := b2) (fall := fall) (gap := gap) (m := m) rfl (by omega) (Nat.le_refl _)
  refine open_call alive.mixed alive.noCount alive.known hrel hr ?_ hf
  have two : ∀ {a b a' b' : Value}, VR r a a' → VR r b b' → VR r (.agg #[a, b]) (.agg #[a', b']) := fun h1 h2 => .agg rfl fun i u u' e e' => by
    match i with
    | 0 => cases e; cases e'; exact h1
    | 1 => cases e; cases e'; exact h2
    | _ + 2 => cases e
  exact .cons (.int _ _) (.cons (two (.int _ _) (.int _ _)) (.cons (.int _ _) (.cons (.int _ _) (.cons (.int _ _) .nil))))
theorem all_below {H : Type} {enc : TypeId × Value → H} {P : Program} (hl : laidOutB P = true) {W W' : World} (hb : Below W.heap.size W W') {sp : Nat → Bool} : ∀ {ts : List TypeId} {vs : List Value} {ds : List (DataW H)} {ps : List MemPlace},
    (ts.all fun t => P.readableRec t && decide (t < P.types.size)) = true → (∀ x ∈ ps, x.block < W.heap.size) → (∀ x ∈ ps, sp x.block = true) → DataW.TrodAll enc P W 0 (fun _ => true) true ts vs ds ps → DataW.TrodAll enc P W' 0 sp true ts vs ds ps
  | [], _, _, _, _, _, _, h => by
    obtain ⟨rfl, rfl, rfl⟩ := trodAll_nil h
    exact rfl
  | t :: ts, _, _, _, ht, hlt, hsp, h => by
    obtain ⟨v, vs1, d, ds1, a, b, rfl, rfl, rfl, h1, h2⟩ := trodAll_cons h
    simp only [List.all_cons, Bool.and_eq_true, decide_eq_true_eq] at ht
    exact ⟨a, b, WideElems.Trod_stays hl ht.1.1 ht.1.2 h1 (fun x hx => hb.same (hlt x (List.mem_append.2 (.inl hx)))) (fun x hx => hsp x (List.mem_append.2 (.inl hx))),
      all_below hl hb ht.2 (fun x hx => hlt x (List.mem_append.2 (.inr hx))) (fun x hx => hsp x (List.mem_append.2 (.inr hx))) h2, rfl⟩

/-- The last step of a row without variables, where the call leaves what lay below as it was and makes a plain value. -/
theorem post_args {H : Type} {enc : TypeId × Value → H} {P : Program} {f : Func} {s : ChangeSpec} {apart fresh handsOn again : Bool} {W W' : World} {args : Array Value} {v : Value} {ds gs : List (DataW H)} {before : List MemPlace}
    (hl : laidOutB P = true) (hts : (f.params.toList.all fun t => P.readableRec t && decide (t < P.types.size)) = true)
    (hW : DataW.Whole enc P f.params.toList s.vars apart W args.toList ds gs before) (hA : DataW.TrodAll enc P W 0 (fun _ => true) true f.params.toList args.toList ds before)
    (hres : ∀ (b : Nat) (sp : Nat → Bool) (hd : Bool), DataW.TrodAll enc P W' b sp hd f.resultTypes.toList (v.resultList f.resultTypes.size) (s.fn H (ds ++ gs)).results [])
    (hargs : (s.fn H (ds ++ gs)).args = ds) (hvars : ∀ sp : Nat → Bool, DataW.TrodVars enc P W' sp s.vars (s.fn H (ds ++ gs)).vars [])
    (hb : Below W.heap.size W W')
    (hok : ∀ (j : Nat) (t : TypeId) (r : Value), f.resultTypes[j]? = some t → (v.resultList f.resultTypes.size)[j]? = some r → Value.okWide P W' .any 0 t r) :
    s.post enc P f apart fresh handsOn again W args v W' := by
  have hlt : ∀ p ∈ before, p.block < W.heap.size := fun p hp => hW.lt p hp
  have key : ∀ sp : Nat → Bool, (∀ p ∈ before, sp p.block = true) → DataW.TrodAll enc P W' 0 sp true f.params.toList args.toList (s.fn H (ds ++ gs)).args before := fun sp hsp => by
    rw [hargs]; exact all_below hl hb hts hlt hsp hA
  refine ⟨ds, gs, before, [], before, [], hW, hres _ _ _, key _ (fun p hp => by simpa using hlt p hp), hvars _, World.keptBut_mono (fun p hp => ⟨hp, by simpa using hp⟩) (hb.frame (· ∈ before)), fun _ => ?_⟩
  obtain ⟨_, _, _, _, _, hz, hn⟩ := hW
  refine ⟨hok, _, _, [] ++ before ++ [], ⟨[] ++ before, [], trodAll_append (key _ (fun _ _ => rfl)) (hres _ _ _), hvars _, rfl, fun b off hp => ?_, fun ha => by simpa using hn ha⟩, fun p hp _ => by simpa using hp⟩
  have hin : MemPlace.cell b off ∈ before := by simpa using hp
  rw [hb.frozen (hlt _ hin)]
  exact hz b off hin

set_option maxRecDepth 100000 in
theorem lifted (os : Os) (started : os.Started) (H : Type) (enc : TypeId × Value → H) :
    ReturnsInHanded {} Tryz.checked os 12 .any (Rows.frostBetweenSpec.pre6 enc Tryz.prog Tryz.f12 Rows.frostBetweenRow.domain false) (Rows.frostBetweenSpec.post enc Tryz.prog Tryz.f12 false true false false) := by
  refine returnsInHanded_of_change (C := Tryz.checked) own started (by kernel_rfl) Tryz.func12
    (ChangeSpec.witness6 (enc := enc) (C := Tryz.checked) false ⟨#[], #[.int .i64 0, .agg #[.int .i64 0, .int .i64 0], .int .i64 0, .int .i64 0, .int .u8 0], []⟩ 8 (by kernel_rfl) (by kernel_rfl) (by kernel_rfl) (by kernel_rfl)) ?_
  intro W base args ds gs before hval0 hW hcnd _
  have hW' := hW
  obtain ⟨p, q, hA0, hV, rfl, hfz, hnd⟩ := hW
  obtain ⟨rfl, rfl⟩ := trodVars_none hV
  have hA : DataW.TrodAll enc Tryz.prog W 0 (fun _ => true) true [(3 : Nat), (48 : Nat), (3 : Nat), (3 : Nat), (5 : Nat)] args.toList ds p := by
    have := hA0
    rw [Tryz.params12] at this
    exact this
  obtain ⟨v1, vs1, d1, ds1, p1, q1, e1, rfl, rfl, h1, hA⟩ := trodAll_cons hA
  obtain ⟨v2, vs2, d2, ds2, p2, q2, rfl, rfl, rfl, h2, hA⟩ := trodAll_cons hA
  obtain ⟨v3, vs3, d3, ds3, p3, q3, rfl, rfl, rfl, h3, hA⟩ := trodAll_cons hA
  obtain ⟨v4, vs4, d4, ds4, p4, q4, rfl, rfl, rfl, h4, hA⟩ := trodAll_cons hA
  obtain ⟨v5, vs5, d5, ds5, p5, q5, rfl, rfl, rfl, h5, hA⟩ := trodAll_cons hA
  obtain ⟨rfl, rfl, rfl⟩ := trodAll_nil hA
  obtain rfl : args = #[v1, v2, v3, v4, v5] := by
    rw [← Array.toList_inj]; exact e1
  have o1 : Value.okWide Tryz.prog W .any base (3 : Nat) v1 := hval0 0 3 v1 (by rw [Tryz.params12]; rfl) rfl
  have o2 : Value.okWide Tryz.prog W .any base (48 : Nat) v2 := hval0 1 48 v2 (by rw [Tryz.params12]; rfl) rfl
  have o3 : Value.okWide Tryz.prog W .any base (3 : Nat) v3 := hval0 2 3 v3 (by rw [Tryz.params12]; rfl) rfl
  have o4 : Value.okWide Tryz.prog W .any base (3 : Nat) v4 := hval0 3 3 v4 (by rw [Tryz.params12]; rfl) rfl
  have o5 : Value.okWide Tryz.prog W .any base (5 : Nat) v5 := hval0 4 5 v5 (by rw [Tryz.params12]; rfl) rfl
  obtain ⟨bud, rfl, _, _, _⟩ := open_int Tryz.underlying3 o1 h1
  obtain ⟨fall, rfl, _, _, _⟩ := open_int Tryz.underlying3 o3 h3
  obtain ⟨gap, rfl, _, _, _⟩ := open_int Tryz.underlying3 o4 h4
  obtain ⟨t, rfl, _, _, hwf⟩ := open_int Tryz.underlying5 o5 h5
  obtain ⟨b1, b2, rfl⟩ := open_sp o2
  have ht : 0 ≤ t ∧ t ≤ 255 := ?_
  · refine (call (bud := bud) (b1 := b1) (b2 := b2) (fall := fall) (gap := gap) (t := t) ht).mono fun e W' ⟨he, hb⟩ => ?_
    subst he
    refine ⟨_, rfl, post_args laid (by rw [Tryz.params12]; kernel_rfl) hW' (by simpa using hA0) (fun _ _ _ => trodAll_mk1 (shut_bool Tryz.underlying4 _)) rfl (fun _ => rfl) hb (ok_one (by kernel_rfl) rfl (okWide_bool_mk Tryz.underlying4 _))⟩
  · simp [Lit.wf, IntKind.min, IntKind.max, IntKind.signed, IntKind.bits] at hwf
    omega

theorem holds : Rows.FrostBetweenSaid :=
  OpenClaim.holds_of_wide 12 Tryz.f12 rfl rfl rfl rfl rfl rfl rfl ⟨rfl, rfl, rfl, rfl, rfl⟩ rfl rfl rfl rfl rfl (by kernel_rfl) Tryz.func12 (by kernel_rfl)
    (of_decide_eq_true (by kernel_rfl)) (by unfold Func.isWrapper; first | (rw [if_pos (by decide +kernel)]; kernel_rfl) | (rw [if_neg (by decide +kernel)]; exact ⟨rfl, rfl⟩))
    (fun os started H enc _ => lifted os started H enc)
end Go.Proofs.YtjgpbiobacjobaaGreat.frostBetween

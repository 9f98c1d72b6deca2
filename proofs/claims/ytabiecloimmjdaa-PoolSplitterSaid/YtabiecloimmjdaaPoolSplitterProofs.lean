/-
  Proved here: whatever the input, the law PoolSplitter returns true and leaves what it was given as it was. Conditions: none beyond the row's own.
  The call is worked out for all inputs, whatever is drawn (the texts Ax .. AxM8, AxR, S0 .. S6, Q1 ..), the document's examples too (Alive).
-/
import Derived.Test.YtabiecloimmjdaaRows
import Derived.Test.YtabiecloimmjdaaMg
import Derived.ProofKit
import Derived.Below
import Derived.Carry
import Derived.ChangeSame
set_option linter.all false
namespace Go.Proofs.Ytabiecloimmjdaa.poolSplitter
open Go.Proofs.Ytabiecloimmjdaa
open Go.ChangeShapes Go.WideShapes Go.ChangeAt Go.RowKit Go.Ax Go.Deep

theorem own : ownKnob Try.prog.godebug = none := by kernel_rfl
theorem laid : laidOutB Try.prog = true := by kernel_rfl

theorem okWide_cell {P : Program} {w : World} {r : Reach} {b : Nat} {t e : TypeId} {v : Value} (ht : P.underlying t = some (.slice e)) (h : Value.okWide P w r b t v) : Cell.okWide P w r b t v := by
  unfold Value.okWide at h; rw [ht] at h; exact h
theorem okWide_row {P : Program} {w : World} {r : Reach} {b : Nat} {t : TypeId} {v : Value} {fs : Array Field} {us : List TypeId} (ht : P.underlying t = some (.struct fs)) (hc : P.cellTypes P.depth t = some us) (h : Value.okWide P w r b t v) :
    ∃ cs, v = .agg cs ∧ cs.size = P.cellsOf t ∧ ∀ i u, cs[i]? = some u → ∃ a, us[i % us.length]? = some a ∧ Cell.okWide P w r b a u := by
  unfold Value.okWide at h; rw [ht] at h
  obtain ⟨cs, e, hsz, ts, hts, _, hall⟩ := h
  rw [hc] at hts
  cases hts
  exact ⟨cs, e, hsz, hall⟩

theorem okWide_cint {P : Program} {w : World} {r : Reach} {b : Nat} {t : TypeId} {k : IntKind} {v : Value} (ht : P.underlying t = some (.int k)) (h : Cell.okWide P w r b t v) : ∃ n, v = .int k n :=
  Go.WideShapes.okWide_int (base := b) ht (by unfold Value.okWide; rw [ht]; exact h)
theorem i3 : IntT Try.prog 3 := .int Try.underlying3 (by kernel_rfl)
theorem i47 : IntT Try.prog 47 := .struct Try.underlying47 (by intro f hf; simp at hf; rcases hf with rfl | rfl <;> exact i3) (by kernel_rfl)
theorem ct24 : Try.prog.cellTypes Try.prog.depth 24 = some [22, 3] := by kernel_rfl
set_option maxRecDepth 100000 in
theorem open_t {H : Type} {enc : TypeId × Value → H} {w : World} {base : Nat} {v : Value} {d : DataW H} {p : List MemPlace} (hv : Value.okWide Try.prog w .any base (24 : Nat) v) (h : DataW.Trod enc Try.prog w 0 (fun _ => true) true (24 : Nat) v d p) : ∃ (s1 : Value) (n2 : Int) (us : List Pr) (x : Imp), v = .agg #[s1, iv n2] ∧ Given w s1 Pr.f us x := by
  obtain ⟨fuel, h⟩ := h
  obtain ⟨cs, rfl, hsz, hall⟩ := okWide_row Try.underlying24 ct24 hv
  have h2 : cs.size = 2 := hsz.trans (by kernel_rfl)
  obtain ⟨l⟩ := cs
  match l, h2 with
  | [s1, s2], _ =>
    obtain ⟨u1, hu1, o1⟩ := hall 0 s1 rfl
    obtain ⟨u2, hu2, o2⟩ := hall 1 s2 rfl
    cases hu1
    cases hu2
    obtain ⟨n2, rfl⟩ := okWide_cint Try.underlying3 o2
    obtain ⟨xs, n, _, _, _, hxl, hg⟩ := DataW.trod_struct Try.underlying24 h
    match xs, hxl with
    | [y1, y2], _ =>
      have g1 : DataW.trod enc Try.prog w 0 (fun _ => true) true n (22 : Nat) [s1] = some y1 := by
        have q := hg 0 ⟨"Lines", 22, 0, false, "", "", 0⟩ rfl
        have c : Try.prog.cellsOf (22 : Nat) = 1 := by kernel_rfl
        simp only [c] at q
        exact q
      have hv1 : Value.okWide Try.prog w .any base (22 : Nat) s1 := by unfold Value.okWide; rw [Try.underlying22]; exact o1
      obtain ⟨a, len, cap, rfl⟩ := okWide_slice Try.underlying22 hv1
      obtain ⟨us, x, g⟩ := slice_given Pr.f (fun N => (⟨N 0, N 1⟩ : Pr)) 2 Try.underlying22 i47 (by kernel_rfl) (by decide) (fun _ => rfl) (okWide_cell Try.underlying22 hv1) g1
      exact ⟨_, n2, us, x, rfl, g⟩
theorem i26 : IntT Try.prog 26 := .struct Try.underlying26 (by intro f hf; simp at hf; rcases hf with rfl | rfl | rfl <;> exact i3) (by kernel_rfl)
set_option maxRecDepth 100000 in
theorem open_l {H : Type} {enc : TypeId × Value → H} {w : World} {base : Nat} {v : Value} {d : DataW H} {p : List MemPlace} (hv : Value.okWide Try.prog w .any base (35 : Nat) v) (h : DataW.Trod enc Try.prog w 0 (fun _ => true) true (35 : Nat) v d p) : ∃ (us : List Dl) (x : Imp), Given w v Dl.f us x := by
  obtain ⟨fuel, h⟩ := h
  obtain ⟨a, len, cap, rfl⟩ := okWide_slice Try.underlying35 hv
  exact slice_given Dl.f (fun N => ⟨N 0, N 1, N 2⟩) 3 Try.underlying35 i26 (by kernel_rfl) (by decide) (fun _ => rfl) (okWide_cell Try.underlying35 hv) h
theorem rel0 {α : Type} {w : World} {v : Value} {f : α → List Value} {l : List α} {x : Imp} (g : Given w v f l x) {r : Ren} {H : Hp} {b : Nat} (h : b < H.next ∧ r b = some ⟨x.blk, x.off, none⟩ ∧ H.t.get b = some (.ro x.cs)) :
    ∃ a cap, VR r (.slice a l.length cap) v ∧ Sl H a l.length cap (l.flatMap f) ∧ ∀ b, a = some ⟨b, 0, none⟩ → Fx H b (l.flatMap f) := by
  obtain ⟨hb, hr, hc⟩ := h
  obtain ⟨a, cap, h1, h2, h3⟩ := g.rel hr hb (by unfold cellsOf; rw [hc]) hc
  exact ⟨a, cap, h1, h2, fun b' e => ⟨h2.old b' e, .inl (h3 b' e)⟩⟩
theorem call {w : World} {s1 : Value} {n1 : Int} {us1 : List Pr} {x1 : Imp} (q1 : Given w s1 Pr.f us1 x1) {v2 : Value} {us2 : List Dl} {x2 : Imp} (q2 : Given w v2 Dl.f us2 x2) {y3 : Int} {y4 : Int} (hy4 : 0 ≤ y4 ∧ y4 ≤ 255) {y5 : Int} (hy5 : 0 ≤ y5 ∧ y5 ≤ 18446744073709551615) {y6 : Int} (hy6 : 0 ≤ y6 ∧ y6 ≤ 18446744073709551615) {y7 : Int} (hy7 : 0 ≤ y7 ∧ y7 ≤ 4294967295) :
    Calls Try.prog 7 #[.agg #[s1, iv n1], v2, iv y3, .int .u8 y4, .int .u64 y5, .int .u64 y6, .int .u32 y7] w fun e w' => e = .returned (.bool true) ∧ Below w.heap.size w w' := by
  obtain ⟨r, H, hrel, hr, himp⟩ := imports_flat (P := Try.prog) [x1, x2] (w := w) (by
    intro x hx i u hu
    simp only [List.mem_cons, List.not_mem_nil, or_false] at hx
    rcases hx with rfl | rfl
    · exact q1.ok i u hu
    · exact q2.ok i u hu)
  obtain ⟨a1, c1, rv1, l1, fx1⟩ := rel0 q1 (himp 0 x1 rfl)
  have l1 : Sl H a1 us1.length c1 (prc us1) := l1
  obtain ⟨a2, c2, rv2, l2, fx2⟩ := rel0 q2 (himp 1 x2 rfl)
  have l2 : Sl H a2 us2.length c2 (dlc us2) := l2
  refine open_callC (args := [.agg #[.slice a1 us1.length c1, iv n1], .slice a2 us2.length c2, iv y3, .int .u8 y4, .int .u64 y5, .int .u64 y6, .int .u32 y7]) hrel hr ?_ (law_splitter (kn := ⟨fun f => bif Nat.beq f 11 then some true else none, fun _ _ _ _ => none⟩) (lo := H.next) (H := H) alive.snd rfl l1 rfl l2 rfl (rev := y3) hy4 hy5 hy6 hy7 (Nat.le_refl _))
  exact (.cons (.agg rfl fun i u u' e e' => by
    match i with
    | 0 => cases e; cases e'; exact rv1
    | 1 => cases e; cases e'; exact .int _ _
    | _ + 2 => cases e) (.cons rv2 (.cons (.int _ _) (.cons (.int _ _) (.cons (.int _ _) (.cons (.int _ _) (.cons (.int _ _) .nil)))))))
theorem all_below {H : Type} {enc : TypeId × Value → H} {P : Program} (hl : laidOutB P = true) {W W' : World} (hb : Below W.heap.size W W') {sp : Nat → Bool} : ∀ {ts : List TypeId} {vs : List Value} {ds : List (DataW H)} {ps : List MemPlace},
    (ts.all fun t => P.readableRec t && decide (t < P.types.size)) = true → (∀ x ∈ ps, x.block < W.heap.size) → (∀ x ∈ ps, sp x.block = true) → DataW.TrodAll enc P W 0 (fun _ => true) true ts vs ds ps → DataW.TrodAll enc P W' 0 sp true ts vs ds ps
  | [], _, _, _, _, _, _, h => by
    obtain ⟨rfl, rfl, rfl⟩ := trodAll_nil h
    exact rfl
  | t :: ts, _, _, _, ht, hlt, hsp, h => by
    obtain ⟨v, vs1, d, ds1, a, b, rfl, rfl, rfl, h1, h2⟩ := trodAll_cons h
    simp only [List.all_cons, Bool.and_eq_true, decide_eq_true_eq] at ht
    exact ⟨a, b, WideElems.Trod_stays hl ht.1.1 ht.1.2 h1 (fun x hx => hb.same (hlt x (List.mem_append.2 (.inl hx)))) (fun x hx => hsp x (List.mem_append.2 (.inl hx))),
      all_below hl hb ht.2 (fun x hx => hlt x (List.mem_append.2 (.inr hx))) (fun x hx => hsp x (List.mem_append.2 (.inr hx))) h2, rfl⟩

/-- The last step of a row without variables, where the call leaves what lay below as it was and makes a plain value. -/
theorem post_args {H : Type} {enc : TypeId × Value → H} {P : Program} {f : Func} {s : ChangeSpec} {apart fresh handsOn again : Bool} {W W' : World} {args : Array Value} {v : Value} {ds gs : List (DataW H)} {before : List MemPlace}
    (hl : laidOutB P = true) (hts : (f.params.toList.all fun t => P.readableRec t && decide (t < P.types.size)) = true)
    (hW : DataW.Whole enc P f.params.toList s.vars apart W args.toList ds gs before) (hA : DataW.TrodAll enc P W 0 (fun _ => true) true f.params.toList args.toList ds before)
    (hres : ∀ (b : Nat) (sp : Nat → Bool) (hd : Bool), DataW.TrodAll enc P W' b sp hd f.resultTypes.toList (v.resultList f.resultTypes.size) (s.fn H (ds ++ gs)).results [])
    (hargs : (s.fn H (ds ++ gs)).args = ds) (hvars : ∀ sp : Nat → Bool, DataW.TrodVars enc P W' sp s.vars (s.fn H (ds ++ gs)).vars [])
    (hb : Below W.heap.size W W')
    (hok : ∀ (j : Nat) (t : TypeId) (r : Value), f.resultTypes[j]? = some t → (v.resultList f.resultTypes.size)[j]? = some r → Value.okWide P W' .any 0 t r) :
    s.post enc P f apart fresh handsOn again W args v W' := by
  have hlt : ∀ p ∈ before, p.block < W.heap.size := fun p hp => hW.lt p hp
  have key : ∀ sp : Nat → Bool, (∀ p ∈ before, sp p.block = true) → DataW.TrodAll enc P W' 0 sp true f.params.toList args.toList (s.fn H (ds ++ gs)).args before := fun sp hsp => by
    rw [hargs]; exact all_below hl hb hts hlt hsp hA
  refine ⟨ds, gs, before, [], before, [], hW, hres _ _ _, key _ (fun p hp => by simpa using hlt p hp), hvars _, World.keptBut_mono (fun p hp => ⟨hp, by simpa using hp⟩) (hb.frame (· ∈ before)), fun _ => ?_⟩
  obtain ⟨_, _, _, _, _, hz, hn⟩ := hW
  refine ⟨hok, _, _, [] ++ before ++ [], ⟨[] ++ before, [], trodAll_append (key _ (fun _ _ => rfl)) (hres _ _ _), hvars _, rfl, fun b off hp => ?_, fun ha => by simpa using hn ha⟩, fun p hp _ => by simpa using hp⟩
  have hin : MemPlace.cell b off ∈ before := by simpa using hp
  rw [hb.frozen (hlt _ hin)]
  exact hz b off hin

set_option maxRecDepth 100000 in
theorem lifted (os : Os) (started : os.Started) (H : Type) (enc : TypeId × Value → H) :
    ReturnsInHanded {} Try.checked os 7 .any (Rows.poolSplitterSpec.pre6 enc Try.prog Try.f7 Rows.poolSplitterRow.domain false) (Rows.poolSplitterSpec.post enc Try.prog Try.f7 false true false false) := by
  refine returnsInHanded_of_change (C := Try.checked) own started (by kernel_rfl) Try.func7
    (ChangeSpec.witness6 (enc := enc) (C := Try.checked) false ⟨#[], #[.agg #[.slice none 0 0, .int .i64 0], .slice none 0 0, .int .i64 0, .int .u8 0, .int .u64 0, .int .u64 0, .int .u32 0], []⟩ 8 (by kernel_rfl) (by kernel_rfl) (by kernel_rfl) (by kernel_rfl)) ?_
  intro W base args ds gs before hval0 hW hcnd _
  have hW' := hW
  obtain ⟨p, q, hA0, hV, rfl, hfz, hnd⟩ := hW
  obtain ⟨rfl, rfl⟩ := trodVars_none hV
  have hA : DataW.TrodAll enc Try.prog W 0 (fun _ => true) true [(24 : Nat), (35 : Nat), (3 : Nat), (5 : Nat), (43 : Nat), (43 : Nat), (54 : Nat)] args.toList ds p := by
    have := hA0
    rw [Try.params7] at this
    exact this
  obtain ⟨v1, vs1, d1, ds1, p1, pq1, e1, rfl, rfl, h1, hA⟩ := trodAll_cons hA
  obtain ⟨v2, vs2, d2, ds2, p2, pq2, rfl, rfl, rfl, h2, hA⟩ := trodAll_cons hA
  obtain ⟨v3, vs3, d3, ds3, p3, pq3, rfl, rfl, rfl, h3, hA⟩ := trodAll_cons hA
  obtain ⟨v4, vs4, d4, ds4, p4, pq4, rfl, rfl, rfl, h4, hA⟩ := trodAll_cons hA
  obtain ⟨v5, vs5, d5, ds5, p5, pq5, rfl, rfl, rfl, h5, hA⟩ := trodAll_cons hA
  obtain ⟨v6, vs6, d6, ds6, p6, pq6, rfl, rfl, rfl, h6, hA⟩ := trodAll_cons hA
  obtain ⟨v7, vs7, d7, ds7, p7, pq7, rfl, rfl, rfl, h7, hA⟩ := trodAll_cons hA
  obtain ⟨rfl, rfl, rfl⟩ := trodAll_nil hA
  obtain rfl : args = #[v1, v2, v3, v4, v5, v6, v7] := by
    rw [← Array.toList_inj]; exact e1
  have o1 : Value.okWide Try.prog W .any base (24 : Nat) v1 := hval0 0 24 v1 (by rw [Try.params7]; rfl) rfl
  have o2 : Value.okWide Try.prog W .any base (35 : Nat) v2 := hval0 1 35 v2 (by rw [Try.params7]; rfl) rfl
  have o3 : Value.okWide Try.prog W .any base (3 : Nat) v3 := hval0 2 3 v3 (by rw [Try.params7]; rfl) rfl
  have o4 : Value.okWide Try.prog W .any base (5 : Nat) v4 := hval0 3 5 v4 (by rw [Try.params7]; rfl) rfl
  have o5 : Value.okWide Try.prog W .any base (43 : Nat) v5 := hval0 4 43 v5 (by rw [Try.params7]; rfl) rfl
  have o6 : Value.okWide Try.prog W .any base (43 : Nat) v6 := hval0 5 43 v6 (by rw [Try.params7]; rfl) rfl
  have o7 : Value.okWide Try.prog W .any base (54 : Nat) v7 := hval0 6 54 v7 (by rw [Try.params7]; rfl) rfl
  obtain ⟨s1, n1, us1, x1, rfl, q1⟩ := open_t o1 h1
  obtain ⟨us2, x2, q2⟩ := open_l o2 h2
  obtain ⟨y3, rfl, _, _, _⟩ := open_int Try.underlying3 o3 h3
  obtain ⟨y4, rfl, _, _, wf4⟩ := open_int Try.underlying5 o4 h4
  have hy4 : 0 ≤ y4 ∧ y4 ≤ 255 := by
    simp [Lit.wf, IntKind.min, IntKind.max, IntKind.signed, IntKind.bits] at wf4
    omega
  obtain ⟨y5, rfl, _, _, wf5⟩ := open_int Try.underlying43 o5 h5
  have hy5 : 0 ≤ y5 ∧ y5 ≤ 18446744073709551615 := by
    simp [Lit.wf, IntKind.min, IntKind.max, IntKind.signed, IntKind.bits] at wf5
    omega
  obtain ⟨y6, rfl, _, _, wf6⟩ := open_int Try.underlying43 o6 h6
  have hy6 : 0 ≤ y6 ∧ y6 ≤ 18446744073709551615 := by
    simp [Lit.wf, IntKind.min, IntKind.max, IntKind.signed, IntKind.bits] at wf6
    omega
  obtain ⟨y7, rfl, _, _, wf7⟩ := open_int Try.underlying54 o7 h7
  have hy7 : 0 ≤ y7 ∧ y7 ≤ 4294967295 := by
    simp [Lit.wf, IntKind.min, IntKind.max, IntKind.signed, IntKind.bits] at wf7
    omega
  refine (call (n1 := n1) (y3 := y3) q1 q2 hy4 hy5 hy6 hy7).mono fun e W' ⟨he, hb⟩ => ?_
  subst he
  refine ⟨_, rfl, post_args laid (by rw [Try.params7]; kernel_rfl) hW' (by simpa using hA0) (fun _ _ _ => trodAll_mk1 (shut_bool Try.underlying4 _)) rfl (fun _ => rfl) hb (ok_one (by kernel_rfl) rfl (okWide_bool_mk Try.underlying4 _))⟩

theorem holds : Rows.PoolSplitterSaid :=
  OpenClaim.holds_of_wide 7 Try.f7 rfl rfl rfl rfl rfl rfl rfl ⟨rfl, rfl, rfl, rfl, rfl⟩ rfl rfl rfl rfl rfl (by kernel_rfl) Try.func7 (by kernel_rfl)
    (of_decide_eq_true (by kernel_rfl)) (by unfold Func.isWrapper; first | (rw [if_pos (by decide +kernel)]; kernel_rfl) | (rw [if_neg (by decide +kernel)]; exact ⟨rfl, rfl⟩))
    (fun os started H enc _ => lifted os started H enc)
end Go.Proofs.Ytabiecloimmjdaa.poolSplitter

/-
  Proved here: whatever the input, the law FloodBests returns true and leaves what it was given as it was. Conditions: none beyond the row's own.
  The call is worked out for all inputs (the texts Ax .. AxW10, AxO, AxD, AxE, AxN, B1, B2, AxR .. AxR5, M1, M2, the K texts, G, G2, G3), alive by the evaluator of closed calls.
-/
import Derived.Test.YtkdgngdnmgelnaaRows
import Derived.Test.YtkdgngdnmgelnaaAlive
import Derived.Test.YtkdgngdnmgelnaaMe
import Derived.ProofKit
import Derived.Below
import Derived.Carry
import Derived.ChangeSame
set_option linter.all false
namespace Go.Proofs.Ytkdgngdnmgelnaa.floodBests
open Go.Proofs.Ytkdgngdnmgelnaa
open Go.ChangeShapes Go.WideShapes Go.ChangeAt Go.RowKit Go.Ax Go.Deep

theorem own : ownKnob Try.prog.godebug = none := by kernel_rfl
theorem laid : laidOutB Try.prog = true := by kernel_rfl

theorem okWide_cell {P : Program} {w : World} {r : Reach} {b : Nat} {t e : TypeId} {v : Value} (ht : P.underlying t = some (.slice e)) (h : Value.okWide P w r b t v) : Cell.okWide P w r b t v := by
  unfold Value.okWide at h; rw [ht] at h; exact h
theorem okWide_row {P : Program} {w : World} {r : Reach} {b : Nat} {t : TypeId} {v : Value} {fs : Array Field} {us : List TypeId} (ht : P.underlying t = some (.struct fs)) (hc : P.cellTypes P.depth t = some us) (h : Value.okWide P w r b t v) :
    ∃ cs, v = .agg cs ∧ cs.size = P.cellsOf t ∧ ∀ i u, cs[i]? = some u → ∃ a, us[i % us.length]? = some a ∧ Cell.okWide P w r b a u := by
  unfold Value.okWide at h; rw [ht] at h
  obtain ⟨cs, e, hsz, ts, hts, _, hall⟩ := h
  rw [hc] at hts
  cases hts
  exact ⟨cs, e, hsz, hall⟩

theorem okWide_cint {P : Program} {w : World} {r : Reach} {b : Nat} {t : TypeId} {k : IntKind} {v : Value} (ht : P.underlying t = some (.int k)) (h : Cell.okWide P w r b t v) : ∃ n, v = .int k n :=
  Go.WideShapes.okWide_int (base := b) ht (by unfold Value.okWide; rw [ht]; exact h)
theorem i3 : IntT Try.prog 3 := .int Try.underlying3 (by kernel_rfl)
theorem i30 : IntT Try.prog 30 := .struct Try.underlying30 (by intro f hf; simp at hf; rcases hf with rfl | rfl <;> exact i3) (by kernel_rfl)
theorem ct25 : Try.prog.cellTypes Try.prog.depth 25 = some [22, 23, 3, 3, 3] := by kernel_rfl
section
variable {H : Type} {enc : TypeId × Value → H} {w : World} {base : Nat} {v : Value} {d : DataW H} {p : List MemPlace}
set_option maxRecDepth 100000 in
theorem bog_row (fuel : Nat) (cs : List Value) (x : DataW H × List MemPlace) (hx : DataW.trod enc Try.prog w 0 (fun _ => true) true fuel (57 : Nat) cs = some x) : ∃ y : BV, cs = BV.f y ∧ y.Q w := by
  obtain ⟨xs, n, _, _, hlen, hxl, hg⟩ := DataW.trod_struct Try.underlying57 hx
  have h4 : cs.length = 4 := hlen.trans (by kernel_rfl)
  match cs, h4, xs, hxl with
  | [s1, s2, s3, s4], _, [y1, y2, y3], _ =>
    have g1 : DataW.trod enc Try.prog w 0 (fun _ => true) true n (3 : Nat) [s1] = some y1 := by
      have q := hg 0 ⟨"Need", 3, 0, false, "", "", 0⟩ rfl
      have c : Try.prog.cellsOf (3 : Nat) = 1 := by kernel_rfl
      simp only [c] at q
      exact q
    have g2 : DataW.trod enc Try.prog w 0 (fun _ => true) true n (30 : Nat) [s2, s3] = some y2 := by
      have q := hg 1 ⟨"Leak", 30, 1, false, "", "", 8⟩ rfl
      have c : Try.prog.cellsOf (30 : Nat) = 2 := by kernel_rfl
      simp only [c] at q
      exact q
    have g3 : DataW.trod enc Try.prog w 0 (fun _ => true) true n (55 : Nat) [s4] = some y3 := by
      have q := hg 2 ⟨"Work", 55, 3, false, "", "", 24⟩ rfl
      have c : Try.prog.cellsOf (55 : Nat) = 1 := by kernel_rfl
      simp only [c] at q
      exact q
    obtain ⟨m1, e1, _⟩ := DataW.trod_int Try.underlying3 g1
    cases e1
    obtain ⟨m2, e2, _⟩ := i30.row (α := Int × Int) (f := fun s => [iv s.1, iv s.2]) (k := 2) (mk := fun N => (N 0, N 1)) (by kernel_rfl) (fun _ => rfl) n _ _ g2
    cases e2
    obtain ⟨ws, x3, q3⟩ := givI_of (f := fun s : Int × Int => [iv s.1, iv s.2]) (Q := fun _ => True) (k := 2) Try.underlying55 (fun fuel cs x hx => i30.row (k := 2) (mk := fun N => (N 0, N 1)) (by kernel_rfl) (fun _ => rfl) fuel cs x hx) (by kernel_rfl) (by decide) (fun _ => rfl) (fun y u hu => by simp at hu; rcases hu with rfl | rfl <;> rfl) g3
    exact ⟨⟨m1, m2.1, m2.2, s4, ws, x3⟩, rfl, q3⟩
set_option maxRecDepth 100000 in
theorem rate_row (fuel : Nat) (cs : List Value) (x : DataW H × List MemPlace) (hx : DataW.trod enc Try.prog w 0 (fun _ => true) true fuel (26 : Nat) cs = some x) : ∃ y : RV, cs = RV.f y ∧ y.Q w := by
  have h1 : ∃ v, cs = [v] := by
    rcases open_slice Try.underlying26 hx with ⟨h0, _⟩ | ⟨a, len, cap, m, n, D, Pl, hcs, _⟩
    · exact ⟨_, h0⟩
    · exact ⟨_, hcs⟩
  obtain ⟨v, rfl⟩ := h1
  obtain ⟨ws, x3, q3⟩ := givI_of (f := fun n : Int => [iv n]) (Q := fun _ => True) (k := 1) Try.underlying26 (fun fuel cs x hx => i3.row (k := 1) (mk := fun N => N 0) (by kernel_rfl) (fun _ => rfl) fuel cs x hx) (by kernel_rfl) (by decide) (fun _ => rfl) (fun y u hu => by simp at hu; subst hu; rfl) hx
  exact ⟨⟨v, ws, x3⟩, rfl, q3⟩
theorem givO_of {α : Type} {f : α → List Value} {Q : α → Prop} {v : Value} {l : List α} (h : ((v = .slice none 0 0 ∨ ∃ a', v = .slice (some a') 0 0) ∧ l = []) ∨ ∃ blk off cap, v = .slice (some ⟨blk, off, none⟩) l.length cap ∧ l.length ≤ cap ∧ ∀ (i : Nat) u, (l.flatMap f)[i]? = some u → w.cell? ⟨blk, off + i, none⟩ = some u) : ∃ x : Imp, GivO w v f l x := by
  rcases h with ⟨h1, rfl⟩ | ⟨blk, off, cap, h1, h2, h3⟩
  · exact ⟨⟨0, 0, []⟩, fun i u e => by simp at e, .inl ⟨h1, rfl⟩⟩
  · exact ⟨⟨blk, off, []⟩, h3, .inr ⟨cap, h1, h2⟩⟩
set_option maxRecDepth 100000 in
theorem open_h (hv : Value.okWide Try.prog w .any base (25 : Nat) v) (h : DataW.Trod enc Try.prog w 0 (fun _ => true) true (25 : Nat) v d p) :
    ∃ (s1 s2 : Value) (n3 n4 n5 : Int) (L1 : List BV) (L2 : List RV) (x1 x2 : Imp), v = .agg #[s1, s2, iv n3, iv n4, iv n5] ∧ HG w s1 s2 L1 L2 x1 x2 := by
  obtain ⟨fuel, h⟩ := h
  obtain ⟨cs, rfl, hsz, hall⟩ := okWide_row Try.underlying25 ct25 hv
  have h2 : cs.size = 5 := hsz.trans (by kernel_rfl)
  obtain ⟨l⟩ := cs
  match l, h2 with
  | [s1, s2, s3, s4, s5], _ =>
    obtain ⟨u1, hu1, o1⟩ := hall 0 s1 rfl
    obtain ⟨u2, hu2, o2⟩ := hall 1 s2 rfl
    obtain ⟨u3, hu3, o3⟩ := hall 2 s3 rfl
    obtain ⟨u4, hu4, o4⟩ := hall 3 s4 rfl
    obtain ⟨u5, hu5, o5⟩ := hall 4 s5 rfl
    cases hu1
    cases hu2
    cases hu3
    cases hu4
    cases hu5
    obtain ⟨n3, rfl⟩ := okWide_cint Try.underlying3 o3
    obtain ⟨n4, rfl⟩ := okWide_cint Try.underlying3 o4
    obtain ⟨n5, rfl⟩ := okWide_cint Try.underlying3 o5
    obtain ⟨xs, n, _, _, _, hxl, hg⟩ := DataW.trod_struct Try.underlying25 h
    match xs, hxl with
    | [y1, y2, y3, y4, y5], _ =>
      have g1 : DataW.trod enc Try.prog w 0 (fun _ => true) true n (22 : Nat) [s1] = some y1 := by
        have q := hg 0 ⟨"Bogs", 22, 0, false, "", "", 0⟩ rfl
        have c : Try.prog.cellsOf (22 : Nat) = 1 := by kernel_rfl
        simp only [c] at q
        exact q
      have g2 : DataW.trod enc Try.prog w 0 (fun _ => true) true n (23 : Nat) [s2] = some y2 := by
        have q := hg 1 ⟨"Rates", 23, 1, false, "", "", 24⟩ rfl
        have c : Try.prog.cellsOf (23 : Nat) = 1 := by kernel_rfl
        simp only [c] at q
        exact q
      obtain ⟨L1, _, q1, z1⟩ := rows_read (f := BV.f) (Q := fun y => BV.Q w y) (k := 4) Try.underlying22 bog_row (by kernel_rfl) (by decide) (fun _ => rfl) g1
      obtain ⟨L2, _, q2, z2⟩ := rows_read (f := RV.f) (Q := fun y => RV.Q w y) (k := 1) Try.underlying23 rate_row (by kernel_rfl) (by decide) (fun _ => rfl) g2
      obtain ⟨x1, p1⟩ := givO_of (Q := fun y => BV.Q w y) z1
      obtain ⟨x2, p2⟩ := givO_of (Q := fun y => RV.Q w y) z2
      exact ⟨s1, s2, n3, n4, n5, L1, L2, x1, x2, rfl, p1, p2, q1, q2⟩
end
theorem rel0 {α : Type} {w : World} {v : Value} {f : α → List Value} {l : List α} {x : Imp} (g : Given w v f l x) {r : Ren} {H : Hp} {b : Nat} (h : b < H.next ∧ r b = some ⟨x.blk, x.off, none⟩ ∧ H.t.get b = some (.ro x.cs)) :
    ∃ a cap, VR r (.slice a l.length cap) v ∧ Sl H a l.length cap (l.flatMap f) ∧ ∀ b, a = some ⟨b, 0, none⟩ → Fx H b (l.flatMap f) := by
  obtain ⟨hb, hr, hc⟩ := h
  obtain ⟨a, cap, h1, h2, h3⟩ := g.rel hr hb (by unfold cellsOf; rw [hc]) hc
  exact ⟨a, cap, h1, h2, fun b' e => ⟨h2.old b' e, .inl (h3 b' e)⟩⟩
theorem call {w : World} {s1 s2 : Value} {n3 n4 n5 : Int} {L1 : List BV} {L2 : List RV} {xa xb : Imp} (q0 : HG w s1 s2 L1 L2 xa xb) :
    Calls Try.prog 4 #[.agg #[s1, s2, iv n3, iv n4, iv n5]] w fun e w' => e = .returned (.bool true) ∧ Below w.heap.size w w' := by
  obtain ⟨r, H, g, hrel, hr, himp, hat, hi3, hi4, hi5, va, vb⟩ := imports_harvest (P := Try.prog) [] q0 n3 n4 n5 (fun x hx => by simp at hx)
  obtain ⟨H', hf⟩ := law_bests (kn := fun f => bif Nat.beq f 13 then some true else none) (lo := H.next) (H := H) (g := g) rfl hat (Nat.le_refl _)
  refine open_call alive.mixed alive.noCount alive.known hrel hr ?_ hf
  exact (.cons (.agg rfl fun i u u' e e' => by
    match i with
    | 0 => cases e; cases e'; exact va
    | 1 => cases e; cases e'; exact vb
    | 2 => cases e; cases e'; exact hi3 ▸ .int _ _
    | 3 => cases e; cases e'; exact hi4 ▸ .int _ _
    | 4 => cases e; cases e'; exact hi5 ▸ .int _ _
    | _ + 5 => cases e) .nil)
theorem all_below {H : Type} {enc : TypeId × Value → H} {P : Program} (hl : laidOutB P = true) {W W' : World} (hb : Below W.heap.size W W') {sp : Nat → Bool} : ∀ {ts : List TypeId} {vs : List Value} {ds : List (DataW H)} {ps : List MemPlace},
    (ts.all fun t => P.readableRec t && decide (t < P.types.size)) = true → (∀ x ∈ ps, x.block < W.heap.size) → (∀ x ∈ ps, sp x.block = true) → DataW.TrodAll enc P W 0 (fun _ => true) true ts vs ds ps → DataW.TrodAll enc P W' 0 sp true ts vs ds ps
  | [], _, _, _, _, _, _, h => by
    obtain ⟨rfl, rfl, rfl⟩ := trodAll_nil h
    exact rfl
  | t :: ts, _, _, _, ht, hlt, hsp, h => by
    obtain ⟨v, vs1, d, ds1, a, b, rfl, rfl, rfl, h1, h2⟩ := trodAll_cons h
    simp only [List.all_cons, Bool.and_eq_true, decide_eq_true_eq] at ht
    exact ⟨a, b, WideElems.Trod_stays hl ht.1.1 ht.1.2 h1 (fun x hx => hb.same (hlt x (List.mem_append.2 (.inl hx)))) (fun x hx => hsp x (List.mem_append.2 (.inl hx))),
      all_below hl hb ht.2 (fun x hx => hlt x (List.mem_append.2 (.inr hx))) (fun x hx => hsp x (List.mem_append.2 (.inr hx))) h2, rfl⟩

/-- The last step of a row without variables, where the call leaves what lay below as it was and makes a plain value. -/
theorem post_args {H : Type} {enc : TypeId × Value → H} {P : Program} {f : Func} {s : ChangeSpec} {apart fresh handsOn again : Bool} {W W' : World} {args : Array Value} {v : Value} {ds gs : List (DataW H)} {before : List MemPlace}
    (hl : laidOutB P = true) (hts : (f.params.toList.all fun t => P.readableRec t && decide (t < P.types.size)) = true)
    (hW : DataW.Whole enc P f.params.toList s.vars apart W args.toList ds gs before) (hA : DataW.TrodAll enc P W 0 (fun _ => true) true f.params.toList args.toList ds before)
    (hres : ∀ (b : Nat) (sp : Nat → Bool) (hd : Bool), DataW.TrodAll enc P W' b sp hd f.resultTypes.toList (v.resultList f.resultTypes.size) (s.fn H (ds ++ gs)).results [])
    (hargs : (s.fn H (ds ++ gs)).args = ds) (hvars : ∀ sp : Nat → Bool, DataW.TrodVars enc P W' sp s.vars (s.fn H (ds ++ gs)).vars [])
    (hb : Below W.heap.size W W')
    (hok : ∀ (j : Nat) (t : TypeId) (r : Value), f.resultTypes[j]? = some t → (v.resultList f.resultTypes.size)[j]? = some r → Value.okWide P W' .any 0 t r) :
    s.post enc P f apart fresh handsOn again W args v W' := by
  have hlt : ∀ p ∈ before, p.block < W.heap.size := fun p hp => hW.lt p hp
  have key : ∀ sp : Nat → Bool, (∀ p ∈ before, sp p.block = true) → DataW.TrodAll enc P W' 0 sp true f.params.toList args.toList (s.fn H (ds ++ gs)).args before := fun sp hsp => by
    rw [hargs]; exact all_below hl hb hts hlt hsp hA
  refine ⟨ds, gs, before, [], before, [], hW, hres _ _ _, key _ (fun p hp => by simpa using hlt p hp), hvars _, World.keptBut_mono (fun p hp => ⟨hp, by simpa using hp⟩) (hb.frame (· ∈ before)), fun _ => ?_⟩
  obtain ⟨_, _, _, _, _, hz, hn⟩ := hW
  refine ⟨hok, _, _, [] ++ before ++ [], ⟨[] ++ before, [], trodAll_append (key _ (fun _ _ => rfl)) (hres _ _ _), hvars _, rfl, fun b off hp => ?_, fun ha => by simpa using hn ha⟩, fun p hp _ => by simpa using hp⟩
  have hin : MemPlace.cell b off ∈ before := by simpa using hp
  rw [hb.frozen (hlt _ hin)]
  exact hz b off hin

set_option maxRecDepth 100000 in
theorem lifted (os : Os) (started : os.Started) (H : Type) (enc : TypeId × Value → H) :
    ReturnsInHanded {} Try.checked os 4 .any (Rows.floodBestsSpec.pre6 enc Try.prog Try.f4 Rows.floodBestsRow.domain false) (Rows.floodBestsSpec.post enc Try.prog Try.f4 false true false false) := by
  refine returnsInHanded_of_change (C := Try.checked) own started (by kernel_rfl) Try.func4
    (ChangeSpec.witness6 (enc := enc) (C := Try.checked) false ⟨#[], #[.agg #[.slice none 0 0, .slice none 0 0, .int .i64 0, .int .i64 0, .int .i64 0]], []⟩ 8 (by kernel_rfl) (by kernel_rfl) (by kernel_rfl) (by kernel_rfl)) ?_
  intro W base args ds gs before hval0 hW hcnd _
  have hW' := hW
  obtain ⟨p, q, hA0, hV, rfl, hfz, hnd⟩ := hW
  obtain ⟨rfl, rfl⟩ := trodVars_none hV
  have hA : DataW.TrodAll enc Try.prog W 0 (fun _ => true) true [(25 : Nat)] args.toList ds p := by
    have := hA0
    rw [Try.params4] at this
    exact this
  obtain ⟨v1, vs1, d1, ds1, p1, pq1, e1, rfl, rfl, h1, hA⟩ := trodAll_cons hA
  obtain ⟨rfl, rfl, rfl⟩ := trodAll_nil hA
  obtain rfl : args = #[v1] := by
    rw [← Array.toList_inj]; exact e1
  have o1 : Value.okWide Try.prog W .any base (25 : Nat) v1 := hval0 0 25 v1 (by rw [Try.params4]; rfl) rfl
  obtain ⟨s1, s2, n3, n4, n5, L1, L2, xa, xb, rfl, q0⟩ := open_h o1 h1
  refine (call q0).mono fun e W' ⟨he, hb⟩ => ?_
  subst he
  refine ⟨_, rfl, post_args laid (by rw [Try.params4]; kernel_rfl) hW' (by simpa using hA0) (fun _ _ _ => trodAll_mk1 (shut_bool Try.underlying4 _)) rfl (fun _ => rfl) hb (ok_one (by kernel_rfl) rfl (okWide_bool_mk Try.underlying4 _))⟩

theorem holds : Rows.FloodBestsSaid :=
  OpenClaim.holds_of_wide 4 Try.f4 rfl rfl rfl rfl rfl rfl rfl ⟨rfl, rfl, rfl, rfl, rfl⟩ rfl rfl rfl rfl rfl (by kernel_rfl) Try.func4 (by kernel_rfl)
    (of_decide_eq_true (by kernel_rfl)) (by unfold Func.isWrapper; first | (rw [if_pos (by decide +kernel)]; kernel_rfl) | (rw [if_neg (by decide +kernel)]; exact ⟨rfl, rfl⟩))
    (fun os started H enc _ => lifted os started H enc)
end Go.Proofs.Ytkdgngdnmgelnaa.floodBests

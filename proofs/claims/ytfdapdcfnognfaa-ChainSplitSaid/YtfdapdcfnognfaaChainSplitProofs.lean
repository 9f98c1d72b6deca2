/-
  Proved here: whatever the input, the law ChainSplit returns true and leaves what it was given as it was. Conditions: none beyond the row's own.
  The call is worked out for all inputs (the texts Ax .. AxO, X1 .. X130: 'Go.Ax.law_split', with the mathematics 'Go.Ax.foG_after'), alive by the evaluator of closed calls.
-/
import Derived.Test.YtfdapdcfnognfaaRows
import Derived.Test.YtfdapdcfnognfaaAlive
import Derived.Test.YtfdapdcfnognfaaXw
import Derived.ProofKit
import Derived.Below
import Derived.Carry
import Derived.ChangeSame
set_option linter.all false
namespace Go.Proofs.Ytfdapdcfnognfaa.chainSplit
open Go.Proofs.Ytfdapdcfnognfaa
open Go.ChangeShapes Go.WideShapes Go.ChangeAt Go.RowKit Go.Ax

theorem own : ownKnob Try.prog.godebug = none := by kernel_rfl
theorem laid : laidOutB Try.prog = true := by kernel_rfl
theorem i3 : IntT Try.prog 3 := .int Try.underlying3 (by kernel_rfl)
theorem i35 : IntT Try.prog 35 := .struct Try.underlying35 (by intro f hf; simp at hf; rcases hf with rfl | rfl <;> exact i3) (by kernel_rfl)
theorem i60 : IntT Try.prog 60 := .struct Try.underlying60 (by intro f hf; simp at hf; rcases hf with rfl | rfl <;> exact i3) (by kernel_rfl)
theorem i86 : IntT Try.prog 86 := .struct Try.underlying86 (by intro f hf; simp at hf; rcases hf with rfl | rfl <;> exact i3) (by kernel_rfl)
theorem i71 : IntT Try.prog 71 := .struct Try.underlying71 (by intro f hf; simp at hf; rcases hf with rfl | rfl | rfl; exact i3; exact i35; exact i3) (by kernel_rfl)
theorem i81 : IntT Try.prog 81 := .struct Try.underlying81 (by intro f hf; simp at hf; rcases hf with rfl | rfl | rfl | rfl | rfl | rfl <;> exact i3) (by kernel_rfl)
theorem ct25 : Try.prog.cellTypes Try.prog.depth 25 = some [22, 23] := by kernel_rfl
theorem ct30 : Try.prog.cellTypes Try.prog.depth 30 = some [27, 26, 28] := by kernel_rfl

theorem okWide_cell {P : Program} {w : World} {r : Reach} {b : Nat} {t e : TypeId} {v : Value} (ht : P.underlying t = some (.slice e)) (h : Value.okWide P w r b t v) : Cell.okWide P w r b t v := by
  unfold Value.okWide at h; rw [ht] at h; exact h
theorem okWide_row {P : Program} {w : World} {r : Reach} {b : Nat} {t : TypeId} {v : Value} {fs : Array Field} {us : List TypeId} (ht : P.underlying t = some (.struct fs)) (hc : P.cellTypes P.depth t = some us) (h : Value.okWide P w r b t v) :
    ∃ cs, v = .agg cs ∧ cs.size = P.cellsOf t ∧ ∀ i u, cs[i]? = some u → ∃ a, us[i % us.length]? = some a ∧ Cell.okWide P w r b a u := by
  unfold Value.okWide at h; rw [ht] at h
  obtain ⟨cs, e, hsz, ts, hts, _, hall⟩ := h
  rw [hc] at hts
  cases hts
  exact ⟨cs, e, hsz, hall⟩
section
variable {H : Type} {enc : TypeId × Value → H} {w : World} {base : Nat} {v : Value} {d : DataW H} {p : List MemPlace}
set_option maxRecDepth 100000 in
theorem open_w (hv : Value.okWide Try.prog w .any base (26 : Nat) v) (h : DataW.Trod enc Try.prog w 0 (fun _ => true) true (26 : Nat) v d p) : ∃ (ss : List (Int × Int)) (x : Imp), Given w v (fun s : Int × Int => [iv s.1, iv s.2]) ss x := by
  obtain ⟨fuel, h⟩ := h
  have hc : Cell.okWide Try.prog w .any base (26 : Nat) v := okWide_cell Try.underlying26 hv
  obtain ⟨a, len, cap, rfl⟩ := okWide_slice Try.underlying26 hv
  exact slice_given (fun s : Int × Int => [iv s.1, iv s.2]) (fun N => (N 0, N 1)) 2 Try.underlying26 i35 (by kernel_rfl) (by decide) (fun _ => rfl) hc h
set_option maxRecDepth 100000 in
theorem open_c (hv : Value.okWide Try.prog w .any base (25 : Nat) v) (h : DataW.Trod enc Try.prog w 0 (fun _ => true) true (25 : Nat) v d p) :
    ∃ (s1 s2 : Value) (ps : List Pd) (gs : List Gt) (x1 x2 : Imp), v = .agg #[s1, s2] ∧ Given w s1 Pd.v ps x1 ∧ Given w s2 Gt.v gs x2 := by
  obtain ⟨fuel, h⟩ := h
  obtain ⟨cs, rfl, hsz, hall⟩ := okWide_row Try.underlying25 ct25 hv
  have h2 : cs.size = 2 := hsz.trans (by kernel_rfl)
  obtain ⟨l⟩ := cs
  match l, h2 with
  | [s1, s2], _ =>
    obtain ⟨u1, hu1, o1⟩ := hall 0 s1 rfl
    obtain ⟨u2, hu2, o2⟩ := hall 1 s2 rfl
    cases hu1
    cases hu2
    obtain ⟨xs, n, _, _, _, hxl, hg⟩ := DataW.trod_struct Try.underlying25 h
    match xs, hxl with
    | [y1, y2], _ =>
      have g1 : DataW.trod enc Try.prog w 0 (fun _ => true) true n (22 : Nat) [s1] = some y1 := by
        have q := hg 0 ⟨"Ponds", 22, 0, false, "", "", 0⟩ rfl
        have c : Try.prog.cellsOf (22 : Nat) = 1 := by kernel_rfl
        simp only [c] at q
        exact q
      have g2 : DataW.trod enc Try.prog w 0 (fun _ => true) true n (23 : Nat) [s2] = some y2 := by
        have q := hg 1 ⟨"Gates", 23, 1, false, "", "", 24⟩ rfl
        have c : Try.prog.cellsOf (23 : Nat) = 1 := by kernel_rfl
        simp only [c] at q
        exact q
      obtain ⟨ps, x1, q1⟩ := slice_given Pd.v (fun N => ⟨N 0, N 1, N 2, N 3⟩) 4 Try.underlying22 i71 (by kernel_rfl) (by decide) (fun _ => rfl) o1 g1
      obtain ⟨gs, x2, q2⟩ := slice_given Gt.v (fun N => ⟨N 0, N 1, N 2, N 3, N 4, N 5⟩) 6 Try.underlying23 i81 (by kernel_rfl) (by decide) (fun _ => rfl) o2 g2
      exact ⟨s1, s2, ps, gs, x1, x2, rfl, q1, q2⟩
end

theorem maxLen_le : maxLen ≤ 9223372036854775807 := by decide
section
variable {H : Type} {enc : TypeId × Value → H} {w : World} {base : Nat} {v : Value} {d : DataW H} {p : List MemPlace}
set_option maxRecDepth 100000 in
theorem open_b (hv : Value.okWide Try.prog w .any base (33 : Nat) v) (h : DataW.Trod enc Try.prog w 0 (fun _ => true) true (33 : Nat) v d p) : ∃ (ms : List Int) (x : Imp), Given w v (fun n : Int => [iv n]) ms x := by
  obtain ⟨fuel, h⟩ := h
  have hc : Cell.okWide Try.prog w .any base (33 : Nat) v := okWide_cell Try.underlying33 hv
  obtain ⟨a, len, cap, rfl⟩ := okWide_slice Try.underlying33 hv
  exact slice_given (fun n : Int => [iv n]) (fun N => N 0) 1 Try.underlying33 i3 (by kernel_rfl) (by decide) (fun _ => rfl) hc h
set_option maxRecDepth 100000 in
theorem open_l (hv : Value.okWide Try.prog w .any base (47 : Nat) v) (h : DataW.Trod enc Try.prog w 0 (fun _ => true) true (47 : Nat) v d p) : ∃ L : List HV, HL w v L := by
  obtain ⟨fuel, h⟩ := h
  obtain ⟨a, len, cap, rfl⟩ := okWide_slice Try.underlying47 hv
  have hR : ∀ (fuel : Nat) (cs : List Value) (x : DataW H × List MemPlace), DataW.trod enc Try.prog w 0 (fun _ => true) true fuel (30 : Nat) cs = some x → ∃ y : HV, cs = HV.f y ∧ y.Q w := by
    intro fuel cs x hx
    obtain ⟨xs, n, _, _, hlen, hxl, hg⟩ := DataW.trod_struct Try.underlying30 hx
    have h3 : cs.length = 3 := hlen.trans (by kernel_rfl)
    match cs, h3, xs, hxl with
    | [s1, s2, s3], _, [y1, y2, y3], _ =>
      have g1 : DataW.trod enc Try.prog w 0 (fun _ => true) true n (27 : Nat) [s1] = some y1 := by
        have q := hg 0 ⟨"Boards", 27, 0, false, "", "", 0⟩ rfl
        have c : Try.prog.cellsOf (27 : Nat) = 1 := by kernel_rfl
        simp only [c] at q
        exact q
      have g2 : DataW.trod enc Try.prog w 0 (fun _ => true) true n (26 : Nat) [s2] = some y2 := by
        have q := hg 1 ⟨"Comes", 26, 1, false, "", "", 24⟩ rfl
        have c : Try.prog.cellsOf (26 : Nat) = 1 := by kernel_rfl
        simp only [c] at q
        exact q
      have g3 : DataW.trod enc Try.prog w 0 (fun _ => true) true n (28 : Nat) [s3] = some y3 := by
        have q := hg 2 ⟨"Takes", 28, 2, false, "", "", 48⟩ rfl
        have c : Try.prog.cellsOf (28 : Nat) = 1 := by kernel_rfl
        simp only [c] at q
        exact q
      obtain ⟨bs, x1, q1, _⟩ := rows_given (f := Bd.v) (Q := fun _ => True) (k := 2) Try.underlying27 (fun fuel cs x hx => i60.row (k := 2) (mk := fun N => ⟨N 0, N 1⟩) (by kernel_rfl) (fun _ => rfl) fuel cs x hx) (by kernel_rfl) (by decide) (fun _ => rfl) (fun y u hu => by simp [Bd.v] at hu; rcases hu with rfl | rfl <;> rfl) g1
      obtain ⟨cs', x2, q2, _⟩ := rows_given (f := fun s : Int × Int => [iv s.1, iv s.2]) (Q := fun _ => True) (k := 2) Try.underlying26 (fun fuel cs x hx => i35.row (k := 2) (mk := fun N => (N 0, N 1)) (by kernel_rfl) (fun _ => rfl) fuel cs x hx) (by kernel_rfl) (by decide) (fun _ => rfl) (fun y u hu => by simp at hu; rcases hu with rfl | rfl <;> rfl) g2
      obtain ⟨ts, x3, q3, _⟩ := rows_given (f := Tk.v) (Q := fun _ => True) (k := 2) Try.underlying28 (fun fuel cs x hx => i86.row (k := 2) (mk := fun N => ⟨N 0, N 1⟩) (by kernel_rfl) (fun _ => rfl) fuel cs x hx) (by kernel_rfl) (by decide) (fun _ => rfl) (fun y u hu => by simp [Tk.v] at hu; rcases hu with rfl | rfl <;> rfl) g3
      exact ⟨⟨s1, s2, s3, bs, cs', ts, x1, x2, x3⟩, rfl, ⟨q1, q2, q3⟩⟩
  obtain ⟨L, _, h2, h3⟩ := rows_read (f := HV.f) (Q := fun y => HV.Q w y) (k := 3) Try.underlying47 hR (by kernel_rfl) (by decide) (fun _ => rfl) h
  exact ⟨L, h2, h3⟩
end
theorem u16_flat (l : List Nat) : l.flatMap (fun n : Nat => [Value.int .u16 (n : Int)]) = u16s l := by
  induction l with
  | nil => rfl
  | cons a l ih => rw [List.flatMap_cons, ih]; rfl

theorem int_flat : ∀ (l : List Int), l.flatMap (fun n : Int => [iv n]) = ints l
  | [] => rfl
  | x :: l => by rw [List.flatMap_cons, int_flat l]; rfl
theorem call {w : World} {s1 s2 s3 lv : Value} {ps : List Pd} {gs : List Gt} {ss : List (Int × Int)} {L : List HV} {x1 x2 x3 : Imp} {t : Nat} (g1 : Given w s1 Pd.v ps x1) (g2 : Given w s2 Gt.v gs x2) (g3 : Given w s3 (fun s : Int × Int => [iv s.1, iv s.2]) ss x3)
    (hl : HL w lv L) (ht : t ≤ 255) :
    Calls Try.prog 9 #[.agg #[s1, s2], s3, lv, .int .u8 t] w fun e w' => e = .returned (.bool true) ∧ Below w.heap.size w w' := by
  obtain ⟨r, H, la, lcap, hs, hrel, hdom, hn, himp, rl, sl, hsl, hat, hro⟩ := imports_hoursR (P := Try.prog) [x1, x2, x3] hl (by
    intro x hx i u hu
    simp at hx
    rcases hx with rfl | rfl | rfl
    · exact g1.ok i u hu
    · exact g2.ok i u hu
    · exact g3.ok i u hu)
  have hn : 3 < H.next := hn
  obtain ⟨a1, c1, r1, l1⟩ := g1.rel (himp 0 x1 rfl).1 (by omega) (himp 0 x1 rfl).2
  obtain ⟨a2, c2, r2, l2⟩ := g2.rel (himp 1 x2 rfl).1 (by omega) (himp 1 x2 rfl).2
  obtain ⟨a3, c3, r3, l3⟩ := g3.rel (himp 2 x3 rfl).1 (by omega) (himp 2 x3 rfl).2
  let c : Ch := ⟨a1, ps.length, c1, a2, gs.length, c2, a3, ss.length, c3, ps, gs, ss⟩
  have hc : c.At H := ⟨l1, l2, l3, rfl, rfl, rfl⟩
  obtain ⟨H', hf⟩ := law_split (kn := fun f => bif Nat.beq f 15 then some true else none) (lo := H.next) (q := ⟨c, la, L.length, lcap, hs⟩) (cut := t) rfl ht hc sl hro hsl hat (Nat.le_refl _)
  refine open_call alive.mixed alive.noCount alive.known hrel hdom ?_ hf
  have two : ∀ {a b a' b' : Value}, VR r a a' → VR r b b' → VR r (.agg #[a, b]) (.agg #[a', b']) := fun h1 h2 => .agg rfl fun i u u' e e' => by
    match i with
    | 0 => cases e; cases e'; exact h1
    | 1 => cases e; cases e'; exact h2
    | _ + 2 => cases e
  exact .cons (two r1 r2) (.cons r3 (.cons rl (.cons (.int _ _) .nil)))
theorem all_below {H : Type} {enc : TypeId × Value → H} {P : Program} (hl : laidOutB P = true) {W W' : World} (hb : Below W.heap.size W W') {sp : Nat → Bool} : ∀ {ts : List TypeId} {vs : List Value} {ds : List (DataW H)} {ps : List MemPlace},
    (ts.all fun t => P.readableRec t && decide (t < P.types.size)) = true → (∀ x ∈ ps, x.block < W.heap.size) → (∀ x ∈ ps, sp x.block = true) → DataW.TrodAll enc P W 0 (fun _ => true) true ts vs ds ps → DataW.TrodAll enc P W' 0 sp true ts vs ds ps
  | [], _, _, _, _, _, _, h => by
    obtain ⟨rfl, rfl, rfl⟩ := trodAll_nil h
    exact rfl
  | t :: ts, _, _, _, ht, hlt, hsp, h => by
    obtain ⟨v, vs1, d, ds1, a, b, rfl, rfl, rfl, h1, h2⟩ := trodAll_cons h
    simp only [List.all_cons, Bool.and_eq_true, decide_eq_true_eq] at ht
    exact ⟨a, b, WideElems.Trod_stays hl ht.1.1 ht.1.2 h1 (fun x hx => hb.same (hlt x (List.mem_append.2 (.inl hx)))) (fun x hx => hsp x (List.mem_append.2 (.inl hx))),
      all_below hl hb ht.2 (fun x hx => hlt x (List.mem_append.2 (.inr hx))) (fun x hx => hsp x (List.mem_append.2 (.inr hx))) h2, rfl⟩

/-- The last step of a row without variables, where the call leaves what lay below as it was and makes a plain value. -/
theorem post_args {H : Type} {enc : TypeId × Value → H} {P : Program} {f : Func} {s : ChangeSpec} {apart fresh handsOn again : Bool} {W W' : World} {args : Array Value} {v : Value} {ds gs : List (DataW H)} {before : List MemPlace}
    (hl : laidOutB P = true) (hts : (f.params.toList.all fun t => P.readableRec t && decide (t < P.types.size)) = true)
    (hW : DataW.Whole enc P f.params.toList s.vars apart W args.toList ds gs before) (hA : DataW.TrodAll enc P W 0 (fun _ => true) true f.params.toList args.toList ds before)
    (hres : ∀ (b : Nat) (sp : Nat → Bool) (hd : Bool), DataW.TrodAll enc P W' b sp hd f.resultTypes.toList (v.resultList f.resultTypes.size) (s.fn H (ds ++ gs)).results [])
    (hargs : (s.fn H (ds ++ gs)).args = ds) (hvars : ∀ sp : Nat → Bool, DataW.TrodVars enc P W' sp s.vars (s.fn H (ds ++ gs)).vars [])
    (hb : Below W.heap.size W W')
    (hok : ∀ (j : Nat) (t : TypeId) (r : Value), f.resultTypes[j]? = some t → (v.resultList f.resultTypes.size)[j]? = some r → Value.okWide P W' .any 0 t r) :
    s.post enc P f apart fresh handsOn again W args v W' := by
  have hlt : ∀ p ∈ before, p.block < W.heap.size := fun p hp => hW.lt p hp
  have key : ∀ sp : Nat → Bool, (∀ p ∈ before, sp p.block = true) → DataW.TrodAll enc P W' 0 sp true f.params.toList args.toList (s.fn H (ds ++ gs)).args before := fun sp hsp => by
    rw [hargs]; exact all_below hl hb hts hlt hsp hA
  refine ⟨ds, gs, before, [], before, [], hW, hres _ _ _, key _ (fun p hp => by simpa using hlt p hp), hvars _, World.keptBut_mono (fun p hp => ⟨hp, by simpa using hp⟩) (hb.frame (· ∈ before)), fun _ => ?_⟩
  obtain ⟨_, _, _, _, _, hz, hn⟩ := hW
  refine ⟨hok, _, _, [] ++ before ++ [], ⟨[] ++ before, [], trodAll_append (key _ (fun _ _ => rfl)) (hres _ _ _), hvars _, rfl, fun b off hp => ?_, fun ha => by simpa using hn ha⟩, fun p hp _ => by simpa using hp⟩
  have hin : MemPlace.cell b off ∈ before := by simpa using hp
  rw [hb.frozen (hlt _ hin)]
  exact hz b off hin

set_option maxRecDepth 100000 in
theorem lifted (os : Os) (started : os.Started) (H : Type) (enc : TypeId × Value → H) :
    ReturnsInHanded {} Try.checked os 9 .any (Rows.chainSplitSpec.pre6 enc Try.prog Try.f9 Rows.chainSplitRow.domain false) (Rows.chainSplitSpec.post enc Try.prog Try.f9 false true false false) := by
  refine returnsInHanded_of_change (C := Try.checked) own started (by kernel_rfl) Try.func9
    (ChangeSpec.witness6 (enc := enc) (C := Try.checked) false ⟨#[], #[.agg #[.slice none 0 0, .slice none 0 0], .slice none 0 0, .slice none 0 0, .int .u8 0], []⟩ 8 (by kernel_rfl) (by kernel_rfl) (by kernel_rfl) (by kernel_rfl)) ?_
  intro W base args ds gs before hval0 hW hcnd _
  have hW' := hW
  obtain ⟨p, q, hA0, hV, rfl, hfz, hnd⟩ := hW
  obtain ⟨rfl, rfl⟩ := trodVars_none hV
  have hA : DataW.TrodAll enc Try.prog W 0 (fun _ => true) true [(25 : Nat), (26 : Nat), (47 : Nat), (5 : Nat)] args.toList ds p := by
    have := hA0
    rw [Try.params9] at this
    exact this
  obtain ⟨v1, vs1, d1, ds1, p1, q1, e1, rfl, rfl, h1, hA⟩ := trodAll_cons hA
  obtain ⟨v2, vs2, d2, ds2, p2, q2, rfl, rfl, rfl, h2, hA⟩ := trodAll_cons hA
  obtain ⟨v3, vs3, d3, ds3, p3, q3, rfl, rfl, rfl, h3, hA⟩ := trodAll_cons hA
  obtain ⟨v4, vs4, d4, ds4, p4, q4, rfl, rfl, rfl, h4, hA⟩ := trodAll_cons hA
  obtain ⟨rfl, rfl, rfl⟩ := trodAll_nil hA
  obtain rfl : args = #[v1, v2, v3, v4] := by
    rw [← Array.toList_inj]; exact e1
  have o1 : Value.okWide Try.prog W .any base (25 : Nat) v1 := hval0 0 25 v1 (by rw [Try.params9]; rfl) rfl
  have o2 : Value.okWide Try.prog W .any base (26 : Nat) v2 := hval0 1 26 v2 (by rw [Try.params9]; rfl) rfl
  have o3 : Value.okWide Try.prog W .any base (47 : Nat) v3 := hval0 2 47 v3 (by rw [Try.params9]; rfl) rfl
  have o4 : Value.okWide Try.prog W .any base (5 : Nat) v4 := hval0 3 5 v4 (by rw [Try.params9]; rfl) rfl
  obtain ⟨s1, s2, ps, gs, x1, x2, rfl, g1, g2⟩ := open_c o1 h1
  obtain ⟨ss, x3, g3⟩ := open_w o2 h2
  obtain ⟨L, hl⟩ := open_l o3 h3
  obtain ⟨n, rfl, _, _, hwf⟩ := open_int Try.underlying5 o4 h4
  have hr : 0 ≤ n ∧ n ≤ 255 := by
    simp [Lit.wf, IntKind.min, IntKind.max, IntKind.signed, IntKind.bits] at hwf
    omega
  obtain ⟨t, rfl⟩ : ∃ t : Nat, n = (t : Int) := ⟨n.toNat, by omega⟩
  refine (call g1 g2 g3 hl (t := t) (by omega)).mono fun e W' ⟨he, hbw⟩ => ?_
  subst he
  refine ⟨_, rfl, post_args laid (by rw [Try.params9]; kernel_rfl) hW' (by simpa using hA0) (fun _ _ _ => trodAll_mk1 (shut_bool Try.underlying4 _)) rfl (fun _ => rfl) hbw (ok_one (by kernel_rfl) rfl (okWide_bool_mk Try.underlying4 _))⟩

theorem holds : Rows.ChainSplitSaid :=
  OpenClaim.holds_of_wide 9 Try.f9 rfl rfl rfl rfl rfl rfl rfl ⟨rfl, rfl, rfl, rfl, rfl⟩ rfl rfl rfl rfl rfl (by kernel_rfl) Try.func9 (by kernel_rfl)
    (of_decide_eq_true (by kernel_rfl)) (by unfold Func.isWrapper; first | (rw [if_pos (by decide +kernel)]; kernel_rfl) | (rw [if_neg (by decide +kernel)]; exact ⟨rfl, rfl⟩))
    (fun os started H enc _ => lifted os started H enc)
end Go.Proofs.Ytfdapdcfnognfaa.chainSplit

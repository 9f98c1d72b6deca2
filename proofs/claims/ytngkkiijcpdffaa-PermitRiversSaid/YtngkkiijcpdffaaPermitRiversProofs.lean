/-
  Proved here: whatever the input,the law PermitRivers returns true and leaves what it was given as it was. Conditions: none beyond the row's own.
  The call is worked out for all inputs,whatever is drawn (the texts Ax .. AxM9,AxQ,AxC,AxR,S0 .. T6,K1 .. K13),the document's examples too.
-/
import Derived.Test.YtngkkiijcpdffaaRows
import Derived.Test.YtngkkiijcpdffaaMf
import Derived.ProofKit
import Derived.Below
import Derived.Carry
import Derived.ChangeSame
set_option linter.all false
namespace Go.Proofs.Ytngkkiijcpdffaa.permitRivers
open Go.Proofs.Ytngkkiijcpdffaa
open Go.ChangeShapes Go.WideShapes Go.ChangeAt Go.RowKit Go.Ax Go.Deep

theorem own:ownKnob Try.prog.godebug=none:=by kernel_rfl
theorem laid:laidOutB Try.prog=true:=by kernel_rfl

theorem ZbX {P:Program} {w:World} {r:Reach} {b:Nat} {t e:TypeId} {v:Value} (ht:P.underlying t=some (.slice e)) (h:Value.okWide P w r b t v):Cell.okWide P w r b t v:=by
  unfold Value.okWide at h;rw [ht] at h;exact h
theorem Jf {P : Program} {w : World} {r : Reach} {b : Nat} {t : TypeId} {v : Value} {fs : Array Field} {us : List TypeId} (ht : P.underlying t = some (.struct fs)) (hc : P.cellTypes P.depth t = some us) (h : Value.okWide P w r b t v) :
    ∃ cs, v = .agg cs ∧ cs.size = P.cellsOf t ∧ ∀ i u, cs[i]? = some u → ∃ a, us[i % us.length]? = some a ∧ Cell.okWide P w r b a u := by
  unfold Value.okWide at h; rw [ht] at h
  obtain ⟨cs, e, hsz, ts, hts, _, hall⟩ := h
  rw [hc] at hts
  cases hts
  exact ⟨cs, e, hsz, hall⟩

theorem Z5 {P:Program} {w:World} {r:Reach} {b:Nat} {t:TypeId} {k:IntKind} {v:Value} (ht:P.underlying t=some (.int k)) (h:Cell.okWide P w r b t v):∃ n,v=.int k n:=
  Go.WideShapes.okWide_int (base:=b) ht (by unfold Value.okWide;rw [ht];exact h)
theorem i3:K8 Try.prog 3:=.int Try.underlying3 (by kernel_rfl)
theorem i31:K8 Try.prog 31:=.struct Try.underlying31 (by intro f hf;simp at hf;rcases hf with rfl | rfl<;>first | exact i3 | exact i31) (by kernel_rfl)
theorem ZeK:Try.prog.cellTypes Try.prog.depth 33=some [3,3,3,3]:=by kernel_rfl
set_option maxRecDepth 100000 in
theorem ZaN {H:Type} {enc:TypeId × Value→H} {w:World} {base:Nat} {v:Value} {d:DataW H} {p:List MemPlace} (hv:Value.okWide Try.prog w .any base (33:Nat) v) (h:DataW.Trod enc Try.prog w 0 (fun _=>true) true (33:Nat) v d p):∃ n1 n2 n3 n4:Int,v=.agg #[iv n1,iv n2,iv n3,iv n4]:=by
  obtain ⟨cs,rfl,hsz,hall⟩:=Jf Try.underlying33 ZeK hv
  have h2:cs.size=4:=hsz.trans (by kernel_rfl)
  obtain ⟨l⟩:=cs
  match l,h2 with
  | [s1,s2,s3,s4],_=>
    obtain ⟨u1,hu1,o1⟩:=hall 0 s1 rfl
    obtain ⟨u2,hu2,o2⟩:=hall 1 s2 rfl
    obtain ⟨u3,hu3,o3⟩:=hall 2 s3 rfl
    obtain ⟨u4,hu4,o4⟩:=hall 3 s4 rfl
    cases hu1
    cases hu2
    cases hu3
    cases hu4
    obtain ⟨n1,rfl⟩:=Z5 Try.underlying3 o1
    obtain ⟨n2,rfl⟩:=Z5 Try.underlying3 o2
    obtain ⟨n3,rfl⟩:=Z5 Try.underlying3 o3
    obtain ⟨n4,rfl⟩:=Z5 Try.underlying3 o4
    exact ⟨n1,n2,n3,n4,rfl⟩
theorem ZeI:Try.prog.cellTypes Try.prog.depth 35=some [3,3,3,3,3,3,3,3,3,3]:=by kernel_rfl
set_option maxRecDepth 100000 in
theorem ZcH {H:Type} {enc:TypeId × Value→H} {w:World} {base:Nat} {v:Value} {d:DataW H} {p:List MemPlace} (hv:Value.okWide Try.prog w .any base (35:Nat) v) (h:DataW.Trod enc Try.prog w 0 (fun _=>true) true (35:Nat) v d p):∃ n1 n2 n3 n4 n5 n6 n7 n8 n9 n10:Int,v=.agg #[iv n1,iv n2,iv n3,iv n4,iv n5,iv n6,iv n7,iv n8,iv n9,iv n10]:=by
  obtain ⟨cs,rfl,hsz,hall⟩:=Jf Try.underlying35 ZeI hv
  have h2:cs.size=10:=hsz.trans (by kernel_rfl)
  obtain ⟨l⟩:=cs
  match l,h2 with
  | [s1,s2,s3,s4,s5,s6,s7,s8,s9,s10],_=>
    obtain ⟨u1,hu1,o1⟩:=hall 0 s1 rfl
    obtain ⟨u2,hu2,o2⟩:=hall 1 s2 rfl
    obtain ⟨u3,hu3,o3⟩:=hall 2 s3 rfl
    obtain ⟨u4,hu4,o4⟩:=hall 3 s4 rfl
    obtain ⟨u5,hu5,o5⟩:=hall 4 s5 rfl
    obtain ⟨u6,hu6,o6⟩:=hall 5 s6 rfl
    obtain ⟨u7,hu7,o7⟩:=hall 6 s7 rfl
    obtain ⟨u8,hu8,o8⟩:=hall 7 s8 rfl
    obtain ⟨u9,hu9,o9⟩:=hall 8 s9 rfl
    obtain ⟨u10,hu10,o10⟩:=hall 9 s10 rfl
    cases hu1
    cases hu2
    cases hu3
    cases hu4
    cases hu5
    cases hu6
    cases hu7
    cases hu8
    cases hu9
    cases hu10
    obtain ⟨n1,rfl⟩:=Z5 Try.underlying3 o1
    obtain ⟨n2,rfl⟩:=Z5 Try.underlying3 o2
    obtain ⟨n3,rfl⟩:=Z5 Try.underlying3 o3
    obtain ⟨n4,rfl⟩:=Z5 Try.underlying3 o4
    obtain ⟨n5,rfl⟩:=Z5 Try.underlying3 o5
    obtain ⟨n6,rfl⟩:=Z5 Try.underlying3 o6
    obtain ⟨n7,rfl⟩:=Z5 Try.underlying3 o7
    obtain ⟨n8,rfl⟩:=Z5 Try.underlying3 o8
    obtain ⟨n9,rfl⟩:=Z5 Try.underlying3 o9
    obtain ⟨n10,rfl⟩:=Z5 Try.underlying3 o10
    exact ⟨n1,n2,n3,n4,n5,n6,n7,n8,n9,n10,rfl⟩
theorem ZeR {α : Type} {w : World} {v : Value} {f : α → List Value} {l : List α} {x : Imp} (g : Zbc w v f l x) {r : Ren} {H : Hp} {b : Nat} (h : b < H.next ∧ r b = some ⟨x.blk, x.off, none⟩ ∧ H.t.get b = some (.ro x.cs)) :
    ∃ a cap, VR r (.slice a l.length cap) v ∧ Sl H a l.length cap (l.flatMap f) ∧ ∀ b, a = some ⟨b, 0, none⟩ → Fx H b (l.flatMap f) := by
  obtain ⟨hb, hr, hc⟩ := h
  obtain ⟨a, cap, h1, h2, h3⟩ := g.rel hr hb (by unfold cellsOf; rw [hc]) hc
  exact ⟨a, cap, h1, h2, fun b' e => ⟨h2.old b' e, .inl (h3 b' e)⟩⟩
theorem call {w : World} {g11 g12 g13 g14 : Int} {g21 g22 g23 g24 : Int} {y3 : Int} {p41 p42 p43 p44 p45 p46 p47 p48 p49 p410 : Int} :
    Calls Try.prog 4 #[.agg #[iv g11, iv g12, iv g13, iv g14], .agg #[iv g21, iv g22, iv g23, iv g24], iv y3, .agg #[iv p41, iv p42, iv p43, iv p44, iv p45, iv p46, iv p47, iv p48, iv p49, iv p410]] w fun e w' => e = .returned (.bool true) ∧ Below w.heap.size w w' := by
  obtain ⟨r, H, hrel, hr, himp⟩ := KJ (P := Try.prog) [] (w := w) (by intro x hx; cases hx)
  obtain ⟨H', hf⟩ : ∃ H', FnX Try.prog ⟨fun _ => none, fun _ _ _ _ => none⟩ H.next 4 [.agg #[iv g11, iv g12, iv g13, iv g14], .agg #[iv g21, iv g22, iv g23, iv g24], iv y3, .agg #[iv p41, iv p42, iv p43, iv p44, iv p45, iv p46, iv p47, iv p48, iv p49, iv p410]] H (.bool true) H' := yl (kn := ⟨fun _ => none, fun _ _ _ _ => none⟩) (lo := H.next) (H := H) (fun _ => rfl) (a := ⟨g11, g12, g13, g14⟩) (b := ⟨g21, g22, g23, g24⟩) (x := ⟨p41, p42, p43, p44, p45, p46, p47, p48, p49, p410⟩) (limit := y3) (Nat.le_refl _)
  refine qW alive.mixed alive.noCount alive.known hrel hr ?_ hf
  exact (.cons (.agg rfl fun i u u' e e' => by
    match i with
    | 0 => cases e; cases e'; exact .int _ _
    | 1 => cases e; cases e'; exact .int _ _
    | 2 => cases e; cases e'; exact .int _ _
    | 3 => cases e; cases e'; exact .int _ _
    | _ + 4 => cases e) (.cons (.agg rfl fun i u u' e e' => by
    match i with
    | 0 => cases e; cases e'; exact .int _ _
    | 1 => cases e; cases e'; exact .int _ _
    | 2 => cases e; cases e'; exact .int _ _
    | 3 => cases e; cases e'; exact .int _ _
    | _ + 4 => cases e) (.cons (.int _ _) (.cons (.agg rfl fun i u u' e e' => by
    match i with
    | 0 => cases e; cases e'; exact .int _ _
    | 1 => cases e; cases e'; exact .int _ _
    | 2 => cases e; cases e'; exact .int _ _
    | 3 => cases e; cases e'; exact .int _ _
    | 4 => cases e; cases e'; exact .int _ _
    | 5 => cases e; cases e'; exact .int _ _
    | 6 => cases e; cases e'; exact .int _ _
    | 7 => cases e; cases e'; exact .int _ _
    | 8 => cases e; cases e'; exact .int _ _
    | 9 => cases e; cases e'; exact .int _ _
    | _ + 10 => cases e) .nil))))
theorem J0 {H : Type} {enc : TypeId × Value → H} {P : Program} (hl : laidOutB P = true) {W W' : World} (hb : Below W.heap.size W W') {sp : Nat → Bool} : ∀ {ts : List TypeId} {vs : List Value} {ds : List (DataW H)} {ps : List MemPlace},
    (ts.all fun t => P.readableRec t && decide (t < P.types.size)) = true → (∀ x ∈ ps, x.block < W.heap.size) → (∀ x ∈ ps, sp x.block = true) → DataW.TrodAll enc P W 0 (fun _ => true) true ts vs ds ps → DataW.TrodAll enc P W' 0 sp true ts vs ds ps
  | [], _, _, _, _, _, _, h => by
    obtain ⟨rfl, rfl, rfl⟩ := trodAll_nil h
    exact rfl
  | t :: ts, _, _, _, ht, hlt, hsp, h => by
    obtain ⟨v, vs1, d, ds1, a, b, rfl, rfl, rfl, h1, h2⟩ := trodAll_cons h
    simp only [List.all_cons, Bool.and_eq_true, decide_eq_true_eq] at ht
    exact ⟨a, b, WideElems.Trod_stays hl ht.1.1 ht.1.2 h1 (fun x hx => hb.same (hlt x (List.mem_append.2 (.inl hx)))) (fun x hx => hsp x (List.mem_append.2 (.inl hx))),
      J0 hl hb ht.2 (fun x hx => hlt x (List.mem_append.2 (.inr hx))) (fun x hx => hsp x (List.mem_append.2 (.inr hx))) h2, rfl⟩

/-- The last step of a row without variables,where the call leaves what lay below as it was and makes a plain value. -/
theorem jK {H : Type} {enc : TypeId × Value → H} {P : Program} {f : Func} {s : ChangeSpec} {apart fresh handsOn again : Bool} {W W' : World} {args : Array Value} {v : Value} {ds gs : List (DataW H)} {before : List MemPlace}
    (hl : laidOutB P = true) (hts : (f.params.toList.all fun t => P.readableRec t && decide (t < P.types.size)) = true)
    (hW : DataW.Whole enc P f.params.toList s.vars apart W args.toList ds gs before) (hA : DataW.TrodAll enc P W 0 (fun _ => true) true f.params.toList args.toList ds before)
    (hres : ∀ (b : Nat) (sp : Nat → Bool) (hd : Bool), DataW.TrodAll enc P W' b sp hd f.resultTypes.toList (v.resultList f.resultTypes.size) (s.fn H (ds ++ gs)).results [])
    (hargs : (s.fn H (ds ++ gs)).args = ds) (hvars : ∀ sp : Nat → Bool, DataW.TrodVars enc P W' sp s.vars (s.fn H (ds ++ gs)).vars [])
    (hb : Below W.heap.size W W')
    (hok : ∀ (j : Nat) (t : TypeId) (r : Value), f.resultTypes[j]? = some t → (v.resultList f.resultTypes.size)[j]? = some r → Value.okWide P W' .any 0 t r) :
    s.post enc P f apart fresh handsOn again W args v W' := by
  have hlt : ∀ p ∈ before, p.block < W.heap.size := fun p hp => hW.lt p hp
  have key : ∀ sp : Nat → Bool, (∀ p ∈ before, sp p.block = true) → DataW.TrodAll enc P W' 0 sp true f.params.toList args.toList (s.fn H (ds ++ gs)).args before := fun sp hsp => by
    rw [hargs]; exact J0 hl hb hts hlt hsp hA
  refine ⟨ds, gs, before, [], before, [], hW, hres _ _ _, key _ (fun p hp => by simpa using hlt p hp), hvars _, World.keptBut_mono (fun p hp => ⟨hp, by simpa using hp⟩) (hb.frame (· ∈ before)), fun _ => ?_⟩
  obtain ⟨_, _, _, _, _, hz, hn⟩ := hW
  refine ⟨hok, _, _, [] ++ before ++ [], ⟨[] ++ before, [], trodAll_append (key _ (fun _ _ => rfl)) (hres _ _ _), hvars _, rfl, fun b off hp => ?_, fun ha => by simpa using hn ha⟩, fun p hp _ => by simpa using hp⟩
  have hin : MemPlace.cell b off ∈ before := by simpa using hp
  rw [hb.frozen (hlt _ hin)]
  exact hz b off hin

set_option maxHeartbeats 4000000 in
set_option maxRecDepth 100000 in
theorem lifted (os : Os) (started : os.Started) (H : Type) (enc : TypeId × Value → H) :
    ReturnsInHanded {} Try.checked os 4 .any (Rows.permitRiversSpec.pre6 enc Try.prog Try.f4 Rows.permitRiversRow.domain false) (Rows.permitRiversSpec.post enc Try.prog Try.f4 false true false false) := by
  refine returnsInHanded_of_change (C := Try.checked) own started (by kernel_rfl) Try.func4
    (ChangeSpec.witness6 (enc := enc) (C := Try.checked) false ⟨#[], #[.agg #[.int .i64 0, .int .i64 0, .int .i64 0, .int .i64 0], .agg #[.int .i64 0, .int .i64 0, .int .i64 0, .int .i64 0], .int .i64 0, .agg #[.int .i64 0, .int .i64 0, .int .i64 0, .int .i64 0, .int .i64 0, .int .i64 0, .int .i64 0, .int .i64 0, .int .i64 0, .int .i64 0]], []⟩ 8 (by kernel_rfl) (by kernel_rfl) (by kernel_rfl) (by kernel_rfl)) ?_
  intro W base args ds gs before hval0 hW hcnd _
  have hW' := hW
  obtain ⟨p, q, hA0, hV, rfl, hfz, hnd⟩ := hW
  obtain ⟨rfl, rfl⟩ := trodVars_none hV
  have hA : DataW.TrodAll enc Try.prog W 0 (fun _ => true) true [(33 : Nat), (33 : Nat), (3 : Nat), (35 : Nat)] args.toList ds p := by
    have := hA0
    rw [Try.params4] at this
    exact this
  obtain ⟨v1, vs1, d1, ds1, p1, pq1, e1, rfl, rfl, h1, hA⟩ := trodAll_cons hA
  obtain ⟨v2, vs2, d2, ds2, p2, pq2, rfl, rfl, rfl, h2, hA⟩ := trodAll_cons hA
  obtain ⟨v3, vs3, d3, ds3, p3, pq3, rfl, rfl, rfl, h3, hA⟩ := trodAll_cons hA
  obtain ⟨v4, vs4, d4, ds4, p4, pq4, rfl, rfl, rfl, h4, hA⟩ := trodAll_cons hA
  obtain ⟨rfl, rfl, rfl⟩ := trodAll_nil hA
  obtain rfl : args = #[v1, v2, v3, v4] := by
    rw [← Array.toList_inj]; exact e1
  have o1 : Value.okWide Try.prog W .any base (33 : Nat) v1 := hval0 0 33 v1 (by rw [Try.params4]; rfl) rfl
  have o2 : Value.okWide Try.prog W .any base (33 : Nat) v2 := hval0 1 33 v2 (by rw [Try.params4]; rfl) rfl
  have o3 : Value.okWide Try.prog W .any base (3 : Nat) v3 := hval0 2 3 v3 (by rw [Try.params4]; rfl) rfl
  have o4 : Value.okWide Try.prog W .any base (35 : Nat) v4 := hval0 3 35 v4 (by rw [Try.params4]; rfl) rfl
  obtain ⟨g11, g12, g13, g14, rfl⟩ := ZaN o1 h1
  obtain ⟨g21, g22, g23, g24, rfl⟩ := ZaN o2 h2
  obtain ⟨y3, rfl, _, _, _⟩ := open_int Try.underlying3 o3 h3
  obtain ⟨p41, p42, p43, p44, p45, p46, p47, p48, p49, p410, rfl⟩ := ZcH o4 h4
  refine (call (g11 := g11) (g12 := g12) (g13 := g13) (g14 := g14) (g21 := g21) (g22 := g22) (g23 := g23) (g24 := g24) (y3 := y3) (p41 := p41) (p42 := p42) (p43 := p43) (p44 := p44) (p45 := p45) (p46 := p46) (p47 := p47) (p48 := p48) (p49 := p49) (p410 := p410) ).mono fun e W' ⟨he, hb⟩ => ?_
  subst he
  refine ⟨_, rfl, jK laid (by rw [Try.params4]; kernel_rfl) hW' (by simpa using hA0) (fun _ _ _ => trodAll_mk1 (shut_bool Try.underlying4 _)) rfl (fun _ => rfl) hb (ok_one (by kernel_rfl) rfl (okWide_bool_mk Try.underlying4 _))⟩

theorem holds:Rows.PermitRiversSaid:=
  OpenClaim.holds_of_wide 4 Try.f4 rfl rfl rfl rfl rfl rfl rfl ⟨rfl,rfl,rfl,rfl,rfl⟩ rfl rfl rfl rfl rfl (by kernel_rfl) Try.func4 (by kernel_rfl)
    (of_decide_eq_true (by kernel_rfl)) (by unfold Func.isWrapper;first | (rw [if_pos (by decide +kernel)];kernel_rfl) | (rw [if_neg (by decide +kernel)];exact ⟨rfl,rfl⟩))
    (fun os started H enc _=>lifted os started H enc)
end Go.Proofs.Ytngkkiijcpdffaa.permitRivers

/-
  Proved here: whatever the input,the law QuotaCrops returns true and leaves what it was given as it was. Conditions: none beyond the row's own.
  The call is worked out for all inputs,whatever is drawn (the texts Ax .. AxM8,AxR,S0 .. S6,T0 .. T6,K1 ..),the document's examples too (Alive).
-/
import Derived.Test.YtobbfhkodccclaaRows
import Derived.Test.YtobbfhkodccclaaMh
import Derived.ProofKit
import Derived.Below
import Derived.Carry
import Derived.ChangeSame
set_option linter.all false
namespace Go.Proofs.Ytobbfhkodccclaa.quotaCrops
open Go.Proofs.Ytobbfhkodccclaa
open Go.ChangeShapes Go.WideShapes Go.ChangeAt Go.RowKit Go.Ax Go.Deep

theorem own:ownKnob Try.prog.godebug=none:=by kernel_rfl
theorem laid:laidOutB Try.prog=true:=by kernel_rfl

theorem jI {P:Program} {w:World} {r:Reach} {b:Nat} {t e:TypeId} {v:Value} (ht:P.underlying t=some (.slice e)) (h:Value.okWide P w r b t v):Cell.okWide P w r b t v:=by
  unfold Value.okWide at h;rw [ht] at h;exact h
theorem Zay {P : Program} {w : World} {r : Reach} {b : Nat} {t : TypeId} {v : Value} {fs : Array Field} {us : List TypeId} (ht : P.underlying t = some (.struct fs)) (hc : P.cellTypes P.depth t = some us) (h : Value.okWide P w r b t v) :
    ∃ cs, v = .agg cs ∧ cs.size = P.cellsOf t ∧ ∀ i u, cs[i]? = some u → ∃ a, us[i % us.length]? = some a ∧ Cell.okWide P w r b a u := by
  unfold Value.okWide at h; rw [ht] at h
  obtain ⟨cs, e, hsz, ts, hts, _, hall⟩ := h
  rw [hc] at hts
  cases hts
  exact ⟨cs, e, hsz, hall⟩

theorem Vz {P:Program} {w:World} {r:Reach} {b:Nat} {t:TypeId} {k:IntKind} {v:Value} (ht:P.underlying t=some (.int k)) (h:Cell.okWide P w r b t v):∃ n,v=.int k n:=
  Go.WideShapes.okWide_int (base:=b) ht (by unfold Value.okWide;rw [ht];exact h)
theorem i3:zY Try.prog 3:=.int Try.underlying3 (by kernel_rfl)
theorem i52:zY Try.prog 52:=.struct Try.underlying52 (by intro f hf;simp at hf;rcases hf with rfl | rfl | rfl<;>exact i3) (by kernel_rfl)
set_option maxRecDepth 100000 in
theorem Zhn {H:Type} {enc:TypeId × Value→H} {w:World} {base:Nat} {v:Value} {d:DataW H} {p:List MemPlace} (hv:Value.okWide Try.prog w .any base (22:Nat) v) (h:DataW.Trod enc Try.prog w 0 (fun _=>true) true (22:Nat) v d p):∃ (us:List Cp) (x:Imp),yA w v Cp.f us x:=by
  obtain ⟨fuel,h⟩:=h
  obtain ⟨a,len,cap,rfl⟩:=okWide_slice Try.underlying22 hv
  exact jH Cp.f (fun N=>⟨N 0,N 1,N 2⟩) 3 Try.underlying22 i52 (by kernel_rfl) (by decide) (fun _=>rfl) (jI Try.underlying22 hv) h
theorem Zj8:Try.prog.cellTypes Try.prog.depth 24=some [3,3,3,3]:=by kernel_rfl
set_option maxRecDepth 100000 in
theorem ZgF {H:Type} {enc:TypeId × Value→H} {w:World} {base:Nat} {v:Value} {d:DataW H} {p:List MemPlace} (hv:Value.okWide Try.prog w .any base (24:Nat) v) (h:DataW.Trod enc Try.prog w 0 (fun _=>true) true (24:Nat) v d p):∃ n1 n2 n3 n4:Int,v=.agg #[iv n1,iv n2,iv n3,iv n4]:=by
  obtain ⟨cs,rfl,hsz,hall⟩:=Zay Try.underlying24 Zj8 hv
  have h2:cs.size=4:=hsz.trans (by kernel_rfl)
  obtain ⟨l⟩:=cs
  match l,h2 with
  | [s1,s2,s3,s4],_=>
    obtain ⟨u1,hu1,o1⟩:=hall 0 s1 rfl
    obtain ⟨u2,hu2,o2⟩:=hall 1 s2 rfl
    obtain ⟨u3,hu3,o3⟩:=hall 2 s3 rfl
    obtain ⟨u4,hu4,o4⟩:=hall 3 s4 rfl
    cases hu1
    cases hu2
    cases hu3
    cases hu4
    obtain ⟨n1,rfl⟩:=Vz Try.underlying3 o1
    obtain ⟨n2,rfl⟩:=Vz Try.underlying3 o2
    obtain ⟨n3,rfl⟩:=Vz Try.underlying3 o3
    obtain ⟨n4,rfl⟩:=Vz Try.underlying3 o4
    exact ⟨n1,n2,n3,n4,rfl⟩
theorem Zke {α : Type} {w : World} {v : Value} {f : α → List Value} {l : List α} {x : Imp} (g : yA w v f l x) {r : Ren} {H : Hp} {b : Nat} (h : b < H.next ∧ r b = some ⟨x.blk, x.off, none⟩ ∧ H.t.get b = some (.ro x.cs)) :
    ∃ a cap, VR r (.slice a l.length cap) v ∧ Sl H a l.length cap (l.flatMap f) ∧ ∀ b, a = some ⟨b, 0, none⟩ → Fx H b (l.flatMap f) := by
  obtain ⟨hb, hr, hc⟩ := h
  obtain ⟨a, cap, h1, h2, h3⟩ := g.rel hr hb (by unfold cellsOf; rw [hc]) hc
  exact ⟨a, cap, h1, h2, fun b' e => ⟨h2.old b' e, .inl (h3 b' e)⟩⟩
theorem call {w : World} {v1 : Value} {us1 : List Cp} {x1 : Imp} (q1 : yA w v1 Cp.f us1 x1) {g21 g22 g23 g24 : Int} {y3 : Int} (hy3 : 0 ≤ y3 ∧ y3 ≤ 255) {y4 : Int} (hy4 : 0 ≤ y4 ∧ y4 ≤ 255) {y5 : Int} (hy5 : 0 ≤ y5 ∧ y5 ≤ 4294967295) :
    Calls Try.prog 7 #[v1, .agg #[iv g21, iv g22, iv g23, iv g24], .int .u8 y3, .int .u8 y4, .int .u32 y5] w fun e w' => e = .returned (.bool true) ∧ Below w.heap.size w w' := by
  obtain ⟨r, H, hrel, hr, himp⟩ := qR (P := Try.prog) [x1] (w := w) (by
    intro x hx i u hu
    simp only [List.mem_cons, List.not_mem_nil, or_false] at hx
    subst hx
    exact q1.ok i u hu)
  obtain ⟨a1, c1, rv1, l1, fx1⟩ := Zke q1 (himp 0 x1 rfl)
  have l1 : Sl H a1 us1.length c1 (cpc us1) := l1
  refine zy (args := [.slice a1 us1.length c1, .agg #[iv g21, iv g22, iv g23, iv g24], .int .u8 y3, .int .u8 y4, .int .u32 y5]) hrel hr ?_ (Zcu (kn := ⟨fun f => bif Nat.beq f 10 then some true else none, fun _ _ _ _ => none⟩) (lo := H.next) (H := H) alive.snd rfl l1 rfl (g := ⟨g21, g22, g23, g24⟩) hy3 hy4 hy5 (Nat.le_refl _))
  exact (.cons rv1 (.cons (.agg rfl fun i u u' e e' => by
    match i with
    | 0 => cases e; cases e'; exact .int _ _
    | 1 => cases e; cases e'; exact .int _ _
    | 2 => cases e; cases e'; exact .int _ _
    | 3 => cases e; cases e'; exact .int _ _
    | _ + 4 => cases e) (.cons (.int _ _) (.cons (.int _ _) (.cons (.int _ _) .nil)))))
theorem yc {H : Type} {enc : TypeId × Value → H} {P : Program} (hl : laidOutB P = true) {W W' : World} (hb : Below W.heap.size W W') {sp : Nat → Bool} : ∀ {ts : List TypeId} {vs : List Value} {ds : List (DataW H)} {ps : List MemPlace},
    (ts.all fun t => P.readableRec t && decide (t < P.types.size)) = true → (∀ x ∈ ps, x.block < W.heap.size) → (∀ x ∈ ps, sp x.block = true) → DataW.TrodAll enc P W 0 (fun _ => true) true ts vs ds ps → DataW.TrodAll enc P W' 0 sp true ts vs ds ps
  | [], _, _, _, _, _, _, h => by
    obtain ⟨rfl, rfl, rfl⟩ := trodAll_nil h
    exact rfl
  | t :: ts, _, _, _, ht, hlt, hsp, h => by
    obtain ⟨v, vs1, d, ds1, a, b, rfl, rfl, rfl, h1, h2⟩ := trodAll_cons h
    simp only [List.all_cons, Bool.and_eq_true, decide_eq_true_eq] at ht
    exact ⟨a, b, WideElems.Trod_stays hl ht.1.1 ht.1.2 h1 (fun x hx => hb.same (hlt x (List.mem_append.2 (.inl hx)))) (fun x hx => hsp x (List.mem_append.2 (.inl hx))),
      yc hl hb ht.2 (fun x hx => hlt x (List.mem_append.2 (.inr hx))) (fun x hx => hsp x (List.mem_append.2 (.inr hx))) h2, rfl⟩

/-- The last step of a row without variables,where the call leaves what lay below as it was and makes a plain value. -/
theorem ZcI {H : Type} {enc : TypeId × Value → H} {P : Program} {f : Func} {s : ChangeSpec} {apart fresh handsOn again : Bool} {W W' : World} {args : Array Value} {v : Value} {ds gs : List (DataW H)} {before : List MemPlace}
    (hl : laidOutB P = true) (hts : (f.params.toList.all fun t => P.readableRec t && decide (t < P.types.size)) = true)
    (hW : DataW.Whole enc P f.params.toList s.vars apart W args.toList ds gs before) (hA : DataW.TrodAll enc P W 0 (fun _ => true) true f.params.toList args.toList ds before)
    (hres : ∀ (b : Nat) (sp : Nat → Bool) (hd : Bool), DataW.TrodAll enc P W' b sp hd f.resultTypes.toList (v.resultList f.resultTypes.size) (s.fn H (ds ++ gs)).results [])
    (hargs : (s.fn H (ds ++ gs)).args = ds) (hvars : ∀ sp : Nat → Bool, DataW.TrodVars enc P W' sp s.vars (s.fn H (ds ++ gs)).vars [])
    (hb : Below W.heap.size W W')
    (hok : ∀ (j : Nat) (t : TypeId) (r : Value), f.resultTypes[j]? = some t → (v.resultList f.resultTypes.size)[j]? = some r → Value.okWide P W' .any 0 t r) :
    s.post enc P f apart fresh handsOn again W args v W' := by
  have hlt : ∀ p ∈ before, p.block < W.heap.size := fun p hp => hW.lt p hp
  have key : ∀ sp : Nat → Bool, (∀ p ∈ before, sp p.block = true) → DataW.TrodAll enc P W' 0 sp true f.params.toList args.toList (s.fn H (ds ++ gs)).args before := fun sp hsp => by
    rw [hargs]; exact yc hl hb hts hlt hsp hA
  refine ⟨ds, gs, before, [], before, [], hW, hres _ _ _, key _ (fun p hp => by simpa using hlt p hp), hvars _, World.keptBut_mono (fun p hp => ⟨hp, by simpa using hp⟩) (hb.frame (· ∈ before)), fun _ => ?_⟩
  obtain ⟨_, _, _, _, _, hz, hn⟩ := hW
  refine ⟨hok, _, _, [] ++ before ++ [], ⟨[] ++ before, [], trodAll_append (key _ (fun _ _ => rfl)) (hres _ _ _), hvars _, rfl, fun b off hp => ?_, fun ha => by simpa using hn ha⟩, fun p hp _ => by simpa using hp⟩
  have hin : MemPlace.cell b off ∈ before := by simpa using hp
  rw [hb.frozen (hlt _ hin)]
  exact hz b off hin

set_option maxHeartbeats 4000000 in
set_option maxRecDepth 100000 in
theorem lifted (os : Os) (started : os.Started) (H : Type) (enc : TypeId × Value → H) :
    ReturnsInHanded {} Try.checked os 7 .any (Rows.quotaCropsSpec.pre6 enc Try.prog Try.f7 Rows.quotaCropsRow.domain false) (Rows.quotaCropsSpec.post enc Try.prog Try.f7 false true false false) := by
  refine returnsInHanded_of_change (C := Try.checked) own started (by kernel_rfl) Try.func7
    (ChangeSpec.witness6 (enc := enc) (C := Try.checked) false ⟨#[], #[.slice none 0 0, .agg #[.int .i64 0, .int .i64 0, .int .i64 0, .int .i64 0], .int .u8 0, .int .u8 0, .int .u32 0], []⟩ 8 (by kernel_rfl) (by kernel_rfl) (by kernel_rfl) (by kernel_rfl)) ?_
  intro W base args ds gs before hval0 hW hcnd _
  have hW' := hW
  obtain ⟨p, q, hA0, hV, rfl, hfz, hnd⟩ := hW
  obtain ⟨rfl, rfl⟩ := trodVars_none hV
  have hA : DataW.TrodAll enc Try.prog W 0 (fun _ => true) true [(22 : Nat), (24 : Nat), (5 : Nat), (5 : Nat), (42 : Nat)] args.toList ds p := by
    have := hA0
    rw [Try.params7] at this
    exact this
  obtain ⟨v1, vs1, d1, ds1, p1, pq1, e1, rfl, rfl, h1, hA⟩ := trodAll_cons hA
  obtain ⟨v2, vs2, d2, ds2, p2, pq2, rfl, rfl, rfl, h2, hA⟩ := trodAll_cons hA
  obtain ⟨v3, vs3, d3, ds3, p3, pq3, rfl, rfl, rfl, h3, hA⟩ := trodAll_cons hA
  obtain ⟨v4, vs4, d4, ds4, p4, pq4, rfl, rfl, rfl, h4, hA⟩ := trodAll_cons hA
  obtain ⟨v5, vs5, d5, ds5, p5, pq5, rfl, rfl, rfl, h5, hA⟩ := trodAll_cons hA
  obtain ⟨rfl, rfl, rfl⟩ := trodAll_nil hA
  obtain rfl : args = #[v1, v2, v3, v4, v5] := by
    rw [← Array.toList_inj]; exact e1
  have o1 : Value.okWide Try.prog W .any base (22 : Nat) v1 := hval0 0 22 v1 (by rw [Try.params7]; rfl) rfl
  have o2 : Value.okWide Try.prog W .any base (24 : Nat) v2 := hval0 1 24 v2 (by rw [Try.params7]; rfl) rfl
  have o3 : Value.okWide Try.prog W .any base (5 : Nat) v3 := hval0 2 5 v3 (by rw [Try.params7]; rfl) rfl
  have o4 : Value.okWide Try.prog W .any base (5 : Nat) v4 := hval0 3 5 v4 (by rw [Try.params7]; rfl) rfl
  have o5 : Value.okWide Try.prog W .any base (42 : Nat) v5 := hval0 4 42 v5 (by rw [Try.params7]; rfl) rfl
  obtain ⟨us1, x1, q1⟩ := Zhn o1 h1
  obtain ⟨g21, g22, g23, g24, rfl⟩ := ZgF o2 h2
  obtain ⟨y3, rfl, _, _, wf3⟩ := open_int Try.underlying5 o3 h3
  have hy3 : 0 ≤ y3 ∧ y3 ≤ 255 := by
    simp [Lit.wf, IntKind.min, IntKind.max, IntKind.signed, IntKind.bits] at wf3
    omega
  obtain ⟨y4, rfl, _, _, wf4⟩ := open_int Try.underlying5 o4 h4
  have hy4 : 0 ≤ y4 ∧ y4 ≤ 255 := by
    simp [Lit.wf, IntKind.min, IntKind.max, IntKind.signed, IntKind.bits] at wf4
    omega
  obtain ⟨y5, rfl, _, _, wf5⟩ := open_int Try.underlying42 o5 h5
  have hy5 : 0 ≤ y5 ∧ y5 ≤ 4294967295 := by
    simp [Lit.wf, IntKind.min, IntKind.max, IntKind.signed, IntKind.bits] at wf5
    omega
  refine (call (g21 := g21) (g22 := g22) (g23 := g23) (g24 := g24) q1 hy3 hy4 hy5).mono fun e W' ⟨he, hb⟩ => ?_
  subst he
  refine ⟨_, rfl, ZcI laid (by rw [Try.params7]; kernel_rfl) hW' (by simpa using hA0) (fun _ _ _ => trodAll_mk1 (shut_bool Try.underlying4 _)) rfl (fun _ => rfl) hb (ok_one (by kernel_rfl) rfl (okWide_bool_mk Try.underlying4 _))⟩

theorem holds:Rows.QuotaCropsSaid:=
  OpenClaim.holds_of_wide 7 Try.f7 rfl rfl rfl rfl rfl rfl rfl ⟨rfl,rfl,rfl,rfl,rfl⟩ rfl rfl rfl rfl rfl (by kernel_rfl) Try.func7 (by kernel_rfl)
    (of_decide_eq_true (by kernel_rfl)) (by unfold Func.isWrapper;first | (rw [if_pos (by decide +kernel)];kernel_rfl) | (rw [if_neg (by decide +kernel)];exact ⟨rfl,rfl⟩))
    (fun os started H enc _=>lifted os started H enc)
end Go.Proofs.Ytobbfhkodccclaa.quotaCrops

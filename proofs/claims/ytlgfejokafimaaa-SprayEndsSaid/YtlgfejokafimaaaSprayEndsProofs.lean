/-
  Proved here: whatever the input,the law SprayEnds returns true and leaves what it was given as it was. Conditions: none beyond the row's own.
  The call is worked out for all inputs,whatever is drawn (the texts Ax .. AxM8,AxR,S0 .. S6,T0 .. T6,K1 ..),the document's examples too (Alive).
-/
import Derived.Test.YtlgfejokafimaaaRows
import Derived.Test.YtlgfejokafimaaaMf
import Derived.ProofKit
import Derived.Below
import Derived.Carry
import Derived.ChangeSame
set_option linter.all false
namespace Go.Proofs.Ytlgfejokafimaaa.sprayEnds
open Go.Proofs.Ytlgfejokafimaaa
open Go.ChangeShapes Go.WideShapes Go.ChangeAt Go.RowKit Go.Ax Go.Deep

theorem own:ownKnob Try.prog.godebug=none:=by kernel_rfl
theorem laid:laidOutB Try.prog=true:=by kernel_rfl

theorem z5 {P:Program} {w:World} {r:Reach} {b:Nat} {t e:TypeId} {v:Value} (ht:P.underlying t=some (.slice e)) (h:Value.okWide P w r b t v):Cell.okWide P w r b t v:=by
  unfold Value.okWide at h;rw [ht] at h;exact h
theorem ZcI {P : Program} {w : World} {r : Reach} {b : Nat} {t : TypeId} {v : Value} {fs : Array Field} {us : List TypeId} (ht : P.underlying t = some (.struct fs)) (hc : P.cellTypes P.depth t = some us) (h : Value.okWide P w r b t v) :
    ∃ cs, v = .agg cs ∧ cs.size = P.cellsOf t ∧ ∀ i u, cs[i]? = some u → ∃ a, us[i % us.length]? = some a ∧ Cell.okWide P w r b a u := by
  unfold Value.okWide at h; rw [ht] at h
  obtain ⟨cs, e, hsz, ts, hts, _, hall⟩ := h
  rw [hc] at hts
  cases hts
  exact ⟨cs, e, hsz, hall⟩

theorem Zcp {P:Program} {w:World} {r:Reach} {b:Nat} {t:TypeId} {k:IntKind} {v:Value} (ht:P.underlying t=some (.int k)) (h:Cell.okWide P w r b t v):∃ n,v=.int k n:=
  Go.WideShapes.okWide_int (base:=b) ht (by unfold Value.okWide;rw [ht];exact h)
theorem i3:Jr Try.prog 3:=.int Try.underlying3 (by kernel_rfl)
theorem i46:Jr Try.prog 46:=.struct Try.underlying46 (by intro f hf;simp at hf;rcases hf with rfl | rfl<;>exact i3) (by kernel_rfl)
theorem i57:Jr Try.prog 57:=.struct Try.underlying57 (by intro f hf;simp at hf;rcases hf with rfl | rfl;exact i3;exact i46) (by kernel_rfl)
set_option maxRecDepth 100000 in
theorem Zdj {H:Type} {enc:TypeId × Value→H} {w:World} {base:Nat} {v:Value} {d:DataW H} {p:List MemPlace} (hv:Value.okWide Try.prog w .any base (44:Nat) v) (h:DataW.Trod enc Try.prog w 0 (fun _=>true) true (44:Nat) v d p):∃ (us:List Tp) (x:Imp),Kx w v Tp.f us x:=by
  obtain ⟨fuel,h⟩:=h
  obtain ⟨a,len,cap,rfl⟩:=okWide_slice Try.underlying44 hv
  exact zY Tp.f (fun N=>⟨N 0,N 1,N 2⟩) 3 Try.underlying44 i57 (by kernel_rfl) (by decide) (fun _=>rfl) (z5 Try.underlying44 hv) h
theorem Zfu {α : Type} {w : World} {v : Value} {f : α → List Value} {l : List α} {x : Imp} (g : Kx w v f l x) {r : Ren} {H : Hp} {b : Nat} (h : b < H.next ∧ r b = some ⟨x.blk, x.off, none⟩ ∧ H.t.get b = some (.ro x.cs)) :
    ∃ a cap, VR r (.slice a l.length cap) v ∧ Sl H a l.length cap (l.flatMap f) ∧ ∀ b, a = some ⟨b, 0, none⟩ → Fx H b (l.flatMap f) := by
  obtain ⟨hb, hr, hc⟩ := h
  obtain ⟨a, cap, h1, h2, h3⟩ := g.rel hr hb (by unfold cellsOf; rw [hc]) hc
  exact ⟨a, cap, h1, h2, fun b' e => ⟨h2.old b' e, .inl (h3 b' e)⟩⟩
theorem call {w : World} {v1 : Value} {us1 : List Tp} {x1 : Imp} (q1 : Kx w v1 Tp.f us1 x1) :
    Calls Try.prog 12 #[v1] w fun e w' => e = .returned (.bool true) ∧ Below w.heap.size w w' := by
  obtain ⟨r, H, hrel, hr, himp⟩ := KK (P := Try.prog) [x1] (w := w) (by
    intro x hx i u hu
    simp only [List.mem_cons, List.not_mem_nil, or_false] at hx
    subst hx
    exact q1.ok i u hu)
  obtain ⟨a1, c1, rv1, l1, fx1⟩ := Zfu q1 (himp 0 x1 rfl)
  have l1 : Sl H a1 us1.length c1 (tpc us1) := l1
  obtain ⟨H', hf⟩ : ∃ H', FnX Try.prog ⟨fun f => bif Nat.beq f 15 then some true else none, fun _ _ _ _ => none⟩ H.next 12 [.slice a1 us1.length c1] H (.bool true) H' := Zag (kn := ⟨fun f => bif Nat.beq f 15 then some true else none, fun _ _ _ _ => none⟩) (lo := H.next) (H := H) rfl l1 rfl (Nat.le_refl _)
  refine qX alive.mixed alive.noCount alive.known hrel hr ?_ hf
  exact (.cons rv1 .nil)
theorem J5 {H : Type} {enc : TypeId × Value → H} {P : Program} (hl : laidOutB P = true) {W W' : World} (hb : Below W.heap.size W W') {sp : Nat → Bool} : ∀ {ts : List TypeId} {vs : List Value} {ds : List (DataW H)} {ps : List MemPlace},
    (ts.all fun t => P.readableRec t && decide (t < P.types.size)) = true → (∀ x ∈ ps, x.block < W.heap.size) → (∀ x ∈ ps, sp x.block = true) → DataW.TrodAll enc P W 0 (fun _ => true) true ts vs ds ps → DataW.TrodAll enc P W' 0 sp true ts vs ds ps
  | [], _, _, _, _, _, _, h => by
    obtain ⟨rfl, rfl, rfl⟩ := trodAll_nil h
    exact rfl
  | t :: ts, _, _, _, ht, hlt, hsp, h => by
    obtain ⟨v, vs1, d, ds1, a, b, rfl, rfl, rfl, h1, h2⟩ := trodAll_cons h
    simp only [List.all_cons, Bool.and_eq_true, decide_eq_true_eq] at ht
    exact ⟨a, b, WideElems.Trod_stays hl ht.1.1 ht.1.2 h1 (fun x hx => hb.same (hlt x (List.mem_append.2 (.inl hx)))) (fun x hx => hsp x (List.mem_append.2 (.inl hx))),
      J5 hl hb ht.2 (fun x hx => hlt x (List.mem_append.2 (.inr hx))) (fun x hx => hsp x (List.mem_append.2 (.inr hx))) h2, rfl⟩

/-- The last step of a row without variables,where the call leaves what lay below as it was and makes a plain value. -/
theorem jg {H : Type} {enc : TypeId × Value → H} {P : Program} {f : Func} {s : ChangeSpec} {apart fresh handsOn again : Bool} {W W' : World} {args : Array Value} {v : Value} {ds gs : List (DataW H)} {before : List MemPlace}
    (hl : laidOutB P = true) (hts : (f.params.toList.all fun t => P.readableRec t && decide (t < P.types.size)) = true)
    (hW : DataW.Whole enc P f.params.toList s.vars apart W args.toList ds gs before) (hA : DataW.TrodAll enc P W 0 (fun _ => true) true f.params.toList args.toList ds before)
    (hres : ∀ (b : Nat) (sp : Nat → Bool) (hd : Bool), DataW.TrodAll enc P W' b sp hd f.resultTypes.toList (v.resultList f.resultTypes.size) (s.fn H (ds ++ gs)).results [])
    (hargs : (s.fn H (ds ++ gs)).args = ds) (hvars : ∀ sp : Nat → Bool, DataW.TrodVars enc P W' sp s.vars (s.fn H (ds ++ gs)).vars [])
    (hb : Below W.heap.size W W')
    (hok : ∀ (j : Nat) (t : TypeId) (r : Value), f.resultTypes[j]? = some t → (v.resultList f.resultTypes.size)[j]? = some r → Value.okWide P W' .any 0 t r) :
    s.post enc P f apart fresh handsOn again W args v W' := by
  have hlt : ∀ p ∈ before, p.block < W.heap.size := fun p hp => hW.lt p hp
  have key : ∀ sp : Nat → Bool, (∀ p ∈ before, sp p.block = true) → DataW.TrodAll enc P W' 0 sp true f.params.toList args.toList (s.fn H (ds ++ gs)).args before := fun sp hsp => by
    rw [hargs]; exact J5 hl hb hts hlt hsp hA
  refine ⟨ds, gs, before, [], before, [], hW, hres _ _ _, key _ (fun p hp => by simpa using hlt p hp), hvars _, World.keptBut_mono (fun p hp => ⟨hp, by simpa using hp⟩) (hb.frame (· ∈ before)), fun _ => ?_⟩
  obtain ⟨_, _, _, _, _, hz, hn⟩ := hW
  refine ⟨hok, _, _, [] ++ before ++ [], ⟨[] ++ before, [], trodAll_append (key _ (fun _ _ => rfl)) (hres _ _ _), hvars _, rfl, fun b off hp => ?_, fun ha => by simpa using hn ha⟩, fun p hp _ => by simpa using hp⟩
  have hin : MemPlace.cell b off ∈ before := by simpa using hp
  rw [hb.frozen (hlt _ hin)]
  exact hz b off hin

set_option maxHeartbeats 4000000 in
set_option maxRecDepth 100000 in
theorem lifted (os : Os) (started : os.Started) (H : Type) (enc : TypeId × Value → H) :
    ReturnsInHanded {} Try.checked os 12 .any (Rows.sprayEndsSpec.pre6 enc Try.prog Try.f12 Rows.sprayEndsRow.domain false) (Rows.sprayEndsSpec.post enc Try.prog Try.f12 false true false false) := by
  refine returnsInHanded_of_change (C := Try.checked) own started (by kernel_rfl) Try.func12
    (ChangeSpec.witness6 (enc := enc) (C := Try.checked) false ⟨#[], #[.slice none 0 0], []⟩ 8 (by kernel_rfl) (by kernel_rfl) (by kernel_rfl) (by kernel_rfl)) ?_
  intro W base args ds gs before hval0 hW hcnd _
  have hW' := hW
  obtain ⟨p, q, hA0, hV, rfl, hfz, hnd⟩ := hW
  obtain ⟨rfl, rfl⟩ := trodVars_none hV
  have hA : DataW.TrodAll enc Try.prog W 0 (fun _ => true) true [(44 : Nat)] args.toList ds p := by
    have := hA0
    rw [Try.params12] at this
    exact this
  obtain ⟨v1, vs1, d1, ds1, p1, pq1, e1, rfl, rfl, h1, hA⟩ := trodAll_cons hA
  obtain ⟨rfl, rfl, rfl⟩ := trodAll_nil hA
  obtain rfl : args = #[v1] := by
    rw [← Array.toList_inj]; exact e1
  have o1 : Value.okWide Try.prog W .any base (44 : Nat) v1 := hval0 0 44 v1 (by rw [Try.params12]; rfl) rfl
  obtain ⟨us1, x1, q1⟩ := Zdj o1 h1
  refine (call q1).mono fun e W' ⟨he, hb⟩ => ?_
  subst he
  refine ⟨_, rfl, jg laid (by rw [Try.params12]; kernel_rfl) hW' (by simpa using hA0) (fun _ _ _ => trodAll_mk1 (shut_bool Try.underlying4 _)) rfl (fun _ => rfl) hb (ok_one (by kernel_rfl) rfl (okWide_bool_mk Try.underlying4 _))⟩

theorem holds:Rows.SprayEndsSaid:=
  OpenClaim.holds_of_wide 12 Try.f12 rfl rfl rfl rfl rfl rfl rfl ⟨rfl,rfl,rfl,rfl,rfl⟩ rfl rfl rfl rfl rfl (by kernel_rfl) Try.func12 (by kernel_rfl)
    (of_decide_eq_true (by kernel_rfl)) (by unfold Func.isWrapper;first | (rw [if_pos (by decide +kernel)];kernel_rfl) | (rw [if_neg (by decide +kernel)];exact ⟨rfl,rfl⟩))
    (fun os started H enc _=>lifted os started H enc)
end Go.Proofs.Ytlgfejokafimaaa.sprayEnds

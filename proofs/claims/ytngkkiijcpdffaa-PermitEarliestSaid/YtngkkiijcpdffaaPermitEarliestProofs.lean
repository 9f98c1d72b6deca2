/-
  Proved here: whatever the input,the law PermitEarliest returns true and leaves what it was given as it was. Conditions: none beyond the row's own.
  The call is worked out for all inputs,whatever is drawn (the texts Ax .. AxM9,AxQ,AxC,AxR,S0 .. T6,K1 .. K13),the document's examples too.
-/
import Derived.Test.YtngkkiijcpdffaaRows
import Derived.Test.YtngkkiijcpdffaaMg
import Derived.ProofKit
import Derived.Below
import Derived.Carry
import Derived.ChangeSame
set_option linter.all false
namespace Go.Proofs.Ytngkkiijcpdffaa.permitEarliest
open Go.Proofs.Ytngkkiijcpdffaa
open Go.ChangeShapes Go.WideShapes Go.ChangeAt Go.RowKit Go.Ax Go.Deep

theorem own:ownKnob Try.prog.godebug=none:=by kernel_rfl
theorem laid:laidOutB Try.prog=true:=by kernel_rfl

theorem Vp {P:Program} {w:World} {r:Reach} {b:Nat} {t e:TypeId} {v:Value} (ht:P.underlying t=some (.slice e)) (h:Value.okWide P w r b t v):Cell.okWide P w r b t v:=by
  unfold Value.okWide at h;rw [ht] at h;exact h
theorem Zc9 {P : Program} {w : World} {r : Reach} {b : Nat} {t : TypeId} {v : Value} {fs : Array Field} {us : List TypeId} (ht : P.underlying t = some (.struct fs)) (hc : P.cellTypes P.depth t = some us) (h : Value.okWide P w r b t v) :
    ∃ cs, v = .agg cs ∧ cs.size = P.cellsOf t ∧ ∀ i u, cs[i]? = some u → ∃ a, us[i % us.length]? = some a ∧ Cell.okWide P w r b a u := by
  unfold Value.okWide at h; rw [ht] at h
  obtain ⟨cs, e, hsz, ts, hts, _, hall⟩ := h
  rw [hc] at hts
  cases hts
  exact ⟨cs, e, hsz, hall⟩

theorem ZcG {P:Program} {w:World} {r:Reach} {b:Nat} {t:TypeId} {k:IntKind} {v:Value} (ht:P.underlying t=some (.int k)) (h:Cell.okWide P w r b t v):∃ n,v=.int k n:=
  Go.WideShapes.okWide_int (base:=b) ht (by unfold Value.okWide;rw [ht];exact h)
theorem i3:JJ Try.prog 3:=.int Try.underlying3 (by kernel_rfl)
theorem i31:JJ Try.prog 31:=.struct Try.underlying31 (by intro f hf;simp at hf;rcases hf with rfl | rfl<;>first | exact i3 | exact i31) (by kernel_rfl)
theorem ja (l:List Int):l.flatMap (fun n:Int=>[iv n])=cI l:=by
  induction l with
  | nil=>rfl
  | cons a l ih=>rw [List.flatMap_cons,ih];rfl
theorem i68:JJ Try.prog 68:=.struct Try.underlying68 (by intro f hf;simp at hf;rcases hf with rfl | rfl | rfl<;>first | exact i3 | exact i31) (by kernel_rfl)
set_option maxRecDepth 100000 in
theorem ZdN {H:Type} {enc:TypeId × Value→H} {w:World} {base:Nat} {v:Value} {d:DataW H} {p:List MemPlace} (hv:Value.okWide Try.prog w .any base (43:Nat) v) (h:DataW.Trod enc Try.prog w 0 (fun _=>true) true (43:Nat) v d p):∃ (us:List Ns) (x:Imp),VL w v Ns.f us x:=by
  obtain ⟨fuel,h⟩:=h
  obtain ⟨a,len,cap,rfl⟩:=okWide_slice Try.underlying43 hv
  exact Qh Ns.f (fun N=>⟨N 0,N 1,N 2⟩) 3 Try.underlying43 i68 (by kernel_rfl) (by decide) (fun _=>rfl) (Vp Try.underlying43 hv) h
set_option maxRecDepth 100000 in
theorem ZdV {H:Type} {enc:TypeId × Value→H} {w:World} {base:Nat} {v:Value} {d:DataW H} {p:List MemPlace} (hv:Value.okWide Try.prog w .any base (42:Nat) v) (h:DataW.Trod enc Try.prog w 0 (fun _=>true) true (42:Nat) v d p):∃ (us:List Int) (x:Imp),VL w v (fun n:Int=>[iv n]) us x:=by
  obtain ⟨fuel,h⟩:=h
  obtain ⟨a,len,cap,rfl⟩:=okWide_slice Try.underlying42 hv
  exact Qh (fun n:Int=>[iv n]) (fun N=>N 0) 1 Try.underlying42 i3 (by kernel_rfl) (by decide) (fun _=>rfl) (Vp Try.underlying42 hv) h
set_option maxRecDepth 100000 in
theorem Zcs {H:Type} {enc:TypeId × Value→H} {w:World} {base:Nat} {v:Value} {d:DataW H} {p:List MemPlace} (hv:Value.okWide Try.prog w .any base (58:Nat) v) (h:DataW.Trod enc Try.prog w 0 (fun _=>true) true (58:Nat) v d p):∃ (us:List Nat) (x:Imp),VL w v (fun n:Nat=>[Value.int .u8 (n:Int)]) us x∧us.length≤9223372036854775807∧∀ n∈us,n≤255:=by
  obtain ⟨fuel,h⟩:=h
  have hR:∀ (fuel:Nat) (cs:List Value) (x:DataW H × List MemPlace),DataW.trod enc Try.prog w 0 (fun _=>true) true fuel (5:Nat) cs=some x→∃ y:Nat,cs=[Value.int .u8 (y:Int)]∧y≤255:=by
    intro fuel cs x hx
    obtain ⟨n,rfl,_,hwf⟩:=DataW.trod_int Try.underlying5 hx
    have hr:0≤n∧n≤255:=by
      simp [Lit.wf,IntKind.min,IntKind.max,IntKind.signed,IntKind.bits] at hwf
      omega
    obtain ⟨t,rfl⟩:∃ t:Nat,n=(t:Int):=⟨n.toNat,by omega⟩
    exact ⟨t,rfl,by omega⟩
  obtain ⟨a,len,cap,rfl⟩:=okWide_slice Try.underlying58 hv
  obtain ⟨l,y,g,h1,h2⟩:=ye (f:=fun n:Nat=>[Value.int .u8 (n:Int)]) (Q:=fun n=>n≤255) (k:=1) Try.underlying58 hR (by kernel_rfl) (by decide) (fun _=>rfl) (fun y u hu=>by simp at hu;subst hu;rfl) (Vp Try.underlying58 hv) h
  exact ⟨l,y,g,Nat.le_trans h1 j5,h2⟩
theorem Zdy {α : Type} {w : World} {v : Value} {f : α → List Value} {l : List α} {x : Imp} (g : VL w v f l x) {r : Ren} {H : Hp} {b : Nat} (h : b < H.next ∧ r b = some ⟨x.blk, x.off, none⟩ ∧ H.t.get b = some (.ro x.cs)) :
    ∃ a cap, VR r (.slice a l.length cap) v ∧ Sl H a l.length cap (l.flatMap f) ∧ ∀ b, a = some ⟨b, 0, none⟩ → Fx H b (l.flatMap f) := by
  obtain ⟨hb, hr, hc⟩ := h
  obtain ⟨a, cap, h1, h2, h3⟩ := g.rel hr hb (by unfold cellsOf; rw [hc]) hc
  exact ⟨a, cap, h1, h2, fun b' e => ⟨h2.old b' e, .inl (h3 b' e)⟩⟩
theorem call {w : World} {v1 : Value} {us1 : List Int} {x1 : Imp} (q1 : VL w v1 (fun n : Int => [iv n]) us1 x1) {v2 : Value} {us2 : List Ns} {x2 : Imp} (q2 : VL w v2 Ns.f us2 x2) {y3 : Int} {y4 : Int} {y5 : Int} {y6 : Int} {y7 : Int} {v8 : Value} {us8 : List Nat} {x8 : Imp} (q8 : VL w v8 (fun n : Nat => [Value.int .u8 (n : Int)]) us8 x8) (hl8 : us8.length ≤ 9223372036854775807) (hu8 : ∀ n ∈ us8, n ≤ 255) {y9 : Int} (hy9 : 0 ≤ y9 ∧ y9 ≤ 65535) :
    Calls Try.prog 9 #[v1, v2, iv y3, iv y4, iv y5, iv y6, iv y7, v8, .int .u16 y9] w fun e w' => e = .returned (.bool true) ∧ Below w.heap.size w w' := by
  obtain ⟨r, H, hrel, hr, himp⟩ := zy (P := Try.prog) [x1, x2, x8] (w := w) (by
    intro x hx i u hu
    simp only [List.mem_cons, List.not_mem_nil, or_false] at hx
    rcases hx with rfl | rfl | rfl
    · exact q1.ok i u hu
    · exact q2.ok i u hu
    · exact q8.ok i u hu)
  obtain ⟨a1, c1, rv1, l1, fx1⟩ := Zdy q1 (himp 0 x1 rfl)
  have l1 : Sl H a1 us1.length c1 (cI us1) := (ja _) ▸ l1
  obtain ⟨a2, c2, rv2, l2, fx2⟩ := Zdy q2 (himp 1 x2 rfl)
  have l2 : Sl H a2 us2.length c2 (nsc us2) := l2
  obtain ⟨a8, c8, rv8, l8, fx8⟩ := Zdy q8 (himp 2 x8 rfl)
  have l8 : Sl H a8 us8.length c8 (cY us8) := (Zcm _) ▸ l8
  obtain ⟨H', hf⟩ : ∃ H', FnX Try.prog ⟨fun _ => none, fun _ _ _ _ => none⟩ H.next 9 [.slice a1 us1.length c1, .slice a2 us2.length c2, iv y3, iv y4, iv y5, iv y6, iv y7, .slice a8 us8.length c8, .int .u16 y9] H (.bool true) H' := zA (kn := ⟨fun _ => none, fun _ _ _ _ => none⟩) (lo := H.next) (H := H) (fun _ => rfl) l1 rfl (fun b e => ja _ ▸ fx1 b e) l2 rfl (reach := y3) (days := y4) (limit := y5) (frm := y6) (to_ := y7) l8 rfl hl8 hu8 hy9 (Nat.le_refl _)
  refine jK alive.mixed alive.noCount alive.known hrel hr ?_ hf
  exact (.cons rv1 (.cons rv2 (.cons (.int _ _) (.cons (.int _ _) (.cons (.int _ _) (.cons (.int _ _) (.cons (.int _ _) (.cons rv8 (.cons (.int _ _) .nil)))))))))
theorem Kq {H : Type} {enc : TypeId × Value → H} {P : Program} (hl : laidOutB P = true) {W W' : World} (hb : Below W.heap.size W W') {sp : Nat → Bool} : ∀ {ts : List TypeId} {vs : List Value} {ds : List (DataW H)} {ps : List MemPlace},
    (ts.all fun t => P.readableRec t && decide (t < P.types.size)) = true → (∀ x ∈ ps, x.block < W.heap.size) → (∀ x ∈ ps, sp x.block = true) → DataW.TrodAll enc P W 0 (fun _ => true) true ts vs ds ps → DataW.TrodAll enc P W' 0 sp true ts vs ds ps
  | [], _, _, _, _, _, _, h => by
    obtain ⟨rfl, rfl, rfl⟩ := trodAll_nil h
    exact rfl
  | t :: ts, _, _, _, ht, hlt, hsp, h => by
    obtain ⟨v, vs1, d, ds1, a, b, rfl, rfl, rfl, h1, h2⟩ := trodAll_cons h
    simp only [List.all_cons, Bool.and_eq_true, decide_eq_true_eq] at ht
    exact ⟨a, b, WideElems.Trod_stays hl ht.1.1 ht.1.2 h1 (fun x hx => hb.same (hlt x (List.mem_append.2 (.inl hx)))) (fun x hx => hsp x (List.mem_append.2 (.inl hx))),
      Kq hl hb ht.2 (fun x hx => hlt x (List.mem_append.2 (.inr hx))) (fun x hx => hsp x (List.mem_append.2 (.inr hx))) h2, rfl⟩

/-- The last step of a row without variables,where the call leaves what lay below as it was and makes a plain value. -/
theorem jV {H : Type} {enc : TypeId × Value → H} {P : Program} {f : Func} {s : ChangeSpec} {apart fresh handsOn again : Bool} {W W' : World} {args : Array Value} {v : Value} {ds gs : List (DataW H)} {before : List MemPlace}
    (hl : laidOutB P = true) (hts : (f.params.toList.all fun t => P.readableRec t && decide (t < P.types.size)) = true)
    (hW : DataW.Whole enc P f.params.toList s.vars apart W args.toList ds gs before) (hA : DataW.TrodAll enc P W 0 (fun _ => true) true f.params.toList args.toList ds before)
    (hres : ∀ (b : Nat) (sp : Nat → Bool) (hd : Bool), DataW.TrodAll enc P W' b sp hd f.resultTypes.toList (v.resultList f.resultTypes.size) (s.fn H (ds ++ gs)).results [])
    (hargs : (s.fn H (ds ++ gs)).args = ds) (hvars : ∀ sp : Nat → Bool, DataW.TrodVars enc P W' sp s.vars (s.fn H (ds ++ gs)).vars [])
    (hb : Below W.heap.size W W')
    (hok : ∀ (j : Nat) (t : TypeId) (r : Value), f.resultTypes[j]? = some t → (v.resultList f.resultTypes.size)[j]? = some r → Value.okWide P W' .any 0 t r) :
    s.post enc P f apart fresh handsOn again W args v W' := by
  have hlt : ∀ p ∈ before, p.block < W.heap.size := fun p hp => hW.lt p hp
  have key : ∀ sp : Nat → Bool, (∀ p ∈ before, sp p.block = true) → DataW.TrodAll enc P W' 0 sp true f.params.toList args.toList (s.fn H (ds ++ gs)).args before := fun sp hsp => by
    rw [hargs]; exact Kq hl hb hts hlt hsp hA
  refine ⟨ds, gs, before, [], before, [], hW, hres _ _ _, key _ (fun p hp => by simpa using hlt p hp), hvars _, World.keptBut_mono (fun p hp => ⟨hp, by simpa using hp⟩) (hb.frame (· ∈ before)), fun _ => ?_⟩
  obtain ⟨_, _, _, _, _, hz, hn⟩ := hW
  refine ⟨hok, _, _, [] ++ before ++ [], ⟨[] ++ before, [], trodAll_append (key _ (fun _ _ => rfl)) (hres _ _ _), hvars _, rfl, fun b off hp => ?_, fun ha => by simpa using hn ha⟩, fun p hp _ => by simpa using hp⟩
  have hin : MemPlace.cell b off ∈ before := by simpa using hp
  rw [hb.frozen (hlt _ hin)]
  exact hz b off hin

set_option maxHeartbeats 4000000 in
set_option maxRecDepth 100000 in
theorem lifted (os : Os) (started : os.Started) (H : Type) (enc : TypeId × Value → H) :
    ReturnsInHanded {} Try.checked os 9 .any (Rows.permitEarliestSpec.pre6 enc Try.prog Try.f9 Rows.permitEarliestRow.domain false) (Rows.permitEarliestSpec.post enc Try.prog Try.f9 false true false false) := by
  refine returnsInHanded_of_change (C := Try.checked) own started (by kernel_rfl) Try.func9
    (ChangeSpec.witness6 (enc := enc) (C := Try.checked) false ⟨#[], #[.slice none 0 0, .slice none 0 0, .int .i64 0, .int .i64 0, .int .i64 0, .int .i64 0, .int .i64 0, .slice none 0 0, .int .u16 0], []⟩ 8 (by kernel_rfl) (by kernel_rfl) (by kernel_rfl) (by kernel_rfl)) ?_
  intro W base args ds gs before hval0 hW hcnd _
  have hW' := hW
  obtain ⟨p, q, hA0, hV, rfl, hfz, hnd⟩ := hW
  obtain ⟨rfl, rfl⟩ := trodVars_none hV
  have hA : DataW.TrodAll enc Try.prog W 0 (fun _ => true) true [(42 : Nat), (43 : Nat), (3 : Nat), (3 : Nat), (3 : Nat), (3 : Nat), (3 : Nat), (58 : Nat), (59 : Nat)] args.toList ds p := by
    have := hA0
    rw [Try.params9] at this
    exact this
  obtain ⟨v1, vs1, d1, ds1, p1, pq1, e1, rfl, rfl, h1, hA⟩ := trodAll_cons hA
  obtain ⟨v2, vs2, d2, ds2, p2, pq2, rfl, rfl, rfl, h2, hA⟩ := trodAll_cons hA
  obtain ⟨v3, vs3, d3, ds3, p3, pq3, rfl, rfl, rfl, h3, hA⟩ := trodAll_cons hA
  obtain ⟨v4, vs4, d4, ds4, p4, pq4, rfl, rfl, rfl, h4, hA⟩ := trodAll_cons hA
  obtain ⟨v5, vs5, d5, ds5, p5, pq5, rfl, rfl, rfl, h5, hA⟩ := trodAll_cons hA
  obtain ⟨v6, vs6, d6, ds6, p6, pq6, rfl, rfl, rfl, h6, hA⟩ := trodAll_cons hA
  obtain ⟨v7, vs7, d7, ds7, p7, pq7, rfl, rfl, rfl, h7, hA⟩ := trodAll_cons hA
  obtain ⟨v8, vs8, d8, ds8, p8, pq8, rfl, rfl, rfl, h8, hA⟩ := trodAll_cons hA
  obtain ⟨v9, vs9, d9, ds9, p9, pq9, rfl, rfl, rfl, h9, hA⟩ := trodAll_cons hA
  obtain ⟨rfl, rfl, rfl⟩ := trodAll_nil hA
  obtain rfl : args = #[v1, v2, v3, v4, v5, v6, v7, v8, v9] := by
    rw [← Array.toList_inj]; exact e1
  have o1 : Value.okWide Try.prog W .any base (42 : Nat) v1 := hval0 0 42 v1 (by rw [Try.params9]; rfl) rfl
  have o2 : Value.okWide Try.prog W .any base (43 : Nat) v2 := hval0 1 43 v2 (by rw [Try.params9]; rfl) rfl
  have o3 : Value.okWide Try.prog W .any base (3 : Nat) v3 := hval0 2 3 v3 (by rw [Try.params9]; rfl) rfl
  have o4 : Value.okWide Try.prog W .any base (3 : Nat) v4 := hval0 3 3 v4 (by rw [Try.params9]; rfl) rfl
  have o5 : Value.okWide Try.prog W .any base (3 : Nat) v5 := hval0 4 3 v5 (by rw [Try.params9]; rfl) rfl
  have o6 : Value.okWide Try.prog W .any base (3 : Nat) v6 := hval0 5 3 v6 (by rw [Try.params9]; rfl) rfl
  have o7 : Value.okWide Try.prog W .any base (3 : Nat) v7 := hval0 6 3 v7 (by rw [Try.params9]; rfl) rfl
  have o8 : Value.okWide Try.prog W .any base (58 : Nat) v8 := hval0 7 58 v8 (by rw [Try.params9]; rfl) rfl
  have o9 : Value.okWide Try.prog W .any base (59 : Nat) v9 := hval0 8 59 v9 (by rw [Try.params9]; rfl) rfl
  obtain ⟨us1, x1, q1⟩ := ZdV o1 h1
  obtain ⟨us2, x2, q2⟩ := ZdN o2 h2
  obtain ⟨y3, rfl, _, _, _⟩ := open_int Try.underlying3 o3 h3
  obtain ⟨y4, rfl, _, _, _⟩ := open_int Try.underlying3 o4 h4
  obtain ⟨y5, rfl, _, _, _⟩ := open_int Try.underlying3 o5 h5
  obtain ⟨y6, rfl, _, _, _⟩ := open_int Try.underlying3 o6 h6
  obtain ⟨y7, rfl, _, _, _⟩ := open_int Try.underlying3 o7 h7
  obtain ⟨us8, x8, q8, hl8, hu8⟩ := Zcs o8 h8
  obtain ⟨y9, rfl, _, _, wf9⟩ := open_int Try.underlying59 o9 h9
  have hy9 : 0 ≤ y9 ∧ y9 ≤ 65535 := by
    simp [Lit.wf, IntKind.min, IntKind.max, IntKind.signed, IntKind.bits] at wf9
    omega
  refine (call (y3 := y3) (y4 := y4) (y5 := y5) (y6 := y6) (y7 := y7) q1 q2 q8 hl8 hu8 hy9).mono fun e W' ⟨he, hb⟩ => ?_
  subst he
  refine ⟨_, rfl, jV laid (by rw [Try.params9]; kernel_rfl) hW' (by simpa using hA0) (fun _ _ _ => trodAll_mk1 (shut_bool Try.underlying4 _)) rfl (fun _ => rfl) hb (ok_one (by kernel_rfl) rfl (okWide_bool_mk Try.underlying4 _))⟩

theorem holds:Rows.PermitEarliestSaid:=
  OpenClaim.holds_of_wide 9 Try.f9 rfl rfl rfl rfl rfl rfl rfl ⟨rfl,rfl,rfl,rfl,rfl⟩ rfl rfl rfl rfl rfl (by kernel_rfl) Try.func9 (by kernel_rfl)
    (of_decide_eq_true (by kernel_rfl)) (by unfold Func.isWrapper;first | (rw [if_pos (by decide +kernel)];kernel_rfl) | (rw [if_neg (by decide +kernel)];exact ⟨rfl,rfl⟩))
    (fun os started H enc _=>lifted os started H enc)
end Go.Proofs.Ytngkkiijcpdffaa.permitEarliest

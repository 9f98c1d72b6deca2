import Derived.Test.YtkdgngdnmgelnaaAxS29
set_option linter.all false
namespace Go.Ax
open Go Go.RowKit
section
variable {P : Program} {lo base : Nat}
theorem round_back {kn : FuncId → Option Bool} {n m l : Nat} {cap : Array Value} {args : List Value} {H : Hp} {e : En} {H' : Hp} {p' : Par} (hC : CallN P (callF P kn m n)) (hA : CallA (callF P kn m n)) (hm : P.follows .mixedOrders = true)
    (h : evCall P kn m (n + 1) lo (.fn (.yield l) cap) args H none = some (e, H', p')) (hlo : lo ≤ H.next) {r : Ren} {w : World} (hrel : Rel P r base H w) {loc : Loc} (hloc : r l = some loc) {args' : Array Value} (hargs : LR r args args'.toList) :
    ∃ f tm asg body, (Instr.yield loc.blk args').run P w = .ok (.round loc.blk f tm asg body) w ∧ Back P lo base r H w (Frame.round loc.blk f tm asg body .normal) e H' := by
  simp only [evCall] at h
  split at h <;> first | (cases h; done) | skip
  rename_i pe fn n0 T params asg body df _ hget
  split at h <;> first | (cases h; done) | skip
  rename_i T' hst
  obtain ⟨hb0, h1⟩ := bif_some h
  clear h
  have hb := Nat.le_of_ble_eq_true hb0
  clear hb0
  obtain ⟨hck, h⟩ := bif_some h1
  clear h1
  simp only [Bool.and_eq_true, List.all_eq_true] at hck
  obtain ⟨R, c1, c2, c3, c4, c5, c6, c7, c8, l9, c9, c10⟩ := hrel.cont _ _ _ hloc hget
  subst c3 c4 c6 c7 c8
  have hT := setTmps_R hst c5 (fun t ht => by have := hck.2 t ht; simpa [Nat.blt_eq] using this) hargs
  have hsz : args'.size = R.params.size := by
    have a := setTmps_len hst
    have b := hargs.1
    simp at a b
    omega
  have htm : (R.params.zip args').foldl (fun tmps (t, a) => tmps.setIfInBounds t a) R.tmps = (R.params.toList.zip args'.toList).foldl (fun tmps (x : Tmp × Value) => tmps.setIfInBounds x.1 x.2) R.tmps := by
    rw [← Array.foldl_toList, Array.toList_zip]
  refine ⟨R.fn, _, R.assign, R.body, run_yield c1 hsz, ?_⟩
  rw [htm]
  generalize (R.params.toList.zip args'.toList).foldl (fun tmps (x : Tmp × Value) => tmps.setIfInBounds x.1 x.2) R.tmps = tm at hT
  intro c rest
  split at h <;> first | (cases h; done) | skip
  rename_i A H1 hrc
  obtain ⟨r1, w1, tm1, ds1, pc1, hp1, hF1, hS1, hpp1, hArr1, _⟩ := (code_R (kind := .normal) (rd := some loc.blk) (K := fun _ => c :: rest) hC hA hm (.inl ⟨rfl, fun _ => rfl⟩) m).1 R.assign [.beginRound, .code R.body] r w H _ tm [] none none _ _ _ _ hrc hlo hrel
    ⟨hT, .nil, ⟨loc, hloc, rfl⟩⟩ rfl (fun _ => rfl)
  have hArr1 : Steps P (lone (Frame.round loc.blk R.fn tm R.assign R.body .normal) (c :: rest) w) (lone (mkF R.fn tm1 [.beginRound, .code R.body] ds1 .normal (some loc.blk)) (c :: rest) w1) := hArr1
  have hfn1 : A.fn = R.fn := hS1.fn
  split at h <;> first | (cases h; done) | skip
  rename_i pe' fn' n' T2 ps' as' bo' df' hget1
  have hloc1 := hp1.le _ _ hloc
  obtain ⟨R1, d1, d2, d3, d4, d5, d6, d7, d8, l9', d9, d10⟩ := hp1.rel.cont _ _ _ hloc1 hget1
  have hbeg := run_beginRound (P := P) d1 d2
  have hlt1 := (hp1.rel.at hloc1 hget1 rfl).2
  have hp2 := Post.change (lo := lo) hp1.rel hloc1 ⟨_, hget1, by simp, rfl⟩ hb (o := .lp .busy pe' fn' n' T2 ps' as' bo' df') (w' := w1.putObj loc.blk (.loop { R1 with state := .busy })) World.putObj_size (fun k hk => World.putObj_heap_other hk) ⟨rfl, rfl, rfl⟩
    ⟨{ R1 with state := .busy }, World.putObj_heap_same hlt1, rfl, d3, d4, d5, d6, d7, d8, l9', d9, d10⟩
  have hlo1 : lo ≤ H1.next := Nat.le_trans hlo hp1.next
  split at h <;> first | (cases h; done) | skip
  rename_i e3 A3 H3 p3 hrb
  obtain ⟨r3, w3, tm3, ds3, pc3, hp3, hF3, hS3, _, hArr3, _⟩ := (code_R (kind := .normal) (rd := some loc.blk) (K := fun _ => c :: rest) hC hA hm (.inl ⟨rfl, fun _ => rfl⟩) m).1 R.body [] r1 _ { H1 with t := H1.t.set l (.lp .busy pe' fn' n' T2 ps' as' bo' df') } A tm1 ds1 none none _ _ _ _ hrb hlo1 hp2.rel hF1 rfl (fun _ => rfl)
  have hp13 := (hp1.trans hlo hp2).trans hlo hp3
  have hloc3 := hp3.le _ _ hloc1
  have hM : Steps P (lone (Frame.round loc.blk R.fn tm R.assign R.body .normal) (c :: rest) w) (lone (mkF A.fn tm1 [.code R.body] ds1 .normal (some loc.blk)) (c :: rest) (w1.putObj loc.blk (.loop { R1 with state := .busy }))) := by
    rw [hfn1]
    exact hArr1.trans (Steps.one (mv_beginRound hbeg))
  split at h <;> first | (cases h; done) | skip
  rename_i _ pe3 a b c' d e' g h' hdf hget3
  obtain ⟨R3, q1, q2, q3, q4, q5, q6, q7, q8, l9'', q9, q10⟩ := hp3.rel.cont _ _ _ hloc3 hget3
  have hlt3 := (hp3.rel.at hloc3 hget3 rfl).2
  have hds : ds3 = [] := by
    have := hF3.D
    rw [hdf] at this
    cases this
    rfl
  subst hds
  have put : ∀ (st : LoopState) (pe : Option Code), Post P lo base r H w r3 { H3 with t := H3.t.set l (.lp st pe a b c' d e' g h') } (w3.putObj loc.blk (.loop { R3 with state := st, pending := pe })) := fun st pe =>
    hp13.trans hlo (Post.change (lo := lo) hp3.rel hloc3 ⟨_, hget3, by simp, rfl⟩ hb (o := .lp st pe a b c' d e' g h') (w' := w3.putObj loc.blk (.loop { R3 with state := st, pending := pe })) World.putObj_size (fun k hk => World.putObj_heap_other hk) ⟨rfl, rfl, rfl⟩
      ⟨{ R3 with state := st, pending := pe }, World.putObj_heap_same hlt3, rfl, rfl, q4, q5, q6, q7, q8, l9'', q9, q10⟩)
  split at h <;> first | (cases h; done) | skip
  · cases h
    exact ⟨r3, _, put .ready none, _, .bool true, (hM.trans hArr3).trans (Steps.one (mv_round_end (run_endRound none q1)))⟩
  · cases h
    obtain ⟨kx, hs⟩ := hArr3
    exact ⟨r3, _, put .done (some .ret), _, .bool false, (hM.trans hs).trans (Steps.one (mv_round_ret (run_endRound (some .ret) q1)))⟩
  · cases h
    rename_i id
    obtain ⟨kx, hx, hs⟩ := hArr3
    exact ⟨r3, _, put .done (some (.exit id)), _, .bool false, (hM.trans hs).trans (Steps.one (mv_round_exit (hx.trans rfl) (run_endRound (some (.exit id)) q1)))⟩
  · cases h
    obtain ⟨todo, v', hv, hs⟩ := hArr3
    rw [hfn1] at hs hM
    have hfn := hck.1
    obtain ⟨fnX, hX⟩ := Option.isSome_iff_exists.1 hfn
    exact ⟨r3, w3, hp13, v', hv, (hM.trans hs).trans (Steps.one (step_leave_panicked ⟨rfl, rfl, fnX, hX⟩))⟩
end
end Go.Ax

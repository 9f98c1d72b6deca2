import Derived.Test.YtkdgngdnmgelnaaAxS26
import Derived.Defers
import Derived.RangeFuncLeaves
set_option linter.all false
namespace Go.Ax
open Go Go.RowKit
section
variable {P : Program} {lo base : Nat} {r : Ren} {A : Fr} {H : Hp} {w : World} {tmps : Array Value}
def resF (tmps : Array Value) : ResultVar → Sem Value
  | .tmp t => pure (tmps.getD t undef)
  | .cell a t => do loadVar t (← asAddr (tmps.getD a undef))
theorem resultsL (h : Rel P r base H w) (hT : TmpR r A.n A.T tmps) : ∀ {rs : List ResultVar} {vs : List Value}, resultsV P A H rs = some vs → ∃ vs', LR r vs vs' ∧ (rs.mapM (resF tmps)).run P w = .ok vs' w
  | [], vs, e => by simp only [resultsV] at e; cases e; exact ⟨[], LR.nil, rfl⟩
  | .tmp t :: rs, vs, e => by
    simp only [resultsV] at e
    cases ht : A.T.get t with
    | none => simp [ht] at e
    | some v =>
      obtain ⟨v', hv, q⟩ := hT.2 t v ht
      cases hr : resultsV P A H rs with
      | none => simp [ht, hr] at e
      | some us =>
        simp only [ht, hr] at e
        cases e
        obtain ⟨us', a, b⟩ := resultsL h hT hr
        refine ⟨v' :: us', LR.cons q a, ?_⟩
        rw [List.mapM_cons]
        simp only [resF, Array.getD_eq_getD_getElem?, hv, Option.getD_some, Sem.run_bind, Sem.run_pure, Result.andThen_ok, b]
  | .cell x t :: rs, vs, e => by
    simp only [resultsV] at e
    split at e <;> first | (cases e; done) | skip
    rename_i ad ht
    obtain ⟨v', hv, q⟩ := hT.2 x _ ht
    split at e <;> first | (cases e; done) | skip
    rename_i v hl
    split at e <;> first | (cases e; done) | skip
    rename_i us hr
    cases e
    obtain ⟨us', a, b⟩ := resultsL h hT hr
    obtain ⟨loc, hloc, hsp, rfl⟩ := ptr_R q
    have hl0 := hl
    obtain ⟨ob, hget⟩ := load_get hl
    obtain ⟨u, hu, hrun⟩ := load_R hget hl0 hloc (h.cont _ _ _ hloc hget)
    refine ⟨u :: us', LR.cons hu a, ?_⟩
    rw [List.mapM_cons]
    simp only [resF, Array.getD_eq_getD_getElem?, hv, Option.getD_some, Sem.run_bind, Sem.run_pure, Result.andThen_ok, asAddr, hrun, b]
def packed : List Value → Value
  | [v] => v
  | vs => .tuple vs.toArray
theorem results_R (h : Rel P r base H w) (hT : TmpR r A.n A.T tmps) {fn : Func} {vs : List Value} (e : resultsV P A H fn.results.toList = some vs) :
    ∃ vs', LR r vs vs' ∧ (results fn tmps).run P w = .ok (packed vs') w := by
  obtain ⟨vs', a, b⟩ := resultsL h hT e
  refine ⟨vs', a, ?_⟩
  have hm : (fn.results.mapM (resF tmps)).run P w = .ok vs'.toArray w := by
    rw [← Array.toArray_toList (xs := fn.results), List.mapM_toArray, Sem.run_map, b]
    rfl
  show ((do let vs ← fn.results.mapM (resF tmps); pure (if h : vs.size = 1 then vs[0] else .tuple vs) : Sem Value)).run P w = _
  rw [Sem.run_bind, hm, Result.andThen_ok, Sem.run_pure]
  congr 1
  match vs' with
  | [] => rfl
  | [v] => rfl
  | v :: u :: l => simp [packed]
def Left (P : Program) (r : Ren) (e : En) (fr : Frame) (w : World) : Prop :=
  match e with
  | .ret v => ∃ v', VR r v v' ∧ fr.going P w (.returned v')
  | .pan v => ∃ v', VR r v v' ∧ fr.going P w (.panicked [{ v := v', recovered := false }])
def DefN (P : Program) (lo : Nat) (D : Target → List Value → Hp → Par → Option (En × Hp × Par)) : Prop :=
  ∀ f cap args H p e H' p', D (.fn (.func f) cap) args H p = some (e, H', p') → lo ≤ H.next → ∀ r base w (cap' args' : Array Value) pc (c : Frame) cs, Rel P r base H w → LR r cap.toList cap'.toList → LR r args args'.toList → ParR r p pc →
    ∃ fArgs, (invoke (.fn (.func f) cap') args').run P w = .ok (.enter f fArgs) w ∧ ∃ r' w' pc' fr, Post P lo base r H w r' H' w' ∧ ParR r' p' pc' ∧ fr.kind = .deferred ∧ Left P r' e fr w' ∧
      Steps P (lone (Frame.enter P f fArgs .deferred) ({ c with mode := modeOf pc } :: cs) w) (lone fr ({ c with mode := modeOf pc' } :: cs) w')
def settledP : Par → Par
  | some (_, true) => none
  | m => m
theorem settle_mode (p : Par) : settle (modeOf p) = modeOf (settledP p) := by
  cases p with
  | none => rfl
  | some q => obtain ⟨v, b⟩ := q; cases b <;> rfl
theorem settledP_R {r : Ren} {p pc : Par} (h : ParR r p pc) : ParR r (settledP p) (settledP pc) := by
  cases p with
  | none => cases h; rfl
  | some q =>
    obtain ⟨v, b⟩ := q
    obtain ⟨v', hv, rfl⟩ := h
    cases b
    · exact ⟨v', hv, rfl⟩
    · rfl
theorem mode_ne_run (p : Par) : modeOf p ≠ .run := by
  cases p with
  | none => simp [modeOf]
  | some q => obtain ⟨v, b⟩ := q; simp [modeOf]
theorem unwind_R {D : Target → List Value → Hp → Par → Option (En × Hp × Par)} (hD : DefN P lo D) {fn : Func} {g : FuncId} (hfn : P.funcs[g]? = some fn) : ∀ (f : Nat) (r : Ren) (w : World) (A : Fr) (H : Hp) (ds : List Deferred) (m pm : Par) (e : En) (H' : Hp),
    unwindV P lo D fn f A H m = some (e, H') → lo ≤ H.next → Rel P r base H w → DsR r A.defers ds → ParR r m pm → ∀ (fr : Frame) (cs : List Frame), TmpR r A.n A.T fr.tmps → fr.fn = g → fr.defers = ds → fr.mode = modeOf pm →
    ∃ r' w' fr', Post P lo base r H w r' H' w' ∧ fr'.fn = g ∧ fr'.kind = fr.kind ∧ Steps P (lone fr cs w) (lone fr' cs w') ∧ Left P r' e fr' w'
  | 0, _, _, _, _, _, _, _, _, _, h, _, _, _, _, _, _, _, _, _, _ => by simp [unwindV] at h
  | f + 1, r, w, A, H, ds, m, pm, e, H', h, hlo, hrel, hds, hp, fr, cs, hT, hg, hfd, hmo => by
    simp only [unwindV] at h
    cases hAd : A.defers with
    | nil =>
      rw [hAd] at h hds
      cases hds
      simp only at h
      split at h <;> first | (cases h; done) | skip
      · cases h
        obtain ⟨v', hv, rfl⟩ := hp
        exact ⟨r, w, fr, Post.refl hrel, hg, rfl, .refl _ _, v', hv, hmo, hfd, fn, by rw [hg]; exact hfn⟩
      · cases hp
        split at h <;> first | (cases h; done) | skip
        · rename_i v hr
          cases h
          obtain ⟨vs', a, b⟩ := results_R hrel hT hr
          obtain ⟨v', rfl, q⟩ : ∃ v', vs' = [v'] ∧ VR r v v' := by
            cases vs' with
            | nil => exact absurd a.1 (by simp)
            | cons v' t =>
              have : t = [] := by have := a.1; simp at this; exact this
              subst this
              exact ⟨v', rfl, a.2 0 v v' rfl rfl⟩
          exact ⟨r, w, fr, Post.refl hrel, hg, rfl, .refl _ _, v', q, hmo, hfd, fn, by rw [hg]; exact hfn, b⟩
        · rename_i vs hne hr
          cases h
          obtain ⟨vs', a, b⟩ := results_R hrel hT hr
          have hpk : packed vs' = .tuple vs'.toArray := by
            match vs' with
            | [] => rfl
            | [v'] =>
              exfalso
              have := a.1
              match vs with
              | [v] => exact hne v rfl
              | [] => simp at this
              | _ :: _ :: _ => simp at this
            | _ :: _ :: _ => rfl
          refine ⟨r, w, fr, Post.refl hrel, hg, rfl, .refl _ _, .tuple vs'.toArray, ?_, hmo, hfd, fn, by rw [hg]; exact hfn, by rw [b, hpk]⟩
          exact .tuple (by simpa using a.1) (fun i x y hx hy => a.2 i x y (by simpa using hx) (by simpa using hy))
    | cons d dA =>
      rw [hAd] at h hds
      cases hds with
      | cons hd hrest =>
      rename_i d' ds'
      simp only at h
      split at h
      · rename_i b htar
        split at h <;> first | (cases h; done) | skip
        rename_i calls hget
        obtain ⟨hb, h⟩ := bif_some h
        have hb := Nat.le_of_ble_eq_true hb
        have ht := hd.1
        rw [htar] at ht
        obtain ⟨loc, hloc, htar'⟩ := ht
        obtain ⟨calls', hc1, hc2⟩ := hrel.cont _ _ _ hloc hget
        have hlt := (hrel.at hloc hget rfl).2
        have hst := step_collected (P := P) (cs := cs) (by rw [hmo]; exact mode_ne_run pm) hfd htar' (run_takeDeferred hc1)
        have post := Post.change (lo := lo) hrel hloc ⟨_, hget, by simp, rfl⟩ hb (o := .dfr none) (w' := w.putObj loc.blk (.deferred none)) World.putObj_size (fun k hk => World.putObj_heap_other hk) ⟨rfl, rfl, rfl⟩ (World.putObj_heap_same hlt)
        obtain ⟨r', w', fr', p1, p2, p3, p4, p5⟩ := unwind_R hD hfn f r _ _ _ (calls' ++ ds') m pm e H' h hlo post.rel (hc2.append hrest) hp { fr with defers := calls' ++ ds' } cs hT hg rfl hmo
        exact ⟨r', w', fr', post.trans hlo p1, p2, p3, Steps.head hst p4, p5⟩
      · rename_i q cap htar
        split at h <;> first | (cases h; done) | skip
        rename_i v H1 m1 hcall
        have ht := hd.1
        rw [htar] at ht
        obtain ⟨f', cap', htar', hf', hcap⟩ := ht
        cases hf'
        obtain ⟨fArgs, hinv, r1, w1, pc1, fr1, post, hp1, hk1, hL, hs⟩ := hD q cap d.args.toList H m _ H1 m1 hcall hlo r base w cap' d'.args pm { fr with defers := ds' } cs hrel hcap hd.2 hp
        obtain ⟨v', hv, hgo⟩ := hL
        have hst := step_defer (P := P) (cs := cs) (by rw [hmo]; exact mode_ne_run pm) hfd htar' (by rw [htar']; exact hinv)
        have hfr : ({ { fr with defers := ds' } with mode := modeOf pm } : Frame) = { fr with defers := ds' } := by rw [← hmo]
        rw [hfr] at hs
        have hret := step_going_returned (c := { { fr with defers := ds' } with mode := modeOf pc1 }) (cs := cs) hk1 hgo
        simp only [settle_mode] at hret
        obtain ⟨r', w', fr', p1, p2, p3, p4, p5⟩ := unwind_R hD hfn f r1 w1 { A with defers := dA } H1 ds' (settledP m1) (settledP pc1) e H' h (Nat.le_trans hlo post.next) post.rel (hrest.mono post.le) (settledP_R hp1)
          { { fr with defers := ds' } with mode := modeOf (settledP pc1) } cs (hT.mono post.le) hg rfl rfl
        exact ⟨r', w', fr', post.trans hlo p1, p2, p3, Steps.head hst (hs.trans (Steps.head hret p4)), p5⟩
      · cases h
end
end Go.Ax

import Derived.Test.YtkdgngdnmgelnaaAxS24
import Derived.RangeFuncRecord
set_option linter.all false
namespace Go.Ax
open Go Go.RowKit
section
variable {P : Program} {fn : FuncId} {tmps : Array Value} {k : List Item} {ds : List Deferred} {kind : CallKind} {rd : Option Nat} {cs : List Frame} {w : World}
theorem mv_rangeFunc {g : Operand} {ps : Array Tmp} {asg body : Code} {l : Nat} {mark : List Deferred} {w₁ : World} {d : Deferred} {nx : Next} {fr0 : Frame}
    (he : (Instr.enterLoop fn tmps ps asg body rd).run P w = .ok (l, mark) w₁) (hres : (resolve (evT tmps) (rangeCall g l) 0).run P w₁ = .ok d w₁)
    (hinv : (invoke d.target d.args).run P w₁ = .ok nx w₁) (hfo : frameOf P .normal nx = some fr0) :
    step P (lone (mkF fn tmps (.code (.rangeFunc g ps asg body) :: k) ds kind rd) cs w) = .next (lone fr0 (mkF fn tmps (.inRangeFunc l :: k) (mark ++ ds) kind rd :: cs) w₁) :=
  step_lone_go (by
    have hev := evT_eq (mkF fn tmps (.inRangeFunc l :: k) (mark ++ ds) kind rd)
    simp only [mkF] at hev
    have hres' : Sem.run P (resolve (evT tmps) { callee := .value g, args := #[.const (.func (.yield l) #[] #[])], argTypes := #[] } 0) w₁ = .ok d w₁ := hres
    cases nx <;> simp only [frameOf] at hfo <;> cases hfo <;>
      simp [stepG, stepG.exec, mkF, Sem.runT_eq, he, GStep.bare_after, stepG.apply, hev, Sem.run_bind, hres', hinv, Result.andThen])
theorem mv_endRangeFunc {l : Nat} {jump : Option Code} {w' : World} (h : (Instr.endLoop l).run P w = .ok jump w') :
    step P (lone (mkF fn tmps (.endRangeFunc l :: k) ds kind rd) cs w) = .next (lone (mkF fn tmps ((jump.map Item.code).toList ++ k) ds kind rd) cs w') :=
  step_lone_go (by simp [stepG, stepG.exec, mkF, Sem.runT_eq, h, GStep.bare_after])
theorem finish_range {l : Nat} {v : Value} : (mkF fn tmps (.inRangeFunc l :: k) ds kind rd).finish v = mkF fn tmps (.endRangeFunc l :: k) ds kind rd := by simp [Frame.finish, mkF]
end
section
variable {P : Program} {lo base : Nat} {C : CallF} {kind : CallKind} {rd : Option Nat} {K : Par → List Frame}
theorem Ends.left {r : Ren} {H : Hp} {w : World} {M : Machine} {k k1 : List Item} {A A' : Fr} {e : Exit} {H' : Hp} {p' : Par} (hx : ∀ id, e = .exit id → exitTo id k1 = exitTo id k) (he : e ≠ .normal)
    (h : Ends P lo base r H w M kind rd K k1 A e A' H' p') : Ends P lo base r H w M kind rd K k A e A' H' p' := by
  obtain ⟨r', w', tmps', ds', pc', h1, h2, h3, h4, h5, h6⟩ := h
  refine ⟨r', w', tmps', ds', pc', h1, h2, h3, h4, ?_, h6⟩
  unfold Arr at h5 ⊢
  split at h5
  · exact absurd rfl he
  · obtain ⟨kx, a, b⟩ := h5; exact ⟨kx, a.trans (hx _ rfl), b⟩
  · exact h5
  · exact h5
  · exact h5.elim
theorem Ends.next {r : Ren} {H H1 : Hp} {w : World} {M : Machine} {k k1 : List Item} {A A1 A' : Fr} {e : Exit} {H' : Hp} {p1 p' : Par} (hlo : lo ≤ H.next) (h : Ends P lo base r H w M kind rd K k1 A .normal A1 H1 p1)
    (g : ∀ r1 w1 tmps1 ds1 pc1, Rel P r1 base H1 w1 → FrR r1 A1 tmps1 ds1 rd → ParR r1 p1 pc1 → (kind = .normal → p1 = none) → lo ≤ H1.next →
      Ends P lo base r1 H1 w1 (lone (mkF A1.fn tmps1 k1 ds1 kind rd) (K pc1) w1) kind rd K k A1 e A' H' p') : Ends P lo base r H w M kind rd K k A e A' H' p' := by
  obtain ⟨r', w', tmps', ds', pc', h1, h2, h3, h4, h5, h6⟩ := h
  have := g r' w' tmps' ds' pc' h1.rel h2 h4 h6 (Nat.le_trans hlo h1.next)
  rw [h3.fn] at this
  exact Ends.of_steps h5 (Ends.after hlo h1 h3 this)
theorem range_R (hC : CallN P C) {f : Nat} {fo : Operand} {params : Array Tmp} {asg body : Code} {k : List Item} {r : Ren} {w : World} {H : Hp} {A : Fr} {tmps : Array Value} {ds : List Deferred} {p pc : Par} {e : Exit} {A' : Fr} {H' : Hp} {p' : Par}
    (h : runCode P lo C (f + 1) (.rangeFunc fo params asg body) A H p = some (e, A', H', p')) (hlo : lo ≤ H.next) (hrel : Rel P r base H w) (hF : FrR r A tmps ds rd) (hp : ParR r p pc) (hn : kind = .normal → p = none) :
    Ends P lo base r H w (lone (mkF A.fn tmps (.code (.rangeFunc fo params asg body) :: k) ds kind rd) (K pc) w) kind rd K k A e A' H' p' := by
  simp only [runCode] at h
  cases hrd : A.round with
  | some l => simp [hrd] at h
  | none =>
    have hrd' : rd = none := by have := hF.R; rw [hrd] at this; exact this
    subst hrd'
    cases hev : ev A fo with
    | none => simp [hrd, hev] at h
    | some v =>
      have kv := evR hF.T hev
      simp only [hrd, hev] at h
      split at h <;> first | (cases h; done) | skip
      rename_i fn first cap _ heq
      cases heq
      generalize hg : evT tmps fo = u at kv
      cases kv with
      | func kfn s1 k1 s2 k2 =>
        rename_i fn' A2 B2
        have post1 : Post P lo base r H w (r.add H.next ⟨w.heap.size, 0, none⟩) (H.new (.dfr (some []))) (w.alloc (.deferred (some []))) :=
          Post.fresh hrel hlo (x := .deferred (some [])) rfl ⟨rfl, rfl, rfl⟩ ⟨[], rfl, .nil⟩
        have e0 : (r.add H.next ⟨w.heap.size, 0, none⟩) H.next = some ⟨w.heap.size, 0, none⟩ := Ren.add_same _ _ _
        have hlo1 : lo ≤ (H.new (.dfr (some []))).next := Nat.le_trans hlo (Nat.le_succ _)
        generalize hr1 : r.add H.next ⟨w.heap.size, 0, none⟩ = r1 at post1 e0
        have hn1 := post1.rel.none_next
        have hle2 := Ren.le_add (⟨(w.alloc (.deferred (some []))).heap.size, 0, none⟩ : Loc) hn1
        have post2 := Post.fresh post1.rel hlo1 (o := .lp .ready none A.fn A.n A.T params.toList asg body H.next)
          (x := .loop { state := .ready, pending := none, fn := A.fn, tmps, params, assign := asg, body, defers := w.heap.size }) (lz := none)
          (w' := (w.alloc (.deferred (some []))).alloc (.loop { state := .ready, pending := none, fn := A.fn, tmps, params, assign := asg, body, defers := w.heap.size })) rfl ⟨rfl, rfl, rfl⟩
          ⟨_, rfl, rfl, rfl, rfl, (hF.T.mono post1.le).mono hle2, rfl, rfl, rfl, _, hle2 _ _ e0, rfl⟩
        have e1 : (r1.add (H.new (.dfr (some []))).next ⟨(w.alloc (.deferred (some []))).heap.size, 0, none⟩) (H.next + 1) = some ⟨w.heap.size + 1, 0, none⟩ := by
          have := Ren.add_same r1 (H.new (.dfr (some []))).next ⟨(w.alloc (.deferred (some []))).heap.size, 0, none⟩
          rw [World.size_alloc] at this ⊢
          exact this
        have e00 := hle2 _ _ e0
        have post := post1.trans hlo post2
        clear post2 hle2
        generalize hr2 : r1.add (H.new (.dfr (some []))).next ⟨(w.alloc (.deferred (some []))).heap.size, 0, none⟩ = r2 at post e1 e00
        generalize hH2 : (H.new (.dfr (some []))).new (.lp .ready none A.fn A.n A.T params.toList asg body H.next) = H2 at post h
        generalize hw2 : (w.alloc (.deferred (some []))).alloc (.loop { state := .ready, pending := none, fn := A.fn, tmps, params, assign := asg, body, defers := w.heap.size }) = w2 at post
        have henter := run_enterLoop_outer (P := P) (w := w) A.fn tmps params asg body
        rw [hw2] at henter
        have hargs : LR r2 (first.toList ++ [.func (.yield (H.next + 1)) #[] #[]]) (A2 ++ #[Value.func (.yield (w.heap.size + 1)) #[] #[]]).toList := by
          have a := (LR_toArray.2 ⟨s1, k1⟩).mono post.le
          have b : LR r2 [.func (.yield (H.next + 1)) #[] #[]] [.func (.yield (w.heap.size + 1)) #[] #[]] :=
            LR.cons (.func (.yield e1) rfl (fun i v v' q => by simp at q) rfl (fun i v v' q => by simp at q)) LR.nil
          have := LR.append a b
          simpa using this
        have hres : (resolve (evT tmps) (rangeCall fo (w.heap.size + 1)) 0).run P w2 = .ok { target := .fn fn' B2, args := A2 ++ #[Value.func (.yield (w.heap.size + 1)) #[] #[]] } w2 := by
          have hcst : ∀ c, evT tmps (.const c) = c := fun _ => rfl
          simp [resolve, Deferred.ofValue, hg, hcst]
        cases hc : C lo (.fn fn cap) (first.toList ++ [.func (.yield (H.next + 1)) #[] #[]]) H2 with
        | none => simp [hc] at h
        | some q =>
          obtain ⟨en, H3⟩ := q
          have hlo2 : lo ≤ H2.next := Nat.le_trans hlo post.next
          obtain ⟨nx, fr0, hi, hfo, hrest⟩ := hC lo _ _ H2 en H3 hc hlo2 r2 base w2 (.fn fn' B2) _ post.rel ⟨_, _, rfl, kfn.mono post.le, (LR_toArray.2 ⟨s2, k2⟩).mono post.le⟩ hargs
          obtain ⟨r3, w3, post3, hend⟩ := hrest (mkF A.fn tmps (.inRangeFunc (w.heap.size + 1) :: k) ([{ target := .collected w.heap.size, args := #[] }] ++ ds) kind none) (K pc)
          have hstep := mv_rangeFunc (k := k) (ds := ds) (kind := kind) (cs := K pc) henter hres hi hfo
          have pp := post.trans hlo post3
          have hF1 : FrR r3 ({ fn := A.fn, n := A.n, T := A.T, defers := { target := .collected H.next, args := #[] } :: A.defers, round := none } : Fr) tmps ([{ target := .collected w.heap.size, args := #[] }] ++ ds) none := by
            have := hF.mono pp.le
            refine ⟨this.T, ?_, rfl⟩
            exact DsR.cons ⟨⟨_, post3.le _ _ e00, rfl⟩, LR.nil⟩ this.D
          simp only [hc] at h
          cases en with
          | pan v =>
            obtain ⟨v', hv, hsteps⟩ := hend
            simp only at h
            cases h
            exact ⟨r3, w3, tmps, _, pc, pp, hF1, ⟨rfl, rfl, hrd.symm⟩, hp.mono pp.le, ⟨_, v', hv, Steps.head hstep hsteps⟩, hn⟩
          | ret v =>
            obtain ⟨v', hv, hsteps⟩ := hend
            simp only at h
            split at h <;> first | (cases h; done) | skip
            rename_i st pe a b c d e' g h' hget
            have hl3 : r3 (H.next + 1) = some ⟨w.heap.size + 1, 0, none⟩ := post3.le _ _ e1
            obtain ⟨R, c1, c2, c3, c4, c5, c6, c7, c8, l9, c9, c10⟩ := post3.rel.cont _ _ _ hl3 hget
            have hst : st ≠ .busy := by rintro rfl; simp at h
            have hend' : (Instr.endLoop (w.heap.size + 1)).run P w3 = .ok pe (w3.putObj (w.heap.size + 1) (.loop { R with state := .exhausted })) := by
              rw [run_endLoop c1 (by rw [c2]; exact hst), c3]
            have hlt : w.heap.size + 1 < w3.heap.size := (post3.rel.at hl3 hget rfl).2
            have post4 := Post.change (lo := lo) post3.rel hl3 ⟨_, hget, by simp, rfl⟩ (by omega) (o := .lp .exhausted pe a b c d e' g h') (w' := w3.putObj (w.heap.size + 1) (.loop { R with state := .exhausted })) (World.putObj_size) (fun k hk => World.putObj_heap_other hk) ⟨rfl, rfl, rfl⟩
              ⟨{ R with state := .exhausted }, World.putObj_heap_same hlt, rfl, c3, c4, c5, c6, c7, c8, l9, c9, c10⟩
            have pq := pp.trans hlo post4
            rw [finish_range] at hsteps
            have hall := (Steps.head hstep hsteps).trans (Steps.one (mv_endRangeFunc (k := k) hend'))
            split at h
            · exact absurd rfl hst
            split at h <;> first | (cases h; done) | skip
            all_goals
              cases h
              exact ⟨r3, _, tmps, _, pc, pq, hF1, ⟨rfl, rfl, hrd.symm⟩, hp.mono pp.le, by first | exact hall | exact ⟨_, rfl, hall⟩ | exact ⟨_, hall⟩, hn⟩
end
end Go.Ax

import Derived.Test.YtkdgngdnmgelnaaAxS25
set_option linter.all false
namespace Go.Ax
open Go Go.RowKit
section
variable {P : Program} {lo base : Nat} {C : CallF} {kind : CallKind} {rd : Option Nat} {K : Par → List Frame}
theorem code_R (hC : CallN P C) (hA : CallA C) (hm : P.follows .mixedOrders = true) (hK : KOK kind K) : ∀ (f : Nat),
    (∀ (c : Code) (k : List Item) (r : Ren) (w : World) (H : Hp) (A : Fr) (tmps : Array Value) (ds : List Deferred) (p pc : Par) (e : Exit) (A' : Fr) (H' : Hp) (p' : Par),
      runCode P lo C f c A H p = some (e, A', H', p') → lo ≤ H.next → Rel P r base H w → FrR r A tmps ds rd → ParR r p pc → (kind = .normal → p = none) →
      Ends P lo base r H w (lone (mkF A.fn tmps (.code c :: k) ds kind rd) (K pc) w) kind rd K k A e A' H' p') ∧
    (∀ (b : Code) (k : List Item) (r : Ren) (w : World) (H : Hp) (A : Fr) (tmps : Array Value) (ds : List Deferred) (p pc : Par) (e : Exit) (A' : Fr) (H' : Hp) (p' : Par),
      runCode P lo C f (.loop b) A H p = some (e, A', H', p') → lo ≤ H.next → Rel P r base H w → FrR r A tmps ds rd → ParR r p pc → (kind = .normal → p = none) →
      Ends P lo base r H w (lone (mkF A.fn tmps (.inLoop b :: k) ds kind rd) (K pc) w) kind rd K k A e A' H' p') := by
  intro f
  induction f with
  | zero =>
    exact ⟨fun c k r w H A tmps ds p pc e A' H' p' h => by simp [runCode] at h, fun b k r w H A tmps ds p pc e A' H' p' h => by simp [runCode] at h⟩
  | succ f ih =>
    have loopc : ∀ (b : Code) (k : List Item) (r : Ren) (w : World) (H : Hp) (A : Fr) (tmps : Array Value) (ds : List Deferred) (p pc : Par) (e : Exit) (A' : Fr) (H' : Hp) (p' : Par),
        runCode P lo C (f + 1) (.loop b) A H p = some (e, A', H', p') → lo ≤ H.next → Rel P r base H w → FrR r A tmps ds rd → ParR r p pc → (kind = .normal → p = none) →
        Ends P lo base r H w (lone (mkF A.fn tmps (.code b :: .inLoop b :: k) ds kind rd) (K pc) w) kind rd K k A e A' H' p' := by
      intro b k r w H A tmps ds p pc e A' H' p' h hlo hrel hF hp hn
      simp only [runCode] at h
      cases hx : runCode P lo C f b A H p with
      | none => rw [hx] at h; simp at h
      | some q =>
        obtain ⟨e1, A1, H1, p1⟩ := q
        have q := ih.1 b (.inLoop b :: k) r w H A tmps ds p pc _ _ _ _ hx hlo hrel hF hp hn
        rw [hx] at h
        cases e1 with
        | normal =>
          simp only at h
          exact q.next hlo fun r1 w1 tm1 ds1 pc1 a b' c d e => ih.2 b k r1 w1 _ _ tm1 ds1 _ pc1 _ _ _ _ h e a b' c d
        | _ =>
          simp only at h
          cases h
          exact q.left (fun id _ => by simp [exitTo]) (by simp)
    refine ⟨?_, fun b k r w H A tmps ds p pc e A' H' p' h hlo hrel hF hp hn => Ends.of_steps (Steps.one mv_inLoop) (loopc b k r w H A tmps ds p pc e A' H' p' h hlo hrel hF hp hn)⟩
    intro c k r w H A tmps ds p pc e A' H' p' h hlo hrel hF hp hn
    cases c with
    | skip => simp only [runCode] at h; cases h; exact ⟨r, w, tmps, ds, pc, Post.refl hrel, hF, .refl _, hp, Steps.one mv_skip, hn⟩
    | label l => simp only [runCode] at h; cases h; exact ⟨r, w, tmps, ds, pc, Post.refl hrel, hF, .refl _, hp, Steps.one mv_label, hn⟩
    | exit id => simp only [runCode] at h; cases h; exact ⟨r, w, tmps, ds, pc, Post.refl hrel, hF, .refl _, hp, ⟨k, rfl, .refl _ _⟩, hn⟩
    | ret => simp only [runCode] at h; cases h; exact ⟨r, w, tmps, ds, pc, Post.refl hrel, hF, .refl _, hp, ⟨k, .refl _ _⟩, hn⟩
    | seq x y =>
      simp only [runCode] at h
      refine Ends.of_steps (Steps.one mv_seq) ?_
      cases hx : runCode P lo C f x A H p with
      | none => rw [hx] at h; simp at h
      | some q =>
        obtain ⟨e1, A1, H1, p1⟩ := q
        have q := ih.1 x (.code y :: k) r w H A tmps ds p pc _ _ _ _ hx hlo hrel hF hp hn
        rw [hx] at h
        cases e1 with
        | normal =>
          simp only at h
          exact q.next hlo fun r1 w1 tm1 ds1 pc1 a b' c d e => ih.1 y k r1 w1 _ _ tm1 ds1 _ pc1 _ _ _ _ h e a b' c d
        | _ =>
          simp only at h
          cases h
          exact q.left (fun id _ => by simp [exitTo]) (by simp)
    | cond o x y =>
      simp only [runCode] at h
      split at h <;> first | (cases h; done) | skip
      · rename_i he
        have hv := bool_same (evR hF.T he)
        have := mv_cond (P := P) (fn := A.fn) (k := k) (ds := ds) (kind := kind) (rd := rd) (cs := K pc) (w := w) (x := x) (y := y) hv
        simp only [if_true] at this
        exact Ends.of_steps (Steps.one this) (ih.1 x k r w H A tmps ds p pc _ _ _ _ h hlo hrel hF hp hn)
      · rename_i he
        have hv := bool_same (evR hF.T he)
        have := mv_cond (P := P) (fn := A.fn) (k := k) (ds := ds) (kind := kind) (rd := rd) (cs := K pc) (w := w) (x := x) (y := y) hv
        simp only [Bool.false_eq_true, if_false] at this
        exact Ends.of_steps (Steps.one this) (ih.1 y k r w H A tmps ds p pc _ _ _ _ h hlo hrel hF hp hn)
    | block id b =>
      simp only [runCode] at h
      refine Ends.of_steps (Steps.one mv_block) ?_
      cases hx : runCode P lo C f b A H p with
      | none => rw [hx] at h; simp at h
      | some q =>
        obtain ⟨e1, A1, H1, p1⟩ := q
        have q := ih.1 b (.inBlock id :: k) r w H A tmps ds p pc _ _ _ _ hx hlo hrel hF hp hn
        rw [hx] at h
        cases e1 with
        | normal =>
          simp only at h
          cases h
          exact q.next hlo fun r1 w1 tm1 ds1 pc1 a b' c d e => ⟨r1, w1, tm1, ds1, pc1, Post.refl a, b', .refl _, c, Steps.one mv_inBlock, d⟩
        | exit j =>
          simp only at h
          cases hj : Nat.beq j id with
          | true =>
            rw [hj] at h
            simp only [cond_true] at h
            cases h
            have hji : j = id := Nat.eq_of_beq_eq_true hj
            subst hji
            obtain ⟨r', w', tmps', ds', pc', h1, h2, h3, h4, ⟨kx, hk, hs⟩, h6⟩ := q
            have hk' : exitTo j kx = some k := by rw [hk]; simp [exitTo]
            exact ⟨r', w', tmps', ds', pc', h1, h2, h3, h4, hs.trans (Steps.one (mv_exit hk')), h6⟩
          | false =>
            rw [hj] at h
            simp only [cond_false] at h
            cases h
            refine q.left (fun id' hid => ?_) (by simp)
            cases hid
            have hne : id ≠ j := by rintro rfl; simp at hj
            simp [exitTo, hne]
        | _ =>
          simp only at h
          cases h
          exact q.left (fun id' hid => by cases hid) (by simp)
    | loop b => exact Ends.of_steps (Steps.one mv_loop) (loopc b k r w H A tmps ds p pc e A' H' p' h hlo hrel hF hp hn)
    | region id ops draw =>
      simp only [runCode] at h
      cases draw with
      | true =>
        simp only [cond_true] at h
        split at h
        · rename_i hd
          cases h
          obtain ⟨r', w', tm', h1, h2, h3, h4⟩ := draw_R (kind := kind) hC hA hm hd hlo hrel hF id k (K pc)
          exact ⟨r', w', tm', ds, pc, h1, h2, h3, hp.mono h1.le, h4, hn⟩
        · split at h <;> first | (cases h; done) | skip
          rename_i hd
          cases h
          obtain ⟨r', w', tm', td, v', h1, h2, h3, h4⟩ := draw_P (kind := kind) hC hA hm hd hlo hrel hF id k (K pc)
          exact ⟨r', w', tm', ds, pc, h1, h3, ⟨rfl, rfl, rfl⟩, hp.mono h1.le, ⟨td, v', h2, h4⟩, hn⟩
      | false =>
        simp only [cond_false] at h
        exact Ends.of_steps (Steps.one mv_region) (ops_R hC hK k ops _ r w H A tmps ds p pc e A' H' p' h hlo hrel hF hp hn)
    | rangeFunc fo params asg body => exact range_R hC h hlo hrel hF hp hn
    | scope b => simp [runCode] at h
    | goto l => simp [runCode] at h
    | refuse s => simp [runCode] at h
end
end Go.Ax

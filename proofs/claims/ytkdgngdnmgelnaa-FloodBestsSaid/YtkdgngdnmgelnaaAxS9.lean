import Derived.Test.YtkdgngdnmgelnaaAxS8
set_option linter.all false
namespace Go.Ax
open Go Go.RowKit
section
variable {P : Program} {lo base : Nat} {r : Ren} {H : Hp} {w : World}
def Src (P : Program) (w : World) (xT : TypeId) (size : Nat) (z x : Value) (n : Nat) (news : List Value) : Prop :=
  (∃ e1, P.underlying xT = some (.slice e1) ∧ (Builtin.lenOf x).run P w = .ok n w ∧ ∀ w' : World, w'.heap = w.heap → (Builtin.firstCells size n x).run P w' = .ok news.toArray w') ∨
  (∃ k kx, P.underlying xT = some (.int k) ∧ x = .int kx n ∧ news = zeros z.cells.toList n)
theorem run_place {sT xT ty e : TypeId} {i : TypeInfo} {z s x : Value} {b : Option Addr} {len cap n size : Nat} {news : List Value} (hu : P.underlying sT = some (.slice e)) (hi : P.info? e = some i) (hsz : i.size = size) (hb : i.bytes ≤ 1048576)
    (hz : ∀ w, (zeroValue e).run P w = .ok z w) (hzs : z.cells.size = size) (hs : s = .slice b len cap) (hfit : len + n ≤ cap) (hneed : len + n ≤ 1048576) (hx : Src P w xT size z x n news) {w' : World}
    (hst : match b with | some a => (storeCells (a.add (len * size)) news).run P w = .ok () w' | none => w' = w) :
    (Builtin.append_ #[sT, xT] ty #[s, x]).run P w = .ok (.slice b (len + n) cap) w' := by
  subst hs
  rcases hx with ⟨e1, hd, hlen, hnew⟩ | ⟨k, kx, hd, rfl, rfl⟩
  · unfold Builtin.append_
    simp only [List.getElem?_toArray, List.getElem?_cons_zero, List.getElem?_cons_succ, Sem.run_bind, run_underlying hu, run_underlying hd, Result.andThen_ok, run_size hi, Sem.run_pure, Bool.false_eq_true, if_false, hlen, hfit, if_true, hsz, Bool.not_false, hnew w rfl]
    cases b with
    | none => simp only at hst; subst hst; rfl
    | some a => simp only at hst; simp only [Sem.run_bind, hst, Result.andThen_ok, Sem.run_pure]
  · have hw : IntKind.i64.wrap (n : Int) = n := by rw [IntKind.wrap_i64]; omega
    have hneg : ¬ ((n : Int) < 0) := by omega
    have hbig : ¬ ((n : Int) * (i.bytes : Int) > 2 ^ 48) := by
      have : n * i.bytes ≤ 1048576 * 1048576 := Nat.mul_le_mul (by omega) hb
      have : ((n * i.bytes : Nat) : Int) ≤ 1099511627776 := by omega
      rw [Int.natCast_mul] at this
      omega
    have hzn : Builtin.zeroCells z.cells n = (zeros z.cells.toList n).toArray := by
      unfold Builtin.zeroCells; exact zeros_range _ _
    have hne : ¬ (n * size = 0) ∨ (n * size = 0 ∧ (zeros z.cells.toList n) = []) := by
      by_cases h : n * size = 0
      · refine .inr ⟨h, List.eq_nil_of_length_eq_zero ?_⟩
        rw [zeros_length]; simpa [hzs] using h
      · exact .inl h
    unfold Builtin.append_
    simp only [List.getElem?_toArray, List.getElem?_cons_zero, List.getElem?_cons_succ, Sem.run_bind, run_underlying hu, run_underlying hd, Result.andThen_ok, run_size hi, Sem.run_pure, if_true, asInt, asIntOf, hw, hneg, if_false, run_info hi, hbig, Int.toNat_natCast, hfit, hsz, Bool.not_true, Bool.false_eq_true]
    rcases hne with h | ⟨h, h'⟩
    · simp only [h, if_false, Sem.run_bind, hz, Result.andThen_ok, Sem.run_pure, hzn]
      cases b with
      | none => simp only at hst; subst hst; rfl
      | some a => simp only at hst; simp only [Sem.run_bind, hst, Result.andThen_ok, Sem.run_pure]
    · rw [h'] at hst
      simp only [h, if_true, Sem.run_pure, Result.andThen_ok, Sem.run_bind]
      cases b with
      | none => simp only at hst; subst hst; rfl
      | some a =>
        simp only at hst
        have : storeCells (a.add (len * size)) (#[] : Array Value).toList = storeCells (a.add (len * size)) [] := rfl
        simp only [this, Sem.run_bind, hst, Result.andThen_ok, Sem.run_pure]
def ValS (P : Program) (lo base : Nat) (r : Ren) (H : Hp) (w : World) (s : Sem Value) (v : Value) (H' : Hp) : Prop :=
  ∃ r' v' w', s.run P w = .ok v' w' ∧ VR r' v v' ∧ Post P lo base r H w r' H' w'
theorem append_R (h : Rel P r base H w) (hlo : lo ≤ H.next) {sT xT ty e : TypeId} {i : TypeInfo} {z s s' x' : Value} {n size : Nat} {news L : List Value} {v : Value} {H' : Hp} {k : Kd} (hu : P.underlying sT = some (.slice e)) (hsz0 : 0 < size) (hcells : P.cellsOf e = size)
    (hi : P.info? e = some i) (hsz : i.size = size) (hb : i.bytes ≤ 1048576) (hz : zeroOf P e = some z) (hzs : z.cells.size = size) (ks : VR r s s') (kn : LR r news L) (hL : L.length = n * size) (hx : Src P w xT size z x' n L)
    (ha : appendV lo H e size s n news = some (.val v H', k)) : ValS P lo base r H w (Builtin.append_ #[sT, xT] ty #[s', x']) v H' := by
  have hzr := fun w => (run_zero hz w).1
  have hnl : news.length = n * size := by rw [kn.1]; exact hL
  have hsrc' : ∀ w' : World, w'.heap = w.heap → Src P w' xT size z x' n L := fun w' hw => by
    rcases hx with ⟨e1, a, b, c⟩ | q
    · refine .inl ⟨e1, a, ?_, fun w2 h2 => c w2 (h2.trans hw)⟩
      cases x' <;> first | (simp [Builtin.lenOf, stuck] at b; done) | (simp [Builtin.lenOf] at b ⊢; exact b)
    · exact .inr q
  unfold appendV at ha
  split at ha
  · -- nil
    rename_i len c
    obtain ⟨hc, ha⟩ := bif_some ha
    simp only [Bool.and_eq_true, beq_eq, decide_eq_true_eq, flat1] at hc
    obtain ⟨⟨⟨hl0, hc0⟩, _⟩, hn⟩ := hc
    have hn := Nat.le_of_ble_eq_true hn
    subst hl0; subst hc0
    cases ks
    by_cases hn0 : n = 0
    · subst hn0
      simp only [beq_eq, decide_true, cond_true] at ha
      cases ha
      refine ⟨r, _, w, run_place hu hi hsz hb hzr hzs rfl (by omega) (by omega) hx (w' := w) rfl, .nilSlice, Post.refl h⟩
    · simp only [beq_eq, hn0, decide_false, cond_false] at ha
      cases ha
      obtain ⟨newCap, w', hrun, hge, hw'⟩ := run_grow (P := P) (w := w) (sT := sT) (xT := xT) (ty := ty) (s := .slice none 0 0) (x := x') (old := []) (news := L) hu hi hsz hb hzr hzs rfl (n := n) (by omega) (by omega) (fun w' _ => rfl) hx
      have hrel := h.drew (w.drawn + 1)
      have hp := Post.loose_ (lo := lo) hrel hlo (C := L.toArray) (cs := news) (rest := zeros z.cells.toList (newCap - (0 + n))) (e := e) (total := newCap * size) (sz := size) (by simpa using kn) hsz0 hcells (by
        rw [zeros_length]; simp only [List.size_toArray, Array.length_toList, hL, hzs]
        rw [← Nat.add_mul]; congr 1; omega)
      refine ⟨r.add H.next ⟨w.heap.size, 0, some (newCap * size, size)⟩, _, w', hrun, ?_, ?_⟩
      rotate_left
      · rw [hw']
        have e1 : ((([] : List Value).toArray ++ L.toArray) ++ (zeros z.cells.toList (newCap - (0 + n))).toArray) = L.toArray ++ (zeros z.cells.toList (newCap - (0 + n))).toArray := by simp
        rw [e1]
        exact ⟨hp.le, hp.rel, hp.next, hp.place, hp.keep, hp.old, ⟨hp.str.os, hp.str.tape, hp.str.output, hp.str.size⟩⟩
      · simp only [Nat.zero_add] at hge ⊢
        have := VR.loose (r := Ren.add r H.next ⟨w.heap.size, 0, some (newCap * size, size)⟩) (o := 0) (n := n) (c := n) (c' := newCap) (Ren.add_same r H.next ⟨w.heap.size, 0, some (newCap * size, size)⟩) rfl hge (by simp)
        simpa using this
  · -- a slice with an address
    rename_i a len cap
    obtain ⟨hneed, ha⟩ := bif_some ha
    have hneed := Nat.le_of_ble_eq_true hneed
    by_cases hn0 : n = 0
    · subst hn0
      simp only [beq_eq, decide_true, cond_true] at ha
      cases ha
      obtain ⟨x0, c', e3, hle⟩ : ∃ x0 c', s' = .slice (some x0) len c' ∧ len ≤ c' := by
        cases ks with
        | slice e l q => exact ⟨_, _, rfl, q⟩
        | loose e l a b => exact ⟨_, _, rfl, a⟩
        | weird => exact ⟨_, _, rfl, Nat.zero_le _⟩
      have hL0 : L = [] := List.eq_nil_of_length_eq_zero (by simpa using hL)
      subst hL0
      refine ⟨r, s', w, ?_, ks, Post.refl h⟩
      rw [e3]
      exact run_place hu hi hsz hb hzr hzs rfl (by omega) (by omega) hx (w' := w) rfl
    · simp only [beq_eq, hn0, decide_false, cond_false] at ha
      have hsp : a.spot = none := by
        cases q : a.spot with
        | none => rfl
        | some x => simp [q] at ha
      obtain ⟨loc, c', e1, e2, e3, e4⟩ := slice_R ks (.inl hsp)
      obtain ⟨ab, ao, asp⟩ := a
      simp only at e1 e2 e3 e4 ha hsp
      subst e2
      split at ha <;> first | (cases ha; done) | skip
      · -- a block that is known whole
        rename_i cs e' _ hget
        obtain ⟨C, hC, hcR, hzz⟩ := block_R h e1 hget
        rcases hzz with ⟨_, hln, hd0, hCs⟩ | ⟨_, _, hf, _⟩
        rotate_left
        · cases hf
        rcases e4 with ⟨_, hcc, hle⟩ | ⟨_, _, hf, _⟩
        rotate_left
        · rw [hln] at hf; cases hf
        subst hcc
        by_cases hcap : len + n ≤ c'
        · rw [Nat.ble_eq_true_of_le hcap] at ha
          simp only [cond_true] at ha
          obtain ⟨hc, ha⟩ := bif_some ha
          simp only [Bool.and_eq_true] at hc
          obtain ⟨⟨h1, h2⟩, h3⟩ := hc
          have h1 := Nat.le_of_ble_eq_true h1
          have h2 := Nat.le_of_ble_eq_true h2
          cases ha
          have hmul : (len + n) * size = len * size + n * size := Nat.add_mul _ _ _
          have hp := Post.put (lo := lo) h e1 hget h1 hC kn (ao + len * size) (by omega)
          refine ⟨r, .slice (some ⟨loc.blk, ao + loc.delta, none⟩) (len + n) c', _, ?_, .slice e1 hln hcap, hp⟩
          rw [e3]
          refine run_place hu hi hsz hb hzr hzs rfl hcap hneed hx ?_
          simp only
          rw [add_off]
          have := run_storeCells_at P loc.blk (ao + loc.delta + len * size) e' L 0 C w hC (by omega) (ones_R h3 kn)
          have hD : ao + loc.delta + len * size = loc.delta + (ao + len * size) := by omega
          rw [hD] at this ⊢
          simpa [laid] using this
        · have hb' : Nat.ble (len + n) c' = false := by
            cases hq : Nat.ble (len + n) c' with
            | false => rfl
            | true => exact absurd (Nat.le_of_ble_eq_true hq) hcap
          rw [hb'] at ha
          simp only [cond_false] at ha
          cases hrow : row (len * size) cs ao with
          | none => rw [hrow] at ha; cases ha
          | some old =>
            rw [hrow] at ha
            cases ha
            obtain ⟨el, hol⟩ := row_some hrow
            have hsrc : srcCells H size (.slice (some ⟨ab, ao, none⟩) len c') = some (len, old) := by simp [srcCells, cellsOf, hget, hrow]
            obtain ⟨O, kO, _, hfc, hOl⟩ := src_R h ks hsrc
            rw [e3] at hfc
            obtain ⟨newCap, w', hrun, hge, hw'⟩ := run_grow (P := P) (w := w) (sT := sT) (xT := xT) (ty := ty) (s := s') (x := x') (old := O) (news := L) hu hi hsz hb hzr hzs e3 (n := n) (by omega) (by omega) (fun w' hw => by rw [e3]; exact hfc w' hw) hx
            have hrel := h.drew (w.drawn + 1)
            have hp := Post.loose_ (lo := lo) hrel hlo (C := O.toArray ++ L.toArray) (cs := old ++ news) (rest := zeros z.cells.toList (newCap - (len + n))) (e := e) (total := newCap * size) (sz := size) (by simpa using kO.append kn) hsz0 hcells (by
              rw [zeros_length]; simp only [Array.size_append, List.size_toArray, Array.length_toList, hL, hOl, hzs]
              rw [← Nat.add_mul, ← Nat.add_mul]; congr 1; omega)
            refine ⟨r.add H.next ⟨w.heap.size, 0, some (newCap * size, size)⟩, _, w', hrun, ?_, ?_⟩
            rotate_left
            · rw [hw']
              exact ⟨hp.le, hp.rel, hp.next, hp.place, hp.keep, hp.old, ⟨hp.str.os, hp.str.tape, hp.str.output, hp.str.size⟩⟩
            · have := VR.loose (r := Ren.add r H.next ⟨w.heap.size, 0, some (newCap * size, size)⟩) (o := 0) (n := len + n) (c := len + n) (c' := newCap) (Ren.add_same r H.next ⟨w.heap.size, 0, some (newCap * size, size)⟩) rfl hge (by simp)
              simpa using this
      · -- a block with room behind what is known
        rename_i cs e' _ hget
        obtain ⟨hc, ha⟩ := bif_some ha
        simp only [Bool.and_eq_true, beq_eq, decide_eq_true_eq] at hc
        obtain ⟨⟨hee, h1⟩, h3⟩ := hc
        have h1 := Nat.le_of_ble_eq_true h1
        subst hee
        obtain ⟨C, hC, hcR, hzz⟩ := block_R h e1 hget
        rcases hzz with ⟨hf, _⟩ | ⟨total, sz, _, hlo2, hCs, hct, hsz2, hce⟩
        · cases hf
        have hszz : sz = size := by rw [← hce]; exact hcells
        subst hszz
        rcases e4 with ⟨hf, _⟩ | ⟨t2, s2, hlo3, hle, heq⟩
        · rw [hlo2] at hf; cases hf
        rw [hlo2] at hlo3; cases hlo3
        have hmul : (len + n) * sz = len * sz + n * sz := Nat.add_mul _ _ _
        by_cases hin : ao + (len + n) * sz ≤ cs.length
        · rw [Nat.ble_eq_true_of_le hin] at ha
          simp only [cond_true] at ha
          cases ha
          have hcap : len + n ≤ c' := by
            have : (len + n) * sz ≤ c' * sz := by omega
            exact Nat.le_of_mul_le_mul_right this hsz2
          have hp := Post.put (lo := lo) h e1 hget h1 hC kn (ao + len * sz) (by omega)
          refine ⟨r, .slice (some ⟨loc.blk, ao + loc.delta, none⟩) (len + n) c', _, ?_, .loose e1 hlo2 hcap heq, hp⟩
          rw [e3]
          refine run_place hu hi hsz hb hzr hzs rfl hcap hneed hx ?_
          simp only
          rw [add_off]
          have := run_storeCells_at P loc.blk (ao + loc.delta + len * sz) e L 0 C w hC (by omega) (ones_R h3 kn)
          have hD : ao + loc.delta + len * sz = loc.delta + (ao + len * sz) := by omega
          rw [hD] at this ⊢
          simpa [laid] using this
        · have hb' : Nat.ble (ao + (len + n) * sz) cs.length = false := by
            cases hq : Nat.ble (ao + (len + n) * sz) cs.length with
            | false => rfl
            | true => exact absurd (Nat.le_of_ble_eq_true hq) hin
          rw [hb'] at ha
          simp only [cond_false] at ha
          obtain ⟨hend, ha⟩ := bif_some ha
          simp only [decide_eq_true_eq] at hend
          cases ha
          by_cases hcap : len + n ≤ c'
          · -- it is written in place, beyond what is known
            have hcm : (len + n) * sz ≤ c' * sz := Nat.mul_le_mul_right _ hcap
            let W := w.setRow loc.blk (laid C (loc.delta + (ao + len * sz)) L)
            have hfit2 : loc.delta + (ao + len * sz) + L.length ≤ C.size := by omega
            have hW : W.heap[loc.blk]? = some (.cells (laid C (loc.delta + (ao + len * sz)) L) e (0, 0)) := setRow_heap w _ C _ e _ hC
            have hle2 := Ren.le_add (⟨loc.blk, loc.delta + ao, loc.loose⟩ : Loc) h.none_next
            have hp : Post P lo base r H w (r.add H.next ⟨loc.blk, loc.delta + ao, loc.loose⟩) ({ H with t := H.t.set ab .dead }.new (.cells (cs.drop ao ++ news) e true)) W := by
              refine Post.move h hlo e1 ⟨_, hget, by simp, rfl⟩ h1 (setRow_size _ _ _) (fun q hq => setRow_other _ _ _ _ hq) ⟨rfl, rfl, rfl⟩ ?_
              refine ⟨_, hW, ?_, .inr ⟨total, sz, rfl, hlo2, ?_, ?_, hsz2, hce⟩⟩
              · intro j u hj
                have hdl : (cs.drop ao).length = len * sz := by simp; omega
                by_cases hj1 : j < len * sz
                · rw [List.getElem?_append_left (by omega), List.getElem?_drop] at hj
                  obtain ⟨u', f1, f2⟩ := hcR _ u hj
                  refine ⟨u', ?_, f2.mono hle2⟩
                  show (laid C (loc.delta + (ao + len * sz)) L)[loc.delta + ao + j]? = _
                  rw [laid_get hfit2, if_neg (by omega)]
                  have : loc.delta + ao + j = loc.delta + (ao + j) := by omega
                  rw [this]; exact f1
                · rw [List.getElem?_append_right (by omega), hdl] at hj
                  obtain ⟨u', f1, f2⟩ := kn.get hj
                  refine ⟨u', ?_, f2.mono hle2⟩
                  have hjl : j - len * sz < L.length := by
                    rcases Nat.lt_or_ge (j - len * sz) L.length with q | q
                    · exact q
                    · rw [List.getElem?_eq_none q] at f1; cases f1
                  show (laid C (loc.delta + (ao + len * sz)) L)[loc.delta + ao + j]? = _
                  have hj2 : len * sz ≤ j := by omega
                  have hj3 : j < len * sz + L.length := by omega
                  rw [laid_get hfit2, if_pos ⟨by omega, by omega⟩]
                  have : loc.delta + ao + j - (loc.delta + (ao + len * sz)) = j - len * sz := by omega
                  rw [this]; exact f1
              · rw [laid_size hfit2]; exact hCs
              · simp only [List.length_append, List.length_drop]; omega
            refine ⟨_, .slice (some ⟨loc.blk, ao + loc.delta, none⟩) (len + n) c', W, ?_, ?_, hp⟩
            · rw [e3]
              refine run_place hu hi hsz hb hzr hzs rfl hcap hneed hx ?_
              simp only
              rw [add_off]
              have := run_storeCells_at P loc.blk (ao + loc.delta + len * sz) e L 0 C w hC (by omega) (ones_R h3 kn)
              have hD : ao + loc.delta + len * sz = loc.delta + (ao + len * sz) := by omega
              rw [hD] at this ⊢
              simpa [laid, W] using this
            · have := VR.loose (r := Ren.add r H.next ⟨loc.blk, loc.delta + ao, loc.loose⟩) (o := 0) (n := len + n) (c := len + n) (c' := c') (Ren.add_same r H.next ⟨loc.blk, loc.delta + ao, loc.loose⟩) hlo2 hcap (by simp only; omega)
              simpa [Nat.add_comm] using this
          · -- it grows
            have hold : ∀ w' : World, w'.heap = w.heap → (Builtin.firstCells sz len s').run P w' = .ok ((C.toList.drop (ao + loc.delta)).take (len * sz)).toArray w' := fun w' hw => by
              rw [e3]
              have r2 := run_loadCells_list (P := P) w' ⟨loc.blk, ao + loc.delta, none⟩ ((C.toList.drop (ao + loc.delta)).take (len * sz)) (fun j u hj => by
                rw [add_off, cell_of w' (by rw [hw]; exact hC)]
                rw [List.getElem?_take] at hj
                split at hj
                · rw [List.getElem?_drop, Array.getElem?_toList] at hj; exact hj
                · cases hj)
              have hll : ((C.toList.drop (ao + loc.delta)).take (len * sz)).length = len * sz := by simp; omega
              rw [hll] at r2
              exact r2
            have kO : LR r (cs.drop ao) ((C.toList.drop (ao + loc.delta)).take (len * sz)) := by
              refine ⟨by simp; omega, fun j u u' g1 g2 => ?_⟩
              rw [List.getElem?_drop] at g1
              rw [List.getElem?_take] at g2
              split at g2
              · rw [List.getElem?_drop, Array.getElem?_toList] at g2
                obtain ⟨u2, f1, f2⟩ := hcR _ u g1
                have : ao + loc.delta + j = loc.delta + (ao + j) := by omega
                rw [this, f1] at g2
                cases g2; exact f2
              · cases g2
            obtain ⟨newCap, w', hrun, hge, hw'⟩ := run_grow (P := P) (w := w) (sT := sT) (xT := xT) (ty := ty) (s := s') (x := x') (news := L) hu hi hsz hb hzr hzs e3 (n := n) hcap (by omega) hold hx
            have hk := Post.change (lo := lo) (h.drew (w.drawn + 1)) e1 ⟨_, hget, by simp, rfl⟩ h1 (o := .dead) (w' := { w with drawn := w.drawn + 1 }) rfl (fun _ _ => rfl) ⟨rfl, rfl, rfl⟩ trivial
            have hp := Post.loose_ (lo := lo) hk.rel (by exact hlo) (C := ((C.toList.drop (ao + loc.delta)).take (len * sz)).toArray ++ L.toArray) (cs := cs.drop ao ++ news) (rest := zeros z.cells.toList (newCap - (len + n))) (e := e) (total := newCap * sz) (sz := sz) (by simpa using kO.append kn) hsz0 hcells (by
              have hOl : ((C.toList.drop (ao + loc.delta)).take (len * sz)).length = len * sz := by simp; omega
              rw [zeros_length]; simp only [Array.size_append, List.size_toArray, Array.length_toList, hL, hOl, hzs]
              rw [← Nat.add_mul, ← Nat.add_mul]; congr 1; omega)
            have hpp := Post.trans (by exact hlo) hk hp
            refine ⟨r.add H.next ⟨w.heap.size, 0, some (newCap * sz, sz)⟩, _, w', hrun, ?_, ?_⟩
            rotate_left
            · rw [hw']
              exact ⟨hpp.le, hpp.rel, hpp.next, hpp.place, hpp.keep, hpp.old, ⟨hpp.str.os, hpp.str.tape, hpp.str.output, hpp.str.size⟩⟩
            · have := VR.loose (r := Ren.add r H.next ⟨w.heap.size, 0, some (newCap * sz, sz)⟩) (o := 0) (n := len + n) (c := len + n) (c' := newCap) (Ren.add_same r H.next ⟨w.heap.size, 0, some (newCap * sz, sz)⟩) rfl hge (by simp)
              simpa using this
  · cases ha
end
end Go.Ax

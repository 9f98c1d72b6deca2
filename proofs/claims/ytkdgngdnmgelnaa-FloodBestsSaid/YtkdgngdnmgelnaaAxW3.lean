import Derived.Test.YtkdgngdnmgelnaaAxW2
set_option linter.all false
/-! The evaluator for all inputs, 3: what is asked is enough for regions and code. -/
namespace Go.Ax
open Go Go.RowKit
noncomputable def putTr (T : Tr Value) (d : Option Nat) (v : Value) : Tr Value := match d with | none => T | some d => T.set d v
theorem knows_put {S : Rg} {T : Tr Value} (h : Knows S T) (d : Option Nat) (v : Value) : Knows (putS S d v) (putTr T d v) := by
  cases d with
  | none => exact h
  | some d =>
    intro j u hj
    simp only [putS, lk, beq_eq] at hj
    simp only [putTr, Tr.get_set]
    by_cases e : j = d
    · subst e; simpa using hj
    · rw [decide_eq_false (fun q => e q.symm)] at hj
      rw [if_neg e]
      exact h j u hj
theorem put_ok {A : Fr} {d : Option Nat} (h : (match d with | none => true | some d => Nat.ble (d + 1) A.n) = true) (v : Value) : A.put d v = some { A with T := putTr A.T d v } := by
  cases d with
  | none => rfl
  | some d => simp only [Fr.put]; simp only at h; rw [h]; rfl
section
variable {P : Program} {kn : FuncId → Option Bool} {lo n : Nat}
theorem wRO_sound {ops : Array Oper} {ord : Bool} {A : Fr} {S : Rg} {H : Hp} {K : Rg → Hp → Kd → Prop} {o : Oper} {ro : RO} (hl : lowRO P n ops.toList ord o = some ro) (hA : Knows S A.T) (hn : A.n = n) (h : wRO P kn lo n S H ro K) :
    (∀ v, A.put o.dst v = some { A with T := putTr A.T o.dst v }) ∧
    ((wantedA ops A o = some false ∧ K (putS S o.dst undef) H .pure) ∨ (wantedA ops A o = some true ∧ DoneO P kn lo ord A H (fun v H' k => K (putS S o.dst v) H' k) o)) := by
  unfold lowRO at hl
  split at hl <;> first | (cases hl; done) | skip
  rename_i ri hri
  obtain ⟨hd, hl⟩ := bif_some hl
  refine ⟨put_ok (by rw [hn]; exact hd), ?_⟩
  split at hl
  · rename_i hg
    cases hl
    simp only [wRO] at h
    exact .inr ⟨by unfold wantedA; rw [hg], wRI_sound hri hA h⟩
  · rename_i j w hg
    split at hl <;> first | (cases hl; done) | skip
    rename_i g hj
    split at hl <;> first | (cases hl; done) | skip
    rename_i d hgd
    cases hl
    have hj' : ops[j]? = some g := by simpa using hj
    simp only [wRO] at h
    split at h <;> first | exact h.elim | skip
    · rename_i hb
      have hw : wantedA ops A o = some (true == w) := by unfold wantedA; rw [hg]; simp only [hj', hgd, hA d _ hb]
      cases w with
      | true => exact .inr ⟨by rw [hw]; rfl, wRI_sound hri hA h⟩
      | false => exact .inl ⟨by rw [hw]; rfl, h⟩
    · rename_i hb
      have hw : wantedA ops A o = some (false == w) := by unfold wantedA; rw [hg]; simp only [hj', hgd, hA d _ hb]
      cases w with
      | true => exact .inl ⟨by rw [hw]; rfl, h⟩
      | false => exact .inr ⟨by rw [hw]; rfl, wRI_sound hri hA h⟩
    · rename_i vs hb
      exact .inl ⟨by unfold wantedA; rw [hg]; simp only [hj', hgd, hA d _ hb], h⟩
theorem wOps_sound {ops : Array Oper} : ∀ (rest pre : List Oper) {rl : List RO} {A : Fr} {S : Rg} {H : Hp} {K : Rg → Hp → Prop}, ops.toList = pre ++ rest → lowROs P n ops.toList (fun _ => true) rest pre.length = some rl → Knows S A.T → A.n = n → wOps P kn lo n rl S H K →
    ∃ S' H' T', K S' H' ∧ Knows S' T' ∧ ∃ N, ∀ m k, N ≤ m → N ≤ k → runOps P lo (callF P kn m k) ops (List.range' pre.length rest.length) A H none = some (.normal, { A with T := T' }, H', none)
  | [], pre, rl, A, S, H, K, he, hl, hA, hn, h => by
    simp only [lowROs] at hl; cases hl
    exact ⟨S, H, A.T, h, hA, 0, fun m k _ _ => rfl⟩
  | o :: rest, pre, rl, A, S, H, K, he, hl, hA, hn, h => by
    simp only [lowROs] at hl
    split at hl <;> first | (cases hl; done) | skip
    rename_i ro hro
    split at hl <;> first | (cases hl; done) | skip
    rename_i l hrest
    cases hl
    simp only [wOps] at h
    have ho : ops[pre.length]? = some o := by
      have : ops.toList[pre.length]? = some o := by rw [he]; simp
      simpa using this
    have he2 : ops.toList = (pre ++ [o]) ++ rest := by rw [he]; simp
    have ih := fun {A' : Fr} {S' : Rg} {H' : Hp} (hA' : Knows S' A'.T) (hn' : A'.n = n) (h' : wOps P kn lo n l S' H' K) => wOps_sound rest (pre ++ [o]) (rl := l) he2 (by simpa using hrest) hA' hn' h'
    simp only [List.length_append, List.length_singleton] at ih
    obtain ⟨hput, hcase⟩ := wRO_sound hro hA hn h
    have hr : List.range' pre.length (o :: rest).length = pre.length :: List.range' (pre.length + 1) rest.length := by simp [List.range']
    rw [hr]
    rcases hcase with ⟨hw, h⟩ | ⟨hw, hdone⟩
    · obtain ⟨S', H', T', a, b, N, c⟩ := ih (A' := { A with T := putTr A.T o.dst undef }) (knows_put hA o.dst undef) hn h
      refine ⟨S', H', T', a, b, N, fun m k hm hk => ?_⟩
      rw [runOps]
      simp only [ho, hw, hput]
      exact c m k hm hk
    · rcases hdone with ⟨v, H1, kd, e, _, h⟩ | ⟨H1, kd, e, h⟩ | ⟨t, vs, v, H1, e, _, ⟨N1, hc⟩, h⟩ | ⟨_, _, _, _, _, _, hf, _⟩
      rotate_right
      · cases hf
      · obtain ⟨S', H', T', a, b, N, c⟩ := ih (A' := { A with T := putTr A.T o.dst v }) (knows_put hA o.dst v) hn h
        refine ⟨S', H', T', a, b, N, fun m k hm hk => ?_⟩
        rw [runOps]
        simp only [ho, hw, e, hput]
        exact c m k hm hk
      · obtain ⟨S', H', T', a, b, N, c⟩ := ih (A' := { A with T := putTr A.T o.dst undef }) (knows_put hA o.dst undef) hn h
        refine ⟨S', H', T', a, b, N, fun m k hm hk => ?_⟩
        rw [runOps]
        simp only [ho, hw, e, hput]
        exact c m k hm hk
      · obtain ⟨S', H', T', a, b, N, c⟩ := ih (A' := { A with T := putTr A.T o.dst v }) (knows_put hA o.dst v) hn h
        refine ⟨S', H', T', a, b, N + N1, fun m k hm hk => ?_⟩
        rw [runOps]
        have := hc m k (by omega) (by omega)
        simp only [cond_true] at this
        simp only [ho, hw, e, this, hput]
        exact c m k (by omega) (by omega)
theorem kd_split {H : Hp} {k : Kd} {X : Kd → Prop} (h : match k with | .read b => b < H.next ∧ X (.read b) | k => X k) : (∀ b, k = .read b → b < H.next) ∧ X k := by
  cases k with
  | read b => exact ⟨fun c e => (by cases e; exact h.1), h.2⟩
  | _ => exact ⟨fun c e => (by cases e), h⟩
def flatK : Kd → Kd
  | .mk _ => .heavy
  | k => k
theorem flat_kdOf {A : Fr} {H H' : Hp} {o : Oper} {v : Value} {k : Kd} (h : aOp P lo A H o = some (.val v H', k)) : flatK (kdOf o H k) = k := by
  cases k with
  | heavy => unfold kdOf; cases mkOp o <;> rfl
  | mk b =>
    exfalso
    unfold aOp at h
    split at h
    · cases h
    · exact heapOp_nomk h
  | _ => rfl
theorem flat_skip {A : Fr} {H H' : Hp} {o : Oper} {k : Kd} (h : aOp P lo A H o = some (.skip H', k)) : flatK k = k := by
  cases k with
  | mk b =>
    exfalso
    unfold aOp at h
    split at h
    · cases h
    · exact heapOp_nomk h
  | _ => rfl
theorem flat_calm (ks : List Kd) : (ks.map flatK).all calm = ks.all calm := by
  rw [List.all_map]
  congr 1
  funext k
  cases k <;> rfl
theorem flat_clash (k c : Kd) : clash (flatK k) (flatK c) = clash k c := by cases k <;> cases c <;> rfl
theorem flat_below (k : Kd) (m : Nat) : ∀ (cs : List Kd) (n : Nat), pairsG.belowG clash (flatK k) m (cs.map flatK) n = pairsG.belowG clash k m cs n
  | [], _ => rfl
  | c :: cs, n => by simp only [List.map_cons, pairsG.belowG, flat_clash, flat_below k m cs]
theorem flat_pairs : ∀ (ks : List Kd) (ms : List Nat), pairsG clash (ks.map flatK) ms = pairsG clash ks ms
  | [], ms => by simp [pairsG]
  | k :: ks, [] => by simp [pairsG]
  | k :: ks, m :: ms => by
    have := flat_below k m ks ks.length
    simp only [List.map_cons, pairsG, List.length_map, flat_pairs ks ms, this]
theorem wDraw_sound {ops : Array Oper} {masks : List Nat} : ∀ (rest pre : List Oper) {rl : List RO} {A : Fr} {S : Rg} {H : Hp} {ks : List Kd} {K : Rg → Hp → Prop}, ops.toList = pre ++ rest → lowROs P n ops.toList (fun i => ordered ops.toList (ancL ops.toList) i) rest pre.length = some rl → Knows S A.T → A.n = n → wDraw P kn lo n masks rl (ks.map flatK) S H K →
    ∃ S' H' T' ks', K S' H' ∧ (bif (ks'.map flatK).all calm then True else pairsP (ks'.map flatK) masks) ∧ Knows S' T' ∧ ∃ N, ∀ m k, N ≤ m → N ≤ k → runDraw P lo (callF P kn m k) ops rest pre.length ks A H = some (ks', { A with T := T' }, H')
  | [], pre, rl, A, S, H, ks, K, he, hl, hA, hn, h => by
    simp only [lowROs] at hl; cases hl
    exact ⟨S, H, A.T, ks, h.2, h.1, hA, 0, fun m k _ _ => rfl⟩
  | o :: rest, pre, rl, A, S, H, ks, K, he, hl, hA, hn, h => by
    simp only [lowROs] at hl
    split at hl <;> first | (cases hl; done) | skip
    rename_i ro hro
    split at hl <;> first | (cases hl; done) | skip
    rename_i l hrest
    cases hl
    simp only [wDraw] at h
    have he2 : ops.toList = (pre ++ [o]) ++ rest := by rw [he]; simp
    have ih := fun {A' : Fr} {S' : Rg} {H' : Hp} {ks' : List Kd} (hA' : Knows S' A'.T) (hn' : A'.n = n) (h' : wDraw P kn lo n masks l (ks'.map flatK) S' H' K) => wDraw_sound rest (pre ++ [o]) (rl := l) he2 (by simpa using hrest) hA' hn' h'
    simp only [List.length_append, List.length_singleton] at ih
    obtain ⟨hput, hcase⟩ := wRO_sound hro hA hn h
    rcases hcase with ⟨hw, h⟩ | ⟨hw, hdone⟩
    · obtain ⟨S', H', T', ks', a, a2, b, N, c⟩ := ih (ks' := .pure :: ks) (A' := { A with T := putTr A.T o.dst undef }) (knows_put hA o.dst undef) hn h
      refine ⟨S', H', T', ks', a, a2, b, N, fun m k hm hk => ?_⟩
      rw [runDraw]
      simp only [hw, hput]
      exact c m k hm hk
    · rcases hdone with ⟨v, H1, kd, e, hkd, h⟩ | ⟨H1, kd, e, h⟩ | ⟨t, vs, v, H1, e, hmk, ⟨N1, hc⟩, h⟩ | ⟨t, vs, v, H1, bk, e, hord, hmk, ⟨N1, hc⟩, hob, h⟩
      · obtain ⟨hb, h⟩ := kd_split (X := fun k => wDraw P kn lo n masks l (k :: ks.map flatK) (putS S o.dst v) H1 K) h
        rw [← flat_kdOf e, ← List.map_cons] at h
        obtain ⟨S', H', T', ks', a, a2, b, N, c⟩ := ih (A' := { A with T := putTr A.T o.dst v }) (knows_put hA o.dst v) hn h
        refine ⟨S', H', T', ks', a, a2, b, N, fun m k hm hk => ?_⟩
        rw [runDraw]
        have hkd : kdOk kd H = true := hkd hb
        simp only [hw, e, hkd, hput, cond_true]
        exact c m k hm hk
      · obtain ⟨_, h⟩ := kd_split (X := fun k => wDraw P kn lo n masks l (k :: ks.map flatK) (putS S o.dst undef) H1 K) h
        rw [← flat_skip e, ← List.map_cons] at h
        obtain ⟨S', H', T', ks', a, a2, b, N, c⟩ := ih (A' := { A with T := putTr A.T o.dst undef }) (knows_put hA o.dst undef) hn h
        refine ⟨S', H', T', ks', a, a2, b, N, fun m k hm hk => ?_⟩
        rw [runDraw]
        simp only [hw, e, hput]
        exact c m k hm hk
      · cases ho : ordered ops.toList (ancL ops.toList) pre.length with
        | true =>
          simp only [ho, cond_true] at hc h
          obtain ⟨S', H', T', ks', a, a2, b, N, c⟩ := ih (ks' := .full :: ks) (A' := { A with T := putTr A.T o.dst v }) (knows_put hA o.dst v) hn h
          refine ⟨S', H', T', ks', a, a2, b, N + N1, fun m k hm hk => ?_⟩
          rw [runDraw]
          simp only [hw, e, ho, cond_true, hc m k (by omega) (by omega), hput]
          exact c m k (by omega) (by omega)
        | false =>
          simp only [ho, cond_false] at hc h
          obtain ⟨S', H', T', ks', a, a2, b, N, c⟩ := ih (ks' := .heavy :: ks) (A' := { A with T := putTr A.T o.dst v }) (knows_put hA o.dst v) hn h
          refine ⟨S', H', T', ks', a, a2, b, N + N1, fun m k hm hk => ?_⟩
          rw [runDraw]
          have hmk : marked t = false := by simpa [ho] using hmk
          simp only [hw, e, ho, hmk, cond_false, hc m k (by omega) (by omega), hput]
          exact c m k (by omega) (by omega)
      · obtain ⟨S', H', T', ks', a, a2, b, N, c⟩ := ih (ks' := .store bk :: ks) (A' := { A with T := putTr A.T o.dst v }) (knows_put hA o.dst v) hn h
        refine ⟨S', H', T', ks', a, a2, b, N + N1, fun m k hm hk => ?_⟩
        rw [runDraw]
        simp only [hw, e, hord, hmk, cond_false, cond_true, hc m k (by omega) (by omega), hob, hput]
        exact c m k (by omega) (by omega)
theorem clash_of {k c : Kd} (h : ¬ clashP k c) : clash k c = false := by
  cases k <;> cases c <;> simp_all [clashP, clash, beq_eq]
theorem belowP_snoc {k c : Kd} : ∀ (l : List Kd) (m : Nat), belowP k m (l ++ [c]) → belowP k m l ∧ (m.testBit l.length = true ∨ ¬ clashP k c)
  | [], m, h => by
    simp only [List.nil_append, belowP] at h
    refine ⟨trivial, ?_⟩
    cases hb : Nat.beq (Nat.mod m 2) 1 with
    | true =>
      left
      have := Nat.eq_of_beq_eq_true hb
      simp only [List.length_nil, Nat.testBit_zero]
      exact decide_eq_true this
    | false => rw [hb] at h; exact .inr h.1
  | d :: l, m, h => by
    simp only [List.cons_append, belowP] at h
    obtain ⟨h1, h2⟩ := belowP_snoc l _ h.2
    refine ⟨⟨h.1, h1⟩, h2.imp (fun q => ?_) id⟩
    simp only [List.length_cons]
    rw [Nat.testBit_succ]
    exact q
theorem below_of {k : Kd} {m : Nat} : ∀ (cs : List Kd), belowP k m cs.reverse → pairsG.belowG clash k m cs cs.length = true
  | [], _ => rfl
  | c :: cs, h => by
    rw [List.reverse_cons] at h
    obtain ⟨h1, h2⟩ := belowP_snoc _ _ h
    simp only [pairsG.belowG, Bool.and_eq_true, List.length_cons, Nat.add_sub_cancel]
    refine ⟨?_, below_of cs h1⟩
    rw [List.length_reverse] at h2
    rcases h2 with h2 | h2
    · rw [h2]; simp
    · simp [clash_of h2]
theorem pairs_of : ∀ (ks : List Kd) (ms : List Nat), pairsP ks ms → pairsG clash ks ms = true
  | [], ms, _ => by simp [pairsG]
  | k :: ks, [], _ => by simp [pairsG]
  | k :: ks, m :: ms, h => by
    simp only [pairsG, Bool.and_eq_true]
    exact ⟨below_of ks h.1, pairs_of ks ms h.2⟩
theorem Tri.mono {rd : Bool} {c : Code} {S : Rg} {H : Hp} {K K' : Exit → Rg → Hp → Prop} (h : Tri P kn lo n rd c S H K) (hk : ∀ e S' H', K e S' H' → K' e S' H') : Tri P kn lo n rd c S H K' := by
  intro A h1 h2 h3
  obtain ⟨e, S', H', T', a, b⟩ := h A h1 h2 h3
  exact ⟨e, S', H', T', hk _ _ _ a, b⟩
theorem Tri.seq {rd : Bool} {x y : Code} {S : Rg} {H : Hp} {K : Exit → Rg → Hp → Prop} (h : Tri P kn lo n rd x S H fun e S' H' => match e with | .normal => Tri P kn lo n rd y S' H' K | e => K e S' H') : Tri P kn lo n rd (.seq x y) S H K := by
  intro A h1 h2 h3
  obtain ⟨e, S1, H1, T1, a, b, N1, c⟩ := h A h1 h2 h3
  cases e with
  | normal =>
    obtain ⟨e, S', H', T', a', b', N2, c'⟩ := a { A with T := T1 } h1 h2 b
    refine ⟨e, S', H', T', a', b', N1 + N2 + 1, fun f m k hf hm hk => ?_⟩
    obtain ⟨f, rfl⟩ : ∃ g, f = g + 1 := ⟨f - 1, by omega⟩
    rw [runCode]
    simp only [c f m k (by omega) (by omega) (by omega)]
    exact c' f m k (by omega) (by omega) (by omega)
  | _ =>
    refine ⟨_, S1, H1, T1, a, b, N1 + 1, fun f m k hf hm hk => ?_⟩
    obtain ⟨f, rfl⟩ : ∃ g, f = g + 1 := ⟨f - 1, by omega⟩
    rw [runCode]
    simp only [c f m k (by omega) (by omega) (by omega)]
theorem wC_sound (rd : Bool) : ∀ (c : Code) {rc : RC} {S : Rg} {H : Hp} {K : Exit → Rg → Hp → Prop}, low P n c = some rc → wC P kn lo n rd rc S H K → Tri P kn lo n rd c S H K
  | .skip, rc, S, H, K, hl, h => by
    simp only [low] at hl; cases hl
    intro A _ _ h3
    refine ⟨.normal, S, H, A.T, h, h3, 1, fun f m k hf hm hk => ?_⟩
    obtain ⟨f, rfl⟩ : ∃ g, f = g + 1 := ⟨f - 1, by omega⟩
    rfl
  | .label l, rc, S, H, K, hl, h => by
    simp only [low] at hl; cases hl
    intro A _ _ h3
    refine ⟨.normal, S, H, A.T, h, h3, 1, fun f m k hf hm hk => ?_⟩
    obtain ⟨f, rfl⟩ : ∃ g, f = g + 1 := ⟨f - 1, by omega⟩
    rfl
  | .exit id, rc, S, H, K, hl, h => by
    simp only [low] at hl; cases hl
    intro A _ _ h3
    refine ⟨.exit id, S, H, A.T, h, h3, 1, fun f m k hf hm hk => ?_⟩
    obtain ⟨f, rfl⟩ : ∃ g, f = g + 1 := ⟨f - 1, by omega⟩
    rfl
  | .ret, rc, S, H, K, hl, h => by
    simp only [low] at hl; cases hl
    intro A _ _ h3
    refine ⟨.ret, S, H, A.T, h, h3, 1, fun f m k hf hm hk => ?_⟩
    obtain ⟨f, rfl⟩ : ∃ g, f = g + 1 := ⟨f - 1, by omega⟩
    rfl
  | .seq x y, rc, S, H, K, hl, h => by
    simp only [low] at hl
    split at hl <;> first | (cases hl; done) | skip
    rename_i a ha
    split at hl <;> first | (cases hl; done) | skip
    rename_i b hb
    cases hl
    refine Tri.seq ((wC_sound rd x ha h).mono fun e S' H' q => ?_)
    cases e with
    | normal => exact wC_sound rd y hb q
    | _ => exact q
  | .cond o x y, rc, S, H, K, hl, h => by
    simp only [low] at hl
    split at hl <;> first | (cases hl; done) | skip
    rename_i a ha
    split at hl <;> first | (cases hl; done) | skip
    rename_i b hb
    cases hl
    simp only [wC] at h
    split at h <;> first | exact h.elim | skip
    rename_i t ht
    intro A h1 h2 h3
    cases t with
    | true =>
      obtain ⟨e, S', H', T', p, q, N, r⟩ := wC_sound rd x ha (h.1 rfl) A h1 h2 h3
      refine ⟨e, S', H', T', p, q, N + 1, fun f m k hf hm hk => ?_⟩
      obtain ⟨f, rfl⟩ : ∃ g, f = g + 1 := ⟨f - 1, by omega⟩
      rw [runCode]
      simp only [ev_of h3 ht]
      exact r f m k (by omega) (by omega) (by omega)
    | false =>
      obtain ⟨e, S', H', T', p, q, N, r⟩ := wC_sound rd y hb (h.2 rfl) A h1 h2 h3
      refine ⟨e, S', H', T', p, q, N + 1, fun f m k hf hm hk => ?_⟩
      obtain ⟨f, rfl⟩ : ∃ g, f = g + 1 := ⟨f - 1, by omega⟩
      rw [runCode]
      simp only [ev_of h3 ht]
      exact r f m k (by omega) (by omega) (by omega)
  | .block id b, rc, S, H, K, hl, h => by
    simp only [low] at hl
    split at hl <;> first | (cases hl; done) | skip
    rename_i a ha
    cases hl
    simp only [wC] at h
    intro A h1 h2 h3
    obtain ⟨e, S', H', T', p, q, N, r⟩ := wC_sound rd b ha h A h1 h2 h3
    have unf : ∀ f m k, runCode P lo (callF P kn m k) (f + 1) (.block id b) A H none = match runCode P lo (callF P kn m k) f b A H none with
      | some (.exit j, A', H', p') => bif Nat.beq j id then some (.normal, A', H', p') else some (.exit j, A', H', p')
      | r => r := fun f m k => by rw [runCode]; rfl
    cases e with
    | exit j =>
      simp only at p
      cases hj : Nat.beq j id with
      | true =>
        rw [hj] at p
        refine ⟨.normal, S', H', T', p, q, N + 1, fun f m k hf hm hk => ?_⟩
        obtain ⟨f, rfl⟩ : ∃ g, f = g + 1 := ⟨f - 1, by omega⟩
        rw [unf, r f m k (by omega) (by omega) (by omega)]
        simp only [hj, cond_true]
      | false =>
        rw [hj] at p
        refine ⟨.exit j, S', H', T', p, q, N + 1, fun f m k hf hm hk => ?_⟩
        obtain ⟨f, rfl⟩ : ∃ g, f = g + 1 := ⟨f - 1, by omega⟩
        rw [unf, r f m k (by omega) (by omega) (by omega)]
        simp only [hj, cond_false]
    | _ =>
      refine ⟨_, S', H', T', p, q, N + 1, fun f m k hf hm hk => ?_⟩
      obtain ⟨f, rfl⟩ : ∃ g, f = g + 1 := ⟨f - 1, by omega⟩
      rw [unf, r f m k (by omega) (by omega) (by omega)]
  | .region id ops draw, rc, S, H, K, hl, h => by
    simp only [low] at hl
    cases draw with
    | true =>
      simp only [cond_true] at hl
      obtain ⟨hreg, hl⟩ := bif_some hl
      split at hl <;> first | (cases hl; done) | skip
      rename_i l hro
      cases hl
      simp only [wC] at h
      intro A h1 h2 h3
      obtain ⟨S', H', T', ks, a, a2, b, N, r⟩ := wDraw_sound (ops := ops) (ks := []) ops.toList [] (by simp) hro h3 h1 h
      refine ⟨.normal, S', H', T', a, b, N + 1, fun f m k hf hm hk => ?_⟩
      obtain ⟨f, rfl⟩ : ∃ g, f = g + 1 := ⟨f - 1, by omega⟩
      rw [runCode]
      have hd : drawn P lo (callF P kn m k) ops A H = some ({ A with T := T' }, H') := by
        unfold drawn
        have := r m k (by omega) (by omega)
        simp only [List.length_nil] at this
        rw [this]
        have : ((ks.all calm || pairsG clash ks (ancR ops.toList 0 []) || (pairsG clashR ks (ancR ops.toList 0 []) && roLow lo H)) && regOk ops) = true := by
          rw [hreg, Bool.and_true]
          rw [flat_calm] at a2
          cases hc : ks.all calm with
          | true => simp only [Bool.true_or]
          | false =>
            rw [hc] at a2
            simp only [cond_false] at a2
            have e := pairs_of _ _ a2
            rw [flat_pairs] at e
            rw [e]
            simp only [Bool.or_true, Bool.true_or]
        simp only [this, cond_true]
      simp only [hd, cond_true]
    | false =>
      simp only [cond_false] at hl
      split at hl <;> first | (cases hl; done) | skip
      rename_i l hro
      cases hl
      simp only [wC] at h
      intro A h1 h2 h3
      obtain ⟨S', H', T', a, b, N, r⟩ := wOps_sound (ops := ops) ops.toList [] (by simp) hro h3 h1 h
      refine ⟨.normal, S', H', T', a, b, N + 1, fun f m k hf hm hk => ?_⟩
      obtain ⟨f, rfl⟩ : ∃ g, f = g + 1 := ⟨f - 1, by omega⟩
      rw [runCode]
      have := r m k (by omega) (by omega)
      simp only [List.length_nil] at this
      simp only [cond_false, List.range_eq_range']
      simpa using this
  | .loop b, rc, S, H, K, hl, h => by simp only [low] at hl; cases hl; exact h
  | .rangeFunc fo ps a b, rc, S, H, K, hl, h => by simp only [low] at hl; cases hl; exact h
  | .scope b, rc, S, H, K, hl, h => by simp only [low] at hl; cases hl
  | .goto l, rc, S, H, K, hl, h => by simp only [low] at hl; cases hl
  | .refuse w, rc, S, H, K, hl, h => by simp only [low] at hl; cases hl
theorem Tri.loop {rd : Bool} {b : Code} {K : Exit → Rg → Hp → Prop} (I : Nat → Rg → Hp → Prop)
    (hb : ∀ k S H, I k S H → Tri P kn lo n rd b S H fun e S' H' => match e with | .normal => ∃ k', k' < k ∧ I k' S' H' | e => K e S' H') :
    ∀ k S H, I k S H → Tri P kn lo n rd (.loop b) S H K := by
  intro k
  induction k using Nat.strongRecOn with
  | ind k ih =>
    intro S H hI A h1 h2 h3
    obtain ⟨e, S1, H1, T1, p, q, N, r⟩ := hb k S H hI A h1 h2 h3
    have unf : ∀ f m k, runCode P lo (callF P kn m k) (f + 1) (.loop b) A H none = match runCode P lo (callF P kn m k) f b A H none with
      | some (.normal, A', H', p') => runCode P lo (callF P kn m k) f (.loop b) A' H' p'
      | r => r := fun f m k => by rw [runCode]; rfl
    cases e with
    | normal =>
      obtain ⟨k', hk', hI'⟩ := p
      obtain ⟨e, S', H', T', p', q', N', r'⟩ := ih k' hk' S1 H1 hI' { A with T := T1 } h1 h2 q
      refine ⟨e, S', H', T', p', q', N + N' + 1, fun f m k hf hm hk => ?_⟩
      obtain ⟨f, rfl⟩ : ∃ g, f = g + 1 := ⟨f - 1, by omega⟩
      rw [unf, r f m k (by omega) (by omega) (by omega)]
      exact r' f m k (by omega) (by omega) (by omega)
    | _ =>
      refine ⟨_, S1, H1, T1, p, q, N + 1, fun f m k hf hm hk => ?_⟩
      obtain ⟨f, rfl⟩ : ∃ g, f = g + 1 := ⟨f - 1, by omega⟩
      rw [unf, r f m k (by omega) (by omega) (by omega)]
theorem Tri.forget {rd : Bool} {c : Code} {S S0 : Rg} {H : Hp} {K : Exit → Rg → Hp → Prop} (h : Tri P kn lo n rd c S0 H K) (hs : ∀ j v, lk S0 j = some v → lk S j = some v) : Tri P kn lo n rd c S H K :=
  fun A h1 h2 h3 => h A h1 h2 fun j v e => h3 j v (hs j v e)
end
end Go.Ax

import Derived.Test.YtkdgngdnmgelnaaAxW8
set_option linter.all false
/-! The evaluator for all inputs, 9: drawn regions that panic. -/
namespace Go.Ax
open Go Go.RowKit
def dropS : Rg → List Nat → Rg
  | [], _ => []
  | (i, v) :: S, l => bif l.any (Nat.beq i) then dropS S l else (i, v) :: dropS S l
theorem lk_drop (l : List Nat) (j : Nat) (v : Value) : ∀ S : Rg, lk (dropS S l) j = some v → j ∉ l ∧ lk S j = some v
  | [], h => by cases h
  | (i, u) :: S, h => by
    unfold dropS at h
    cases hm : l.any (Nat.beq i) with
    | true =>
      rw [hm] at h
      obtain ⟨h1, h2⟩ := lk_drop l j v S h
      refine ⟨h1, ?_⟩
      simp only [lk, beq_eq]
      have : i ≠ j := fun e => by
        subst e
        obtain ⟨x, hx, hb⟩ := List.any_eq_true.1 hm
        have := Nat.eq_of_beq_eq_true hb
        subst this
        exact h1 hx
      rw [decide_eq_false this]
      exact h2
    | false =>
      rw [hm] at h
      simp only [cond_false, lk, beq_eq] at h ⊢
      by_cases e : i = j
      · subst e
        rw [decide_eq_true rfl] at h ⊢
        refine ⟨fun hx => ?_, h⟩
        have : l.any (Nat.beq i) = true := List.any_eq_true.2 ⟨i, hx, Nat.beq_refl i⟩
        rw [this] at hm; cases hm
      · rw [decide_eq_false e] at h ⊢
        exact lk_drop l j v S h
theorem knows_drop {S : Rg} {T : Tr Value} (h : Knows S T) (l : List Nat) : Knows (dropS S l) (delT T l) := fun j v e => by
  obtain ⟨a, b⟩ := lk_drop l j v S e
  rw [delT_get, if_neg a]
  exact h j v b
section
variable {P : Program} {kn : FuncId → Option Bool} {lo n : Nat} {rd : Bool}
theorem lowROs_dst {ops : List Oper} {ord : Nat → Bool} : ∀ {l : List Oper} {i : Nat} {rl : List RO}, lowROs P n ops ord l i = some rl → rl.filterMap (·.dst) = l.filterMap (·.dst)
  | [], i, rl, h => by simp only [lowROs] at h; cases h; rfl
  | o :: l, i, rl, h => by
    simp only [lowROs] at h
    split at h <;> first | (cases h; done) | skip
    rename_i ro hro
    split at h <;> first | (cases h; done) | skip
    rename_i l' hl
    cases h
    have : ro.dst = o.dst := by
      unfold lowRO at hro
      split at hro <;> first | (cases hro; done) | skip
      obtain ⟨_, hro⟩ := bif_some hro
      split at hro
      · cases hro; rfl
      · split at hro <;> first | (cases hro; done) | skip
        split at hro <;> first | (cases hro; done) | skip
        cases hro; rfl
    simp only [List.filterMap_cons, this, lowROs_dst hl]
theorem low_ord {ops : List Oper} {ord ord' : Bool} {o : Oper} {c : Call} (h : lowRI P ops ord o = some (.call c ord')) : ord' = ord := by
  unfold lowRI at h
  split at h <;> rename_i hop <;> (repeat' (first | (cases h; done) | (unfold cond at h) | (split at h)))
  all_goals first
    | (cases h; done)
    | (injection h with h; injection h with h1 h2; exact h2.symm)
    | skip
theorem wPan_ord {ops : Array Oper} {ord : Bool} {S : Rg} {H : Hp} {K : Value → Hp → Prop} {o : Oper} {ro : RO} (hl : lowRO P n ops.toList ord o = some ro) (h : wPan P kn lo S H ro K) : ord = true := by
  unfold lowRO at hl
  split at hl <;> first | (cases hl; done) | skip
  rename_i ri hri
  obtain ⟨hd, hl⟩ := bif_some hl
  have hr : ro.ri = ri := by
    split at hl
    · cases hl; rfl
    · split at hl <;> first | (cases hl; done) | skip
      split at hl <;> first | (cases hl; done) | skip
      cases hl; rfl
  unfold wPan at h
  split at h <;> first | exact h.elim | skip
  rename_i c hg hc
  rw [hr] at hc
  subst hc
  exact (low_ord hri).symm
def wPanQ (P : Program) (kn : FuncId → Option Bool) (S : Rg) (H : Hp) (o : RO) (K : Value → Hp → Prop) : Prop :=
  match o.guard, o.ri with
  | none, .call c false => match targetS S c with
    | some (t, vs) => marked t = false ∧ ∃ v H', CallsP P kn H.next t vs H v H' ∧ K v H'
    | none => False
  | _, _ => False
theorem wPanQ_sound {ops : Array Oper} {ord : Bool} {A : Fr} {S : Rg} {H : Hp} {K : Value → Hp → Prop} {o : Oper} {ro : RO} (hl : lowRO P n ops.toList ord o = some ro) (hA : Knows S A.T) (h : wPanQ P kn S H ro K) :
    ord = false ∧ wantedA ops A o = some true ∧ ∃ t vs v H' k, aOp P lo A H o = some (.call t vs, k) ∧ marked t = false ∧ CallsP P kn H.next t vs H v H' ∧ K v H' := by
  unfold lowRO at hl
  split at hl <;> first | (cases hl; done) | skip
  rename_i ri hri
  obtain ⟨hd, hl⟩ := bif_some hl
  unfold wPanQ at h
  split at h <;> first | exact h.elim | skip
  rename_i c hg hc
  split at h <;> first | exact h.elim | skip
  rename_i t vs ht
  have hgo : o.guard = none := by
    split at hl
    · rename_i e; exact e
    · split at hl <;> first | (cases hl; done) | skip
      split at hl <;> first | (cases hl; done) | skip
      cases hl; cases hg
  rw [hgo] at hl
  simp only [Option.some.injEq] at hl
  subst hl
  simp only at hc
  subst hc
  have ho := (low_ord hri).symm
  obtain ⟨hop, hb⟩ := low_call hri
  obtain ⟨hm, v, H', hcall, hk⟩ := h
  refine ⟨ho, by unfold wantedA; rw [hgo], t, vs, v, H', .full, ?_, hm, hcall, hk⟩
  have e : pureOp P A o = none := by
    unfold pureOp; rw [hop]
    cases hcal : c.callee with
    | builtin b => exact absurd hcal (hb b)
    | _ => simp only [hcal]
  unfold aOp
  rw [e]
  unfold heapOp
  rw [hop]
  cases hcal : c.callee with
  | builtin b => exact absurd hcal (hb b)
  | _ => simp only [hcal, target_of hA ht]
def wDrawP (P : Program) (kn : FuncId → Option Bool) (lo n : Nat) (masks : List Nat) : List RO → List Kd → Rg → Hp → (Value → Hp → Prop) → Prop
  | [], _, _, _, _ => False
  | o :: r, ks, S, H, K => (wRO P kn lo n S H o fun S' H' k => match k with | .read b => b < H.next ∧ wDrawP P kn lo n masks r (.read b :: ks) S' H' K | k => wDrawP P kn lo n masks r (k :: ks) S' H' K) ∨
      (wPan P kn lo S H o fun v H' => pairsP (.full :: ks) (masks.drop (masks.length - (ks.length + 1))) ∧ behindOk masks.reverse (ks.length + 1) = true ∧ K v H') ∨
      wPanQ P kn S H o fun v H' => pairsP (.heavy :: ks) (masks.drop (masks.length - (ks.length + 1))) ∧ behindOk masks.reverse (ks.length + 1) = true ∧ K v H'
theorem wDrawP_sound {ops : Array Oper} {masks : List Nat} : ∀ (rest pre : List Oper) {rl : List RO} {A : Fr} {S : Rg} {H : Hp} {ks : List Kd} {K : Value → Hp → Prop}, ops.toList = pre ++ rest → lowROs P n ops.toList (fun i => ordered ops.toList (ancL ops.toList) i) rest pre.length = some rl → Knows S A.T → A.n = n → wDrawP P kn lo n masks rl (ks.map flatK) S H K →
    ∃ v H' ks', K v H' ∧ pairsP (ks'.map flatK) (masks.drop (masks.length - ks'.length)) ∧ behindOk masks.reverse ks'.length = true ∧ ∃ N, ∀ m k, N ≤ m → N ≤ k → runDrawP P lo (callF P kn m k) ops rest pre.length ks A H = some (ks', v, H') ∧ runDraw P lo (callF P kn m k) ops rest pre.length ks A H = none
  | [], pre, rl, A, S, H, ks, K, he, hl, hA, hn, h => by
    simp only [lowROs] at hl; cases hl
    exact h.elim
  | o :: rest, pre, rl, A, S, H, ks, K, he, hl, hA, hn, h => by
    simp only [lowROs] at hl
    split at hl <;> first | (cases hl; done) | skip
    rename_i ro hro
    split at hl <;> first | (cases hl; done) | skip
    rename_i l hrest
    cases hl
    simp only [wDrawP] at h
    have he2 : ops.toList = (pre ++ [o]) ++ rest := by rw [he]; simp
    have ih := fun {A' : Fr} {S' : Rg} {H' : Hp} {ks' : List Kd} (hA' : Knows S' A'.T) (hn' : A'.n = n) (h' : wDrawP P kn lo n masks l (ks'.map flatK) S' H' K) => wDrawP_sound rest (pre ++ [o]) (rl := l) he2 (by simpa using hrest) hA' hn' h'
    simp only [List.length_append, List.length_singleton] at ih
    rcases h with h | h | h
    · obtain ⟨hput, hcase⟩ := wRO_sound hro hA hn h
      rcases hcase with ⟨hw, h⟩ | ⟨hw, hdone⟩
      · obtain ⟨v', H', ks', a, a2, b, N, c⟩ := ih (ks' := .pure :: ks) (A' := { A with T := putTr A.T o.dst undef }) (knows_put hA o.dst undef) hn h
        refine ⟨v', H', ks', a, a2, b, N, fun m k hm hk => ⟨?_, ?_⟩⟩
        · rw [runDrawP]; simp only [hw, hput]; exact (c m k hm hk).1
        · rw [runDraw]; simp only [hw, hput]; exact (c m k hm hk).2
      · rcases hdone with ⟨v, H1, kd, e, hkd, h⟩ | ⟨H1, kd, e, h⟩ | ⟨t, vs, v, H1, e, hmk, ⟨N1, hc⟩, h⟩ | ⟨t, vs, v, H1, bk, e, hord, hmk, ⟨N1, hc⟩, hob, h⟩
        · obtain ⟨hb, h⟩ := kd_split (X := fun k => wDrawP P kn lo n masks l (k :: ks.map flatK) (putS S o.dst v) H1 K) h
          rw [← flat_kdOf e, ← List.map_cons] at h
          obtain ⟨v', H', ks', a, a2, b, N, c⟩ := ih (A' := { A with T := putTr A.T o.dst v }) (knows_put hA o.dst v) hn h
          have hkd : kdOk kd H = true := hkd hb
          refine ⟨v', H', ks', a, a2, b, N, fun m k hm hk => ⟨?_, ?_⟩⟩
          · rw [runDrawP]; simp only [hw, e, hkd, hput, cond_true]; exact (c m k hm hk).1
          · rw [runDraw]; simp only [hw, e, hkd, hput, cond_true]; exact (c m k hm hk).2
        · obtain ⟨_, h⟩ := kd_split (X := fun k => wDrawP P kn lo n masks l (k :: ks.map flatK) (putS S o.dst undef) H1 K) h
          rw [← flat_skip e, ← List.map_cons] at h
          obtain ⟨v', H', ks', a, a2, b, N, c⟩ := ih (A' := { A with T := putTr A.T o.dst undef }) (knows_put hA o.dst undef) hn h
          refine ⟨v', H', ks', a, a2, b, N, fun m k hm hk => ⟨?_, ?_⟩⟩
          · rw [runDrawP]; simp only [hw, e, hput]; exact (c m k hm hk).1
          · rw [runDraw]; simp only [hw, e, hput]; exact (c m k hm hk).2
        · cases ho : ordered ops.toList (ancL ops.toList) pre.length with
          | true =>
            simp only [ho, cond_true] at hc h
            obtain ⟨v', H', ks', a, a2, b, N, c⟩ := ih (ks' := .full :: ks) (A' := { A with T := putTr A.T o.dst v }) (knows_put hA o.dst v) hn h
            refine ⟨v', H', ks', a, a2, b, N + N1, fun m k hm hk => ⟨?_, ?_⟩⟩
            · rw [runDrawP]; simp only [hw, e, ho, cond_true, hc m k (by omega) (by omega), hput]; exact (c m k (by omega) (by omega)).1
            · rw [runDraw]; simp only [hw, e, ho, cond_true, hc m k (by omega) (by omega), hput]; exact (c m k (by omega) (by omega)).2
          | false =>
            simp only [ho, cond_false] at hc h
            obtain ⟨v', H', ks', a, a2, b, N, c⟩ := ih (ks' := .heavy :: ks) (A' := { A with T := putTr A.T o.dst v }) (knows_put hA o.dst v) hn h
            have hmk : marked t = false := by simpa [ho] using hmk
            refine ⟨v', H', ks', a, a2, b, N + N1, fun m k hm hk => ⟨?_, ?_⟩⟩
            · rw [runDrawP]; simp only [hw, e, ho, hmk, cond_false, hc m k (by omega) (by omega), hput]; exact (c m k (by omega) (by omega)).1
            · rw [runDraw]; simp only [hw, e, ho, hmk, cond_false, hc m k (by omega) (by omega), hput]; exact (c m k (by omega) (by omega)).2
        · obtain ⟨v', H', ks', a, a2, b, N, c⟩ := ih (ks' := .store bk :: ks) (A' := { A with T := putTr A.T o.dst v }) (knows_put hA o.dst v) hn h
          refine ⟨v', H', ks', a, a2, b, N + N1, fun m k hm hk => ⟨?_, ?_⟩⟩
          · rw [runDrawP]; simp only [hw, e, hord, hmk, cond_false, cond_true, hc m k (by omega) (by omega), hob, hput]; exact (c m k (by omega) (by omega)).1
          · rw [runDraw]; simp only [hw, e, hord, hmk, cond_false, cond_true, hc m k (by omega) (by omega), hob, hput]; exact (c m k (by omega) (by omega)).2
    · have hord := wPan_ord hro h
      rw [hord] at hro
      obtain ⟨hw, t, vs, v, H', e1, ⟨N1, hc⟩, h1, h2, hk⟩ := wPan_sound hro hA h
      refine ⟨v, H', .full :: ks, hk, by simpa [flatK] using h1, by simpa using h2, N1, fun m k hm hk' => ⟨?_, ?_⟩⟩
      · rw [runDrawP]; simp only [hw, e1, hord, cond_true, hc m k hm hk']
      · rw [runDraw]; simp only [hw, e1, hord, cond_true, hc m k hm hk']
    · obtain ⟨hord, hw, t, vs, v, H', kk, e1, hmk, ⟨N1, hc⟩, h1, h2, hk⟩ := wPanQ_sound (lo := lo) hro hA h
      refine ⟨v, H', .heavy :: ks, hk, by simpa [flatK] using h1, by simpa using h2, N1, fun m k hm hk' => ⟨?_, ?_⟩⟩
      · rw [runDrawP]; simp only [hw, e1, hord, hmk, cond_false, hc m k hm hk']
      · rw [runDraw]; simp only [hw, e1, hord, hmk, cond_false, hc m k hm hk']
theorem run_dregP {c : Code} {id : Nat} {ops : Array Oper} {rl : List RO} {masks : List Nat} (hc : c = .region id ops true) (hl : low P n c = some (.dreg rl masks)) {S : Rg} {H : Hp} {K : Value → Hp → Prop} (h : wDrawP P kn lo n masks rl [] S H K) {A : Fr} (hn : A.n = n) (hA : Knows S A.T) :
    ∃ v H', K v H' ∧ rl.filterMap (·.dst) = dstsOf ops ∧ ∃ N, ∀ f m k, N ≤ f → N ≤ m → N ≤ k → runCode P lo (callF P kn m k) f c A H none = some (pan1 v, A.drop (dstsOf ops), H', none) := by
  subst hc
  simp only [low, cond_true] at hl
  obtain ⟨hreg, hl⟩ := bif_some hl
  split at hl <;> first | (cases hl; done) | skip
  rename_i l hro
  cases hl
  obtain ⟨v, H', ks', a, a2, b, N, r⟩ := wDrawP_sound (ops := ops) (ks := []) ops.toList [] (by simp) hro hA hn h
  refine ⟨v, H', a, lowROs_dst hro, N + 1, fun f m k hf hm hk => ?_⟩
  obtain ⟨f, rfl⟩ : ∃ g, f = g + 1 := ⟨f - 1, by omega⟩
  obtain ⟨r1, r2⟩ := r m k (by omega) (by omega)
  simp only [List.length_nil] at r1 r2
  have hd : drawn P lo (callF P kn m k) ops A H = none := by unfold drawn; rw [r2]
  have hlen : (ancR ops.toList 0 []).length = ops.size := (ancR_all ops).1
  have hp : drawnP P lo (callF P kn m k) ops A H = some (v, H') := by
    unfold drawnP
    rw [r1]
    simp only
    rw [hlen] at a2
    have e1 := pairs_of _ _ a2
    rw [flat_pairs] at e1
    have e2 : behindOk (ancL ops.toList) ks'.length = true := b
    rw [e1, e2, hreg]
    rfl
  rw [runCode]
  simp only [hd, hp, cond_true]
  rfl
theorem tri_dregP {c : Code} {id : Nat} {ops : Array Oper} {rl : List RO} {masks : List Nat} (hc : c = .region id ops true) (hl : low P n c = some (.dreg rl masks)) {S : Rg} {H : Hp} {K : Exit → Rg → Hp → Prop} (h : wDrawP P kn lo n masks rl [] S H fun v H' => K (pan1 v) (dropS S (rl.filterMap (·.dst))) H') : Tri P kn lo n rd c S H K := by
  intro A h1 h2 h3
  obtain ⟨v, H', hk, hd, N, r⟩ := run_dregP hc hl h h1 h3
  exact ⟨pan1 v, _, H', delT A.T (dstsOf ops), hk, by rw [hd]; exact knows_drop h3 _, N, r⟩
theorem triR_dregP {c : Code} {id : Nat} {ops : Array Oper} {rl : List RO} {masks : List Nat} (hc : c = .region id ops true) (hl : low P n c = some (.dreg rl masks)) {S : Rg} {H : Hp} {K : Exit → Rg → Hp → List Deferred → Prop} (h : wDrawP P kn lo n masks rl [] S H fun v H' => K (pan1 v) (dropS S (rl.filterMap (·.dst))) H' []) : TriR P kn lo n c S H K :=
  TriR.of (tri_dregP hc hl h)
theorem fnX_of_triE {f : FuncId} {fn : Func} {c : Code} {args : List Value} {H : Hp} {Q : Value → Hp → Prop} (hf : P.funcs[f]? = some fn) (hc : fn.body = some c) (hl : args.length ≤ fn.ntmps)
    (h : TriR P kn lo fn.ntmps c (argS args 0) H fun e S' H' D => ∃ g cap, D = [{ target := .fn (.func g) cap, args := #[] }] ∧
        (((e = .normal ∨ e = .ret) ∧ ∃ H3, DefX P kn lo g cap.toList H' none none H3 ∧ ∃ vs, resS P S' H3 fn.results.toList = some vs ∧ Q (retV vs) H3) ∨
          ∃ v, e = pan1 v ∧ ∃ H3, DefX P kn lo g cap.toList H' (some (v, false)) (some (v, true)) H3 ∧ ∃ vs, resS P S' H3 fn.results.toList = some vs ∧ Q (retV vs) H3)) :
    ∃ v H', FnX P kn lo f args H v H' ∧ Q v H' := by
  obtain ⟨e, S', H', T', D, ⟨g, cap, rfl, hcase⟩, hk, N, hr⟩ := h { fn := f, n := fn.ntmps, T := trOf args 0 .nil, defers := [], round := none } rfl rfl (by rw [hf]; rfl) (knows_args args)
  have last : ∀ D m H2 vs, 1 ≤ m → resS P S' H2 fn.results.toList = some vs → unwindV P lo D fn m { fn := f, n := fn.ntmps, T := T', defers := [], round := none } H2 none = some (.ret (retV vs), H2) := by
    intro D m H2 vs hm hres
    obtain ⟨m', rfl⟩ : ∃ g, m = g + 1 := ⟨m - 1, by omega⟩
    rw [unwindV]
    simp only [res_of (A := { fn := f, n := fn.ntmps, T := T', defers := [], round := none }) hk hres]
    match vs with
    | [] => rfl
    | [v] => rfl
    | v :: u :: r => rfl
  have unw : ∀ (pm pm' : Par) (N2 : Nat) (dv : Value) (H3 : Hp) (vs : List Value) (m k : Nat), N2 + 3 ≤ m → N2 + 3 ≤ k → (match pm' with | some (_, true) => none | m' => m') = none →
      (∀ m k, N2 ≤ m → N2 ≤ k → runFunc P lo (callF P kn m k) (fun t a H p => evCall P kn m k lo t a H p) m g cap.toList H' pm = some (.ret dv, H3, pm')) → resS P S' H3 fn.results.toList = some vs →
      unwindV P lo (fun t a H p => evCall P kn m k lo t a H p) fn m { fn := f, n := fn.ntmps, T := T', defers := [{ target := .fn (.func g) cap, args := #[] }], round := none } H' pm = some (.ret (retV vs), H3) := by
    intro pm pm' N2 dv H3 vs m k hm hk2 hp hd hres
    have hev : evCall P kn m k lo (.fn (.func g) cap) [] H' pm = some (.ret dv, H3, pm') := by
      obtain ⟨k, rfl⟩ : ∃ g, k = g + 1 := ⟨k - 1, by omega⟩
      have := hd m k (by omega) (by omega)
      rw [← this]
      simp only [evCall, List.nil_append]
      rfl
    obtain ⟨m', rfl⟩ : ∃ g, m = g + 3 := ⟨m - 3, by omega⟩
    rw [unwindV.eq_def]
    simp only [hev]
    have key : ∀ q : Par, q = none → unwindV P lo (fun t a H p => evCall P kn (m' + 3) k lo t a H p) fn (m' + 2) { fn := f, n := fn.ntmps, T := T', defers := [], round := none } H3 q = some (.ret (retV vs), H3) := fun q hq => by
      subst hq
      exact last _ _ _ _ (by omega) hres
    exact key _ hp
  rcases hcase with ⟨he, H3, ⟨N2, dv, hd⟩, vs, hres, hq⟩ | ⟨v, rfl, H3, ⟨N2, dv, hd⟩, vs, hres, hq⟩
  · refine ⟨retV vs, H3, ⟨N + N2 + 3, fun m k hm hk' => ?_⟩, hq⟩
    have hr := hr m m k (by omega) (by omega) (by omega)
    simp only [List.append_nil] at hr
    have hu := unw none none N2 dv H3 vs m k (by omega) (by omega) rfl hd hres
    unfold runFunc
    simp only [hf, hc, Nat.ble_eq_true_of_le hl, cond_true, hr]
    rcases he with rfl | rfl <;> simp only [hu]
  · refine ⟨retV vs, H3, ⟨N + N2 + 3, fun m k hm hk' => ?_⟩, hq⟩
    have hr := hr m m k (by omega) (by omega) (by omega)
    simp only [List.append_nil] at hr
    have hu := unw (some (v, false)) (some (v, true)) N2 dv H3 vs m k (by omega) (by omega) rfl hd hres
    unfold runFunc
    simp only [hf, hc, Nat.ble_eq_true_of_le hl, cond_true, hr, pan1, hu]
end
end Go.Ax

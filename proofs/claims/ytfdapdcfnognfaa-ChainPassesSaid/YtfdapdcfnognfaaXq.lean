import Derived.Test.YtfdapdcfnognfaaAxW4
import Derived.Test.YtfdapdcfnognfaaChecked
import Derived.Test.YtfdapdcfnognfaaXp
set_option linter.all false
namespace Go.Ax
open Go Go.RowKit Go.Proofs
end Go.Ax
namespace Go.Ax
open Go Go.RowKit Go.Proofs
def All2 {α β : Type} (R : α → β → Prop) : List α → List β → Prop
  | [], [] => True
  | x :: l, y :: m => R x y ∧ All2 R l m
  | _, _ => False
theorem All2.zipIdx {α β : Type} {R : α → β → Prop} : ∀ {l : List α} {m : List β} (n : Nat), All2 R l m → All2 (fun (x : α × Nat) (y : β × Nat) => R x.1 y.1 ∧ x.2 = y.2) (l.zipIdx n) (m.zipIdx n)
  | [], [], _, _ => trivial
  | [], _ :: _, _, h => h.elim
  | _ :: _, [], _, h => h.elim
  | _ :: _, _ :: _, n, h => ⟨⟨h.1, rfl⟩, h.2.zipIdx (n + 1)⟩
theorem All2.same {α : Type} {R : α → α → Prop} : ∀ (l : List α), (∀ x ∈ l, R x x) → All2 R l l
  | [], _ => trivial
  | x :: l, h => ⟨h x (List.mem_cons_self ..), All2.same l fun y hy => h y (List.mem_cons_of_mem _ hy)⟩
/-- No pond has less than nothing. -/
def NN (s : St) : Prop := ∀ i, 0 ≤ s.ws.getD i 0
theorem NN.set {ws : List Int} (h : ∀ i, 0 ≤ ws.getD i 0) {j : Nat} {x : Int} (hx : 0 ≤ x) : ∀ i, 0 ≤ (ws.set j x).getD i 0 := fun i => by
  rw [getD_set]; split
  · exact hx
  · exact h i
end Go.Ax
namespace Go.Ax
open Go Go.RowKit Go.Proofs
end Go.Ax
namespace Go.Ax
open Go Go.RowKit Go.Proofs
section
variable {P : Program} {kn : FuncId → Option Bool} {lo n : Nat} {masks : List Nat} {r : List RO} {ks : List Kd} {S : Rg} {H : Hp} {K : Rg → Hp → Prop} {d : Option Nat} {x y : Operand}
theorem wD_lda {b o m : Nat} {cs q : List Value} (hx : evS S x = some (.pointer (some ⟨b, o, none⟩))) (hc : Rd H b cs) (hv : row m cs o = some q) (h : wDraw P kn lo n masks r (.read b :: ks) (putS S d (.agg q.toArray)) H K) : wDraw P kn lo n masks (⟨d, none, .lda x m⟩ :: r) ks S H K := by
  simp only [wDraw, wRO, wRI, hx]; exact ⟨cs, q, hc.of, hv, hc.lt, h⟩
theorem wD_len {a : Option Addr} {m c : Nat} (hx : evS S x = some (.slice a m c)) (h : wDraw P kn lo n masks r (.pure :: ks) (putS S d (.int .i64 (m : Int))) H K) : wDraw P kn lo n masks (⟨d, none, .len x⟩ :: r) ks S H K := by
  simp only [wDraw, wRO, wRI, hx]; exact h
theorem wD_add {a b : Int} (hx : evS S x = some (.int .i64 a)) (hy : evS S y = some (.int .i64 b)) (h2 : InR (a + b)) (h : wDraw P kn lo n masks r (.pure :: ks) (putS S d (.int .i64 (a + b))) H K) : wDraw P kn lo n masks (⟨d, none, .ari .add x y⟩ :: r) ks S H K := by
  simp only [wDraw, wRO, wRI, hx, hy]; exact ⟨h2, h⟩
theorem wD_idx {b o len cap size k : Nat} {kd : IntKind} {j : Int} (hx : evS S x = some (.slice (some ⟨b, o, none⟩) len cap)) (hy : evS S y = some (.int kd j)) (hj : j = (k : Int)) (hk : k < len) (h : wDraw P kn lo n masks r (.pure :: ks) (putS S d (.pointer (some ⟨b, o + k * size, none⟩))) H K) : wDraw P kn lo n masks (⟨d, none, .idx x y size⟩ :: r) ks S H K := by
  simp only [wDraw, wRO, wRI, hx, hy]; exact ⟨k, hj, hk, h⟩
theorem wD_callh {c : Call} {t : Target} {vs : List Value} {v : Value} {H' : Hp} (ht : targetS S c = some (t, vs)) (hm : marked t = false) (hc : CallsX P kn H.next t vs H v H') (h : wDraw P kn lo n masks r (.heavy :: ks) (putS S d v) H' K) : wDraw P kn lo n masks (⟨d, none, .call c false⟩ :: r) ks S H K := by
  simp only [wDraw, wRO, wRI, ht, hm, Bool.and_false, cond_false]; exact ⟨v, H', hc, h⟩
theorem wD_callf {c : Call} {t : Target} {vs : List Value} {v : Value} {H' : Hp} (ht : targetS S c = some (t, vs)) (hc : CallsX P kn lo t vs H v H') (h : wDraw P kn lo n masks r (.full :: ks) (putS S d v) H' K) : wDraw P kn lo n masks (⟨d, none, .call c true⟩ :: r) ks S H K := by
  simp only [wDraw, wRO, wRI, ht, Bool.not_true, Bool.false_and, cond_false, cond_true]; exact ⟨v, H', hc, h⟩
end
def u32s (l : List Nat) : List Value := l.map fun (n : Nat) => Value.int .u32 ((n : Nat) : Int)
end Go.Ax
namespace Go.Ax
open Go Go.RowKit Go.Proofs
structure Mo2 (F : Hp) (b7 : Nat) (ba : Option Addr) (bl bcap : Nat) (bs : List Nat) : Prop where
  h7 : Rd F b7 [.slice ba bl bcap]
  hb : Sl F ba bl bcap (u32s bs)
  hbl : bs.length = bl
  h0 : 0 < bl
  hr : ∀ n ∈ bs, n ≤ 4294967295
  h2 : bl ≤ 9223372036854775807
end Go.Ax
namespace Go.Ax
open Go Go.RowKit Go.Proofs
end Go.Ax
namespace Go.Ax
open Go Go.RowKit Go.Proofs
theorem Mo2.keep {F H : Hp} {b7 bt : Nat} {ba : Option Addr} {bl bcap : Nat} {bs : List Nat} (h : Mo2 F b7 ba bl bcap bs) (k : Keep F H [bt]) (h1 : b7 ≠ bt) (h2 : ∀ b, ba = some ⟨b, 0, none⟩ → b ≠ bt) : Mo2 H b7 ba bl bcap bs :=
  ⟨k.rd h.h7 (by simpa using h1), k.sl h.hb (fun b e => by have := h2 b e; simpa using this), h.hbl, h.h0, h.hr, h.h2⟩
end Go.Ax
namespace Go.Ax
open Go Go.RowKit Go.Proofs
end Go.Ax
namespace Go.Ax
open Go Go.RowKit Go.Proofs
end Go.Ax
namespace Go.Ax
open Go Go.RowKit Go.Proofs
theorem lastB_mem : ∀ (bs : List Bd) (i : Nat) (x : Int), lastB bs i = some x → ∃ b ∈ bs, b.boards = x
  | [], _, _, h => by simp [lastB] at h
  | b :: r, i, x, h => by
    unfold lastB at h
    cases hr : lastB r i with
    | some y =>
      rw [hr] at h
      simp only [Option.some.injEq] at h; subst h
      obtain ⟨c, hc, e⟩ := lastB_mem r i y hr
      exact ⟨c, List.mem_cons_of_mem _ hc, e⟩
    | none =>
      rw [hr] at h
      simp only at h
      split at h
      · exact ⟨b, List.mem_cons_self .., Option.some.inj h⟩
      · cases h
theorem boards_good {h : Hr} {gs : List Gt} {n : Int} {pn gn : Nat} (hg : gs.all (fun g => gateB g n) = true) (hv : hourB h pn gn = true) : (boardsF h gs).all (fun g => gateB g n) = true := by
  simp only [hourB, Bool.and_eq_true] at hv
  have hb := List.all_eq_true.1 hv.1.1.2
  refine List.all_eq_true.2 fun x hx => ?_
  obtain ⟨i, hi, rfl⟩ := List.getElem_of_mem hx
  have e := boards_get h.bs gs i
  have hq : (h.bs.foldl boardS gs)[i]? = some (boardsF h gs)[i] := List.getElem?_eq_getElem hi
  rw [hq] at e
  cases hgi : gs[i]? with
  | none => rw [hgi] at e; cases e
  | some g =>
    rw [hgi] at e
    simp only [Option.map_some, Option.some.injEq] at e
    have g1 := List.all_eq_true.1 hg g (List.mem_of_getElem? hgi)
    rw [e]
    cases hl : lastB h.bs i with
    | none => exact g1
    | some y =>
      obtain ⟨b, hbm, rfl⟩ := lastB_mem _ _ _ hl
      have := hb b hbm
      simp only [Bool.and_eq_true] at this
      simp only [gateB, Bool.and_eq_true] at g1 ⊢
      exact ⟨g1.1, this.2⟩
end Go.Ax
namespace Go.Ax
open Go Go.RowKit Go.Proofs
end Go.Ax
namespace Go.Ax
open Go Go.RowKit Go.Proofs
end Go.Ax
namespace Go.Ax
open Go Go.RowKit Go.Proofs
/-- What is there, seeped, went away and was taken is what was there and came. -/
def Cn (a : Int) (s : St) : Prop := s.ws.sum + s.seeped + s.river + s.taken = a + s.came
/-- What is true, between the least and the greatest course. -/
structure Tru (n : Nat) (M B a : Int) (sl s sg : St) : Prop where
  l : LeS sl s
  g : LeS s sg
  d : Good n M B s
  c : Cn a s
theorem Tru.mono {n : Nat} {M B M' B' a : Int} {sl s sg : St} (h : Tru n M B a sl s sg) (hm : M ≤ M') (hb : B ≤ B') : Tru n M' B' a sl s sg := ⟨h.l, h.g, h.d.mono hm hb, h.c⟩
end Go.Ax
namespace Go.Ax
open Go Go.RowKit Go.Proofs
structure Tx where
  T : Nat
  pb : Nat
  pcap : Nat
  ga : Option Addr
  gcap : Nat
def Tx.W (p : Tx) : List Nat := p.T :: p.pb :: gl p.ga
def Tx.cells (p : Tx) (gn n : Nat) (s : St) : List Value := [.slice p.ga gn p.gcap, .slice (some ⟨p.pb, 0, none⟩) n p.pcap, iv s.came, iv s.seeped, iv s.river, iv s.taken]
structure TAt (gn n L : Nat) (p : Tx) (H : Hp) (gs : List Gt) (s : St) : Prop where
  hT : Cl H p.T (p.cells gn n s)
  hP : Cl H p.pb (ints s.ws)
  hG : Own L H p.ga gn (gtc gs)
  lg : gs.length = gn
  lws : s.ws.length = n
  lT : L ≤ p.T
  lP : L ≤ p.pb
  ne : p.T ≠ p.pb
  gT : p.T ∉ gl p.ga
  gP : p.pb ∉ gl p.ga
section
variable {gn n L : Nat} {p : Tx} {H H1 : Hp} {gs : List Gt} {s : St}
theorem TAt.off (h : TAt gn n L p H gs s) {b : Nat} (hb : b < L) : b ∉ p.W := by
  have h1 := h.lT; have h2 := h.lP
  intro q
  simp only [Tx.W, List.mem_cons] at q
  rcases q with q | q | q
  · omega
  · omega
  · rcases h.hG with ⟨e, _⟩ | ⟨gb, e, l, _⟩
    · rw [e] at q; simp [gl] at q
    · rw [mem_gl e] at q; simp at q; omega
theorem TAt.offNew (h : TAt gn n L p H gs s) {b : Nat} (hb : H.next ≤ b) : b ∉ p.W := by
  have h1 := h.hT.lt; have h2 := h.hP.lt
  intro q
  simp only [Tx.W, List.mem_cons] at q
  rcases q with q | q | q
  · omega
  · omega
  · rcases h.hG with ⟨e, _⟩ | ⟨gb, e, l, c⟩
    · rw [e] at q; simp [gl] at q
    · rw [mem_gl e] at q; simp at q; have := c.lt; omega
theorem TAt.keep0 (h : TAt gn n L p H gs s) (k : Keep H H1 []) : TAt gn n L p H1 gs s :=
  ⟨k.cl h.hT (by simp), k.cl h.hP (by simp), h.hG.keep k (fun _ _ => by simp), h.lg, h.lws, h.lT, h.lP, h.ne, h.gT, h.gP⟩
theorem TAt.stP (h : TAt gn n L p H gs s) {ws : List Int} (k : Keep H H1 [p.pb]) (c : Cl H1 p.pb (ints ws)) (hl : ws.length = s.ws.length) : TAt gn n L p H1 gs { s with ws := ws } :=
  ⟨k.cl h.hT (by have := h.ne; simp; omega), c, h.hG.keep k (fun b e q => by simp at q; subst q; have := h.gP; rw [mem_gl e] at this; simp at this), h.lg, by have := h.lws; simp only; omega, h.lT, h.lP, h.ne, h.gT, h.gP⟩
end
/-- What an hour of the truth reads. -/
structure TE (c : Ch) (h : Hr) (ba : Option Addr) (bl bcap : Nat) (bs : List Nat) (b5 b6 b7 : Nat) (p : Tx) (F : Hp) : Prop where
  e5 : Rd F b5 [pt p.T]
  e6 : Rd F b6 [.slice c.pa c.pn c.pcap, .slice c.ga c.gn c.gcap]
  e7 : Rd F b7 h.v
  hp : Sl F c.pa c.pn c.pcap (pdc c.ponds)
  hh : h.At F
  hy : Sl F ba bl bcap (u32s bs)
  o5 : b5 ∉ p.W
  o6 : b6 ∉ p.W
  o7 : b7 ∉ p.W
  op : Off p.W c.pa
  ob : Off p.W h.ba
  oc : Off p.W h.ca
  ot : Off p.W h.ta
  oy : Off p.W ba
theorem TE.keep {c : Ch} {h : Hr} {ba : Option Addr} {bl bcap : Nat} {bs : List Nat} {b5 b6 b7 : Nat} {p : Tx} {F H : Hp} {w : List Nat} (t : TE c h ba bl bcap bs b5 b6 b7 p F) (k : Keep F H w) (hw : ∀ b, b ∈ w → b ∈ p.W) : TE c h ba bl bcap bs b5 b6 b7 p H := by
  have k := k.mono hw
  exact ⟨k.rd t.e5 t.o5, k.rd t.e6 t.o6, k.rd t.e7 t.o7, k.sl t.hp t.op, ⟨k.sl t.hh.b t.ob, k.sl t.hh.c t.oc, k.sl t.hh.t t.ot, t.hh.lb, t.hh.lc, t.hh.lt⟩, k.sl t.hy t.oy, t.o5, t.o6, t.o7, t.op, t.ob, t.oc, t.ot, t.oy⟩
end Go.Ax
namespace Go.Ax
open Go Go.RowKit Go.Proofs
end Go.Ax
namespace Go.Ax
open Go Go.RowKit Go.Proofs
section
variable {P : Program} {kn : FuncId → Option Bool} {lo n : Nat} {rd : Bool} {masks : List Nat} {r : List RO} {ks : List Kd} {S : Rg} {H : Hp} {K : Rg → Hp → Prop} {d : Option Nat} {x y : Operand}
theorem wD_mul {a b : Int} (hx : evS S x = some (.int .i64 a)) (hy : evS S y = some (.int .i64 b)) (h2 : InR (a * b)) (h : wDraw P kn lo n masks r (.pure :: ks) (putS S d (.int .i64 (a * b))) H K) : wDraw P kn lo n masks (⟨d, none, .ari .mul x y⟩ :: r) ks S H K := by
  simp only [wDraw, wRO, wRI, hx, hy]; exact ⟨h2, h⟩
theorem wD_sub {a b : Int} (hx : evS S x = some (.int .i64 a)) (hy : evS S y = some (.int .i64 b)) (h2 : InR (a - b)) (h : wDraw P kn lo n masks r (.pure :: ks) (putS S d (.int .i64 (a - b))) H K) : wDraw P kn lo n masks (⟨d, none, .ari .sub x y⟩ :: r) ks S H K := by
  simp only [wDraw, wRO, wRI, hx, hy]; exact ⟨h2, h⟩
end
end Go.Ax
namespace Go.Ax
open Go Go.RowKit Go.Proofs
section
variable {P : Program} {kn : FuncId → Option Bool} {lo n : Nat} {rd : Bool}
inductive LT (P : Program) (n : Nat) : Code → RC → Prop
  | low {c : Code} {r : RC} : Go.Ax.low P n c = some r → LT P n c r
  | other (c : Code) : LT P n c (.other c)
  | seq {x y : Code} {a b : RC} : LT P n x a → LT P n y b → LT P n (.seq x y) (.seq a b)
  | block (id : Nat) {x : Code} {a : RC} : LT P n x a → LT P n (.block id x) (.block id a)
theorem Tri.block {id : Nat} {b : Code} {S : Rg} {H : Hp} {K : Exit → Rg → Hp → Prop} (h : Tri P kn lo n rd b S H fun e S' H' => match e with | .exit j => (bif Nat.beq j id then K .normal S' H' else K (.exit j) S' H') | e => K e S' H') : Tri P kn lo n rd (.block id b) S H K := by
  intro A h1 h2 h3
  obtain ⟨e, S', H', T', p, q, N, r⟩ := h A h1 h2 h3
  have unf : ∀ f m k, runCode P lo (callF P kn m k) (f + 1) (.block id b) A H none = match runCode P lo (callF P kn m k) f b A H none with
    | some (.exit j, A', H', p') => bif Nat.beq j id then some (.normal, A', H', p') else some (.exit j, A', H', p')
    | r => r := fun f m k => by rw [runCode]; rfl
  cases e with
  | exit j =>
    simp only at p
    cases hj : Nat.beq j id with
    | true =>
      rw [hj] at p
      refine ⟨.normal, S', H', T', p, q, N + 1, fun f m k hf hm hk => ?_⟩
      obtain ⟨f, rfl⟩ : ∃ g, f = g + 1 := ⟨f - 1, by omega⟩
      rw [unf, r f m k (by omega) (by omega) (by omega)]
      simp only [hj, cond_true]
    | false =>
      rw [hj] at p
      refine ⟨.exit j, S', H', T', p, q, N + 1, fun f m k hf hm hk => ?_⟩
      obtain ⟨f, rfl⟩ : ∃ g, f = g + 1 := ⟨f - 1, by omega⟩
      rw [unf, r f m k (by omega) (by omega) (by omega)]
      simp only [hj, cond_false]
  | _ =>
    refine ⟨_, S', H', T', p, q, N + 1, fun f m k hf hm hk => ?_⟩
    obtain ⟨f, rfl⟩ : ∃ g, f = g + 1 := ⟨f - 1, by omega⟩
    rw [unf, r f m k (by omega) (by omega) (by omega)]
theorem wC_lt {c : Code} {r : RC} (hl : LT P n c r) : ∀ {S : Rg} {H : Hp} {K : Exit → Rg → Hp → Prop}, wC P kn lo n rd r S H K → Tri P kn lo n rd c S H K := by
  induction hl with
  | low h => exact fun w => wC_sound rd _ h w
  | other c => exact fun w => w
  | seq _ _ ih1 ih2 => exact fun w => Tri.seq ((ih1 w).mono fun e S' H' q => by
      cases e with
      | normal => exact ih2 q
      | _ => exact q)
  | block id _ ih => exact fun w => Tri.block (ih w)
/-- A loop whose body has pieces that are walked by themselves. -/
theorem loop_lt {α : Type} {c b : Code} {R : RC} {S : Rg} {H : Hp} {K : Exit → Rg → Hp → Prop} (hc : c = .loop b) (hL : LT P n b R) (SS : α → Rg) (I : Nat → α → Hp → Prop)
    (k : Nat) (a : α) (hI : I k a H) (hS : Subs (SS a) S)
    (hb : ∀ k a H, I k a H → wC P kn lo n rd R (SS a) H fun e S' H' => match e with | .normal => ∃ k' a', k' < k ∧ I k' a' H' ∧ Subs (SS a') S' | e => K e S' H') :
    Tri P kn lo n rd c S H K := by
  subst hc
  refine Tri.loop (fun k S H => ∃ a, I k a H ∧ Subs (SS a) S) (fun k S H q => ?_) k S H ⟨a, hI, hS⟩
  obtain ⟨a, q, hs⟩ := q
  refine Tri.forget ((wC_lt hL (hb k a H q)).mono fun e S' H' r => ?_) hs.get
  cases e with
  | normal => obtain ⟨k', a', x, y, z⟩ := r; exact ⟨k', x, a', y, z⟩
  | _ => exact r
/-- A piece, from some of what is known. -/
theorem tri_piece {c : Code} {R : RC} {S S0 : Rg} {H : Hp} {K : Exit → Rg → Hp → Prop} (hL : low P n c = some R) (hS : Subs S0 S) (h : wC P kn lo n rd R S0 H K) : Tri P kn lo n rd c S H K := Tri.forget (wC_sound rd _ hL h) hS.get
end
end Go.Ax
namespace Go.Ax
open Go Go.RowKit Go.Proofs
end Go.Ax
namespace Go.Ax
open Go Go.RowKit Go.Proofs
theorem Acc.cl {lo f : Nat} {e : TypeId} {H : Hp} {b n : Nat} {cs : List Value} (h : Acc lo f e H (.slice (some ⟨b, 0, none⟩) n n) n cs) : Cl H b cs ∧ f ≤ b := by
  rcases h with ⟨_, _, h⟩ | ⟨b', e, _, hf, _, hn, hg⟩
  · cases h
  · cases e; exact ⟨⟨hn, _, _, hg⟩, hf⟩
theorem ints_snoc (ns : List Int) (e : Int) : ints (ns ++ [e]) = ints ns ++ [iv e] := by simp [ints]
end Go.Ax
namespace Go.Ax
open Go Go.RowKit Go.Proofs
end Go.Ax
namespace Go.Ax
open Go Go.RowKit Go.Proofs
section
variable {P : Program} {kn : FuncId → Option Bool} {lo n : Nat} {rd : Bool} {masks : List Nat} {r : List RO} {ks : List Kd} {S : Rg} {H : Hp} {K : Rg → Hp → Prop} {d : Option Nat} {x y : Operand}
theorem wD_g {g : Nat} {t : Bool} {ri : RI} (hg : lk S g = some (.bool t)) (h : wDraw P kn lo n masks (⟨d, none, ri⟩ :: r) ks S H K) : wDraw P kn lo n masks (⟨d, some (g, t), ri⟩ :: r) ks S H K := by
  cases t <;> (simp only [wDraw, wRO, hg] at h ⊢; exact h)
end
end Go.Ax
namespace Go.Ax
open Go Go.RowKit Go.Proofs
section
variable {kn : FuncId → Option Bool} {lo : Nat} {H : Hp}
theorem sum_bound {ponds : List Pd} {ws : List Int} (hl : ws.length = ponds.length) (h16 : ponds.length ≤ 16) (hp : ∀ (j : Nat) p, ponds[j]? = some p → ws.getD j 0 ≤ p.full ∧ p.full ≤ 68719476736) : ws.sum ≤ 1099511627776 := by
  have := sum_le ws 68719476736 fun j hj => by
    obtain ⟨p, hx⟩ := get_some (l := ponds) (i := j) (by omega)
    have := hp j p hx
    omega
  rw [hl] at this
  omega
end
end Go.Ax

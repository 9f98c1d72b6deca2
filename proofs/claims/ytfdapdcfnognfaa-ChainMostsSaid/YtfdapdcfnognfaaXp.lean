import Derived.Test.YtfdapdcfnognfaaAxW4
import Derived.Test.YtfdapdcfnognfaaChecked
import Derived.Test.YtfdapdcfnognfaaXb
set_option linter.all false
namespace Go.Ax
open Go Go.RowKit Go.Proofs
theorem N24 : Try.f24.ntmps = 19 := by kernel_rfl
theorem Z24 : Try.f24.results.toList = ((List.toArray [(.tmp 4)]) : Array ResultVar).toList := by kernel_rfl
theorem B24 : Try.f24.body = some (at_ Try.f24 []) := by kernel_rfl
noncomputable def R24 : RC := (.seq (.reg [⟨(some 4), none, (.mov (.const (.bool false)))⟩])
  (.seq (.reg [⟨(some 5), none, (.mov (.tmp 0))⟩, ⟨(some 6), none, (.len (.tmp 5))⟩, ⟨(some 7), none, (.mov (.tmp 1))⟩, ⟨(some 8), none, (.cmpb .gtr (.tmp 6) (.tmp 7))⟩, ⟨(some 9), none, (.mov (.tmp 8))⟩, ⟨(some 10), (some (9, true)), (.mov (.tmp 0))⟩, ⟨(some 11), (some (9, true)), (.len (.tmp 10))⟩, ⟨(some 12), (some (9, true)), (.cmpb .leq (.tmp 11) (.const (.int .i64 200)))⟩, ⟨(some 13), none, (.pur ⟨(some 13), (.pick (.tmp 9) (.tmp 12) (.const (.bool false))), 4, "", (List.toArray []), none⟩)⟩, ⟨(some 14), none, (.mov (.tmp 13))⟩, ⟨(some 15), (some (14, false)), (.mov (.tmp 0))⟩, ⟨(some 16), (some (14, false)), (.len (.tmp 15))⟩, ⟨(some 17), (some (14, false)), (.cmpb .gtr (.tmp 16) (.const (.int .i64 205)))⟩, ⟨(some 18), none, (.pur ⟨(some 18), (.pick (.tmp 14) (.const (.bool true)) (.tmp 17)), 4, "", (List.toArray []), none⟩)⟩, ⟨(some 4), none, (.mov (.tmp 18))⟩])
  .ret))
theorem L24 : low Try.prog Try.f24.ntmps (at_ Try.f24 []) = some R24 := by kernel_rfl
end Go.Ax
namespace Go.Ax
open Go Go.RowKit Go.Proofs
theorem se26 : sliceElem Try.prog 26 = some (35, 2) := by kernel_rfl
theorem z35 : zeroOf Try.prog 35 = some (.agg #[.int .i64 0, .int .i64 0]) := by kernel_rfl
theorem i35 : ∃ i, Try.prog.info? 35 = some i ∧ i.bytes ≤ 1000 := by
  have h : (Try.prog.info? 35).map (fun i => i.bytes) = some 16 := by kernel_rfl
  cases e : Try.prog.info? 35 with
  | none => rw [e] at h; cases h
  | some i => rw [e] at h; simp at h; exact ⟨i, rfl, by omega⟩

theorem pure_span {lo n : Nat} {S : Rg} {d : Option Tmp} {x y : Operand} {p : String} {a b : Int} (hx : evS S x = some (iv a)) (hy : evS S y = some (iv b)) :
    pureOp Try.prog (frS n S) ⟨d, .build 35 #[(0, x), (1, y)], 35, p, #[], none⟩ = some (.agg #[iv a, iv b]) := by
  have hu : ∃ fs, Try.prog.underlying 35 = some (.struct fs) ∧ placesOf Try.prog fs.toList = some [(0, 1), (1, 1)] := by
    have h : (match Try.prog.underlying 35 with | some (.struct fs) => placesOf Try.prog fs.toList | _ => none) = some [(0, 1), (1, 1)] := by kernel_rfl
    split at h
    · rename_i fs e; exact ⟨fs, e, h⟩
    · cases h
  obtain ⟨fs, h1, h2⟩ := hu
  unfold pureOp
  simp only [partsOf, ev_frS, hx, hy, z35, h1, h2]
  rfl
theorem z37 : zeroOf Try.prog 37 = some (.agg #[.int .i64 0, .int .i64 0, .int .i64 0, .int .i64 0, .int .i64 0, .int .i64 0, .int .i64 0, .int .i64 0]) := by kernel_rfl
theorem pure_flows {n : Nat} {S : Rg} {d : Option Tmp} {x y z u : Operand} {p : String} {a1 b1 a2 b2 a3 b3 a4 b4 : Int} (hx : evS S x = some (.agg #[iv a1, iv b1])) (hy : evS S y = some (.agg #[iv a2, iv b2])) (hz : evS S z = some (.agg #[iv a3, iv b3])) (hu : evS S u = some (.agg #[iv a4, iv b4])) :
    pureOp Try.prog (frS n S) ⟨d, .build 37 #[(0, x), (1, y), (2, z), (3, u)], 37, p, #[], none⟩ = some (.agg #[iv a1, iv b1, iv a2, iv b2, iv a3, iv b3, iv a4, iv b4]) := by
  have hu : ∃ fs, Try.prog.underlying 37 = some (.struct fs) ∧ placesOf Try.prog fs.toList = some [(0, 2), (2, 2), (4, 2), (6, 2)] := by
    have h : (match Try.prog.underlying 37 with | some (.struct fs) => placesOf Try.prog fs.toList | _ => none) = some [(0, 2), (2, 2), (4, 2), (6, 2)] := by kernel_rfl
    split at h
    · rename_i fs e; exact ⟨fs, e, h⟩
    · cases h
  obtain ⟨fs, h1, h2⟩ := hu
  unfold pureOp
  simp only [partsOf, ev_frS, hx, hy, hz, *, z37, h1, h2]
  rfl

end Go.Ax
namespace Go.Ax
open Go Go.RowKit Go.Proofs
section
variable {P : Program} {kn : FuncId → Option Bool} {lo n : Nat} {rd : Bool} {masks : List Nat} {r : List RO} {ks : List Kd} {S : Rg} {H : Hp} {K : Rg → Hp → Prop} {d : Option Nat} {x y : Operand}
theorem wD_seq {ops : List RO} {c : RC} {K : Exit → Rg → Hp → Prop} (h : wDraw P kn lo n masks ops [] S H fun S' H' => wC P kn lo n rd c S' H' K) : wC P kn lo n rd (.seq (.dreg ops masks) c) S H K := h
theorem wD_mov {v : Value} (hx : evS S x = some v) (h : wDraw P kn lo n masks r (.pure :: ks) (putS S d v) H K) : wDraw P kn lo n masks (⟨d, none, .mov x⟩ :: r) ks S H K := by
  show match evS S x with | some v => wDraw P kn lo n masks r (.pure :: ks) (putS S d v) H K | none => False
  rw [hx]; exact h
theorem wD_addo {b o off : Nat} (hx : evS S x = some (.pointer (some ⟨b, o, none⟩))) (h : wDraw P kn lo n masks r (.pure :: ks) (putS S d (.pointer (some ⟨b, o + off, none⟩))) H K) : wDraw P kn lo n masks (⟨d, none, .addo x off⟩ :: r) ks S H K := by
  simp only [wDraw, wRO, wRI, hx]; exact h
theorem wD_ld {b o m : Nat} {cs : List Value} {v : Value} (hx : evS S x = some (.pointer (some ⟨b, o, none⟩))) (hc : Rd H b cs) (hv : cs[o]? = some v) (h : wDraw P kn lo n masks r (.read b :: ks) (putS S d v) H K) : wDraw P kn lo n masks (⟨d, none, .ld x m⟩ :: r) ks S H K := by
  simp only [wDraw, wRO, wRI, hx]; exact ⟨cs, v, hc.of, hv, hc.lt, h⟩
theorem wD_pur {o : Oper} {v : Value} (hd : defd S o.op.operands.toList = true) (hv : pureOp P (frS n S) o = some v) (h : wDraw P kn lo n masks r (.pure :: ks) (putS S d v) H K) : wDraw P kn lo n masks (⟨d, none, .pur o⟩ :: r) ks S H K := ⟨hd, v, hv, h⟩
theorem wD_end (hp : (bif ks.all calm then True else pairsP ks masks)) (h : K S H) : wDraw P kn lo n masks [] ks S H K := ⟨hp, h⟩
end
theorem below_full (k : Kd) : ∀ (l : List Kd) (m : Nat), m = 2 ^ l.length - 1 → belowP k m l
  | [], _, _ => trivial
  | c :: cs, m, h => by
    have h2 : 2 ^ (cs.length + 1) = 2 * 2 ^ cs.length := by rw [Nat.pow_succ]; omega
    have h1 : 0 < 2 ^ cs.length := Nat.pos_of_ne_zero (by simp)
    simp only [List.length_cons, h2] at h
    refine ⟨?_, below_full k cs (m / 2) (by omega)⟩
    have : Nat.beq (Nat.mod m 2) 1 = true := by
      rw [beq_eq]; show decide (m % 2 = 1) = true; simp; omega
    rw [this]; trivial
theorem below_calm {k : Kd} (hk : calm k = true) : ∀ (l : List Kd) (m : Nat), l.all calm = true → belowP k m l
  | [], _, _ => trivial
  | c :: cs, m, h => by
    simp only [List.all_cons, Bool.and_eq_true] at h
    refine ⟨?_, below_calm hk cs _ h.2⟩
    cases Nat.beq (Nat.mod m 2) 1
    · show ¬ clashP k c
      cases k <;> cases c <;> simp_all [calm, clashP]
    · trivial
theorem pairs_calm : ∀ (ks : List Kd) (ms : List Nat), ks.all calm = true → pairsP ks ms
  | [], _, _ => trivial
  | _ :: _, [], _ => trivial
  | k :: ks, m :: ms, h => by
    simp only [List.all_cons, Bool.and_eq_true] at h
    exact ⟨below_calm h.1 _ _ (by simpa using h.2), pairs_calm ks ms h.2⟩
theorem end_store {b m : Nat} {rest : List Kd} {ms : List Nat} (hc : rest.all calm = true) (hm : m = 2 ^ rest.length - 1) : (bif (Kd.store b :: rest).all calm then True else pairsP (.store b :: rest) (m :: ms)) := by
  have : (Kd.store b :: rest).all calm = false := rfl
  rw [this]
  exact ⟨below_full _ _ _ (by simpa using hm), pairs_calm _ _ hc⟩
/-- The flows between two courses. -/
def flowsV (s t : St) : List Value := [iv s.came, iv t.came, iv s.seeped, iv t.seeped, iv s.river, iv t.river, iv s.taken, iv t.taken]
section
variable {kn : FuncId → Option Bool} {lo : Nat} {H : Hp} {C1 C2 : Co}
theorem ag37 : isAggB Try.prog 37 = some true := by kernel_rfl
theorem load_all {t : TypeId} {i : TypeInfo} (ht : isAggB Try.prog t = some true) (hi : Try.prog.info? t = some i) {H : Hp} {b : Nat} {cs : List Value} (hs : i.size = cs.length) (h : Rd H b cs) : loadV Try.prog H t ⟨b, 0, none⟩ = some (.agg cs.toArray) := by
  unfold loadV
  simp only [h.of, ht, hi]
  have : row i.size cs 0 = some cs := by rw [hs]; simp [row, beq_eq]
  rw [this]
theorem i37 : ∃ i, Try.prog.info? 37 = some i ∧ i.size = 8 := by
  have h : (Try.prog.info? 37).map (fun i => i.size) = some 8 := by kernel_rfl
  cases e : Try.prog.info? 37 with
  | none => rw [e] at h; cases h
  | some i => rw [e] at h; simp at h; exact ⟨i, rfl, h⟩
end
end Go.Ax
namespace Go.Ax
open Go Go.RowKit Go.Proofs
end Go.Ax
namespace Go.Ax
open Go Go.RowKit Go.Proofs
/-- The hours, one by one, of the course of the least or of the greatest. -/
def foG (g : Bool) (c : Ch) (hs : List Hr) (i : Nat) : List Gt × St := (hs.take i).foldl (fun x h => (boardsF h x.1, hourF c g h x.1 x.2)) (c.gs, s0 g c)
/-- Where the things of runBoth lie. -/
structure BW where
  b1 : Nat
  b2 : Nat
  b6 : Nat
  b7 : Nat
  r : Nat
def BW.all (x : BW) : List Nat := [x.b1, x.b2, x.b6, x.b7, x.r]
structure BQ where
  c : Ch
  la : Option Addr
  ln : Nat
  lcap : Nat
  hs : List Hr
structure BQ.Off (q : BQ) (w : List Nat) : Prop where
  p : Go.Ax.Off w q.c.pa
  l : Go.Ax.Off w q.la
  h : ∀ h ∈ q.hs, Go.Ax.Off w h.ba ∧ Go.Ax.Off w h.ca ∧ Go.Ax.Off w h.ta
structure BE (q : BQ) (x : BW) (p1 p2 : Wh) (H : Hp) : Prop where
  hrs : HrsAt x.b1 x.b2 q.la q.ln q.lcap q.hs H
  r6 : Cl H x.b6 [pt p1.k]
  r7 : Cl H x.b7 [pt p2.k]
  dfr : x.r < H.next ∧ H.t.get x.r = some (.dfr (some []))
theorem BE.keep {q : BQ} {x : BW} {p1 p2 : Wh} {H H1 : Hp} {w : List Nat} (h : BE q x p1 p2 H) (k : Keep H H1 w) (o : q.Off w) (hx : ∀ b ∈ x.all, b ∉ w) : BE q x p1 p2 H1 := by
  have m : ∀ b, b ∈ x.all → b ∉ w := hx
  refine ⟨⟨k.rd h.hrs.c1 (m _ (by simp [BW.all])), k.rd h.hrs.c2 (m _ (by simp [BW.all])), k.sl h.hrs.l o.l, h.hrs.ln, fun y hy => ?_⟩, k.cl h.r6 (m _ (by simp [BW.all])), k.cl h.r7 (m _ (by simp [BW.all])), ?_⟩
  · have a := h.hrs.h y hy
    obtain ⟨o1, o2, o3⟩ := o.h y hy
    exact ⟨k.sl a.b o1, k.sl a.c o2, k.sl a.t o3, a.lb, a.lc, a.lt⟩
  · exact ⟨Nat.lt_of_lt_of_le h.dfr.1 k.1, by rw [k.2 _ h.dfr.1 (m _ (by simp [BW.all]))]; exact h.dfr.2⟩
theorem boff_nil (q : BQ) : q.Off [] := ⟨fun _ _ => by simp, fun _ _ => by simp, fun _ _ => ⟨fun _ _ => by simp, fun _ _ => by simp, fun _ _ => by simp⟩⟩

noncomputable abbrev asg45 : Code := at_ Try.f45 [1, 1, 0, 1, 0, 0]
noncomputable abbrev body45 : Code := at_ Try.f45 [1, 1, 0, 1, 0, 1]
abbrev S45 (x : BW) : Rg := [(6, pt x.b6), (7, pt x.b7)]
structure BJ (lo : Nat) (H : Hp) (q : BQ) (L : Nat) (p1 p2 : Wh) (x : BW) (l : Nat) (i : Nat) (H' : Hp) : Prop where
  c1 : Crs q.c false L p1 H' (foG false q.c q.hs i).1 (foG false q.c q.hs i).2
  c2 : Crs q.c true L p2 H' (foG true q.c q.hs i).1 (foG true q.c q.hs i).2
  a1 : Ahead q.c.ponds (i * perHour) (foG false q.c q.hs i).2
  a2 : Ahead q.c.ponds (i * perHour) (foG true q.c q.hs i).2
  g1 : (foG false q.c q.hs i).1.all (fun g => gateB g q.c.pn) = true
  g2 : (foG true q.c q.hs i).1.all (fun g => gateB g q.c.pn) = true
  le : BE q x p1 p2 H'
  lp : Lp Try.prog H' l .ready none 32 (S45 x) [22, 23] asg45 body45 x.r
  ll : l < H'.next
  lo : lo ≤ H'.next
  kp : Keep H H' []
section
variable {kn : FuncId → Option Bool} {lo L l : Nat} {H : Hp} {q : BQ} {p1 p2 : Wh} {x : BW}
theorem BJ.keep0 {i : Nat} {H1 H2 : Hp} (j : BJ lo H q L p1 p2 x l i H1) (k : Keep H1 H2 []) : BJ lo H q L p1 p2 x l i H2 :=
  ⟨j.c1.keep k, j.c2.keep k, j.a1, j.a2, j.g1, j.g2, j.le.keep k (boff_nil q) (fun _ _ => by simp), j.lp.keep k j.ll (by simp), Nat.lt_of_lt_of_le j.ll k.1, Nat.le_trans j.lo k.1, j.kp.trans k⟩
end
end Go.Ax
namespace Go.Ax
open Go Go.RowKit Go.Proofs
end Go.Ax
namespace Go.Ax
open Go Go.RowKit Go.Proofs
def BQ.s (q : BQ) : St := (foG false q.c q.hs q.ln).2
def BQ.t (q : BQ) : St := (foG true q.c q.hs q.ln).2
def zero8 : List Value := [iv 0, iv 0, iv 0, iv 0, iv 0, iv 0, iv 0, iv 0]
end Go.Ax
namespace Go.Ax
open Go Go.RowKit Go.Proofs
def inB (n a b : Int) : Bool := decide (a ≤ n) && decide (n ≤ b)
section
variable {kn : FuncId → Option Bool} {lo : Nat} {H : Hp}
theorem in_ok {n a b : Int} : ∃ H', FnX Try.prog kn lo 66 [iv n, iv a, iv b] H (.bool (inB n a b)) H' ∧ Keep H H' [] := by
  have key := fnX_low (kn := kn) (lo := lo) (H := H) (args := [iv n, iv a, iv b]) (Q := fun v H' => v = .bool (inB n a b) ∧ Keep H H' []) Try.func66 B66 N66 Z66 L66 (by simp) ?_
  · obtain ⟨v, H', h, rfl, q⟩ := key; exact ⟨H', h, q⟩
  repeat' first
    | (intro t ht; cases t)
    | exact And.intro trivial (Exists.intro _ (And.intro rfl ⟨by simp_all [retV, inB] <;> (intros; omega), Keep.refl _ _⟩))
    | refine And.intro rfl (Exists.intro _ (And.intro rfl ?_))
def manyB (n : Nat) (m : Int) : Bool := (decide ((n : Int) > m) && decide ((n : Int) ≤ 200)) || decide ((n : Int) > 205)
theorem many_ok {la : Option Addr} {ln lcap : Nat} {m : Int} : ∃ H', FnX Try.prog kn lo 24 [.slice la ln lcap, iv m] H (.bool (manyB ln m)) H' ∧ Keep H H' [] := by
  have key := fnX_low (kn := kn) (lo := lo) (H := H) (args := [.slice la ln lcap, iv m]) (Q := fun v H' => v = .bool (manyB ln m) ∧ Keep H H' []) Try.func24 B24 N24 Z24 L24 (by simp) ?_
  · obtain ⟨v, H', h, rfl, q⟩ := key; exact ⟨H', h, q⟩
  repeat' first
    | (intro t ht; cases t)
    | exact And.intro trivial (Exists.intro _ (And.intro rfl ⟨by simp_all [retV, manyB] <;> (intros; omega), Keep.refl _ _⟩))
    | refine And.intro rfl (Exists.intro _ (And.intro rfl ?_))
end
end Go.Ax
namespace Go.Ax
open Go Go.RowKit Go.Proofs
end Go.Ax
namespace Go.Ax
open Go Go.RowKit Go.Proofs
/-- Numbers of 16 bits, as their slice has them. -/
def u16s (l : List Nat) : List Value := l.map fun (n : Nat) => Value.int .u16 ((n : Nat) : Int)
end Go.Ax
namespace Go.Ax
open Go Go.RowKit Go.Proofs
theorem u26 : Try.prog.underlying 26 = some (.slice 35) := by kernel_rfl
theorem Acc.keepW {lo f : Nat} {e : TypeId} {H H1 : Hp} {v : Value} {n : Nat} {cs : List Value} {w : List Nat} (h : Acc lo f e H v n cs) (k : Keep H H1 w) (hw : ∀ b ∈ w, b < f) : Acc lo f e H1 v n cs :=
  h.imp id fun ⟨b, e1, h0, hf, hl, hn, hg⟩ => ⟨b, e1, h0, hf, hl, Nat.lt_of_lt_of_le hn k.1, by rw [k.2 b hn (fun q => by have := hw b q; omega)]; exact hg⟩

/-- What the closure 'more' has at hand: the numbers, and the turn's cell. -/
structure Mo (F : Hp) (b7 : Nat) (ba : Option Addr) (bl bcap : Nat) (bs : List Nat) : Prop where
  h7 : Rd F b7 [.slice ba bl bcap]
  hb : Sl F ba bl bcap (u16s bs)
  hbl : bs.length = bl
  h0 : 0 < bl
  hr : ∀ n ∈ bs, n ≤ 65535
  h2 : bl ≤ 9223372036854775807
end Go.Ax
namespace Go.Ax
open Go Go.RowKit Go.Proofs
theorem Cl.ne {H H' : Hp} {b : Nat} {cs cs' : List Value} (h : Cl H b cs) (h' : Cl H' b cs') (hne : cs' ≠ cs) : H'.t.get b ≠ H.t.get b := by
  obtain ⟨_, e, l, g⟩ := h
  obtain ⟨_, e', l', g'⟩ := h'
  intro q
  rw [g, g'] at q
  simp only [Option.some.injEq, Ob.cells.injEq] at q
  exact hne q.1
end Go.Ax
namespace Go.Ax
open Go Go.RowKit Go.Proofs
/-- The block that append has made so far. -/
def accB : Value → List Nat
  | .slice (some a) _ _ => [a.block]
  | _ => []
section
variable {P : Program} {lo : Nat}
theorem heap_append_two {H : Hp} {t0 t1 e ep : TypeId} {size k cap2 f : Nat} {a : Option Addr} {v : Value} {cs news : List Value} (he : sliceElem P t0 = some (e, size)) (ht : P.underlying t1 = some (.slice ep))
    (hs : Sl H a 1 cap2 news) (hl : news.length = 1 * size) (hz : 0 < size) (hone : news.all one = true) (hcl : cs.length = k * size) (hk : k < 1000) (ha : Acc lo f e H v k cs) (hlo : lo ≤ H.next) (hf : f ≤ H.next) :
    ∃ H1 kd, (∀ (n : Nat) (S : Rg) (d : Option Tmp) (x y : Operand) (ty : TypeId) (p : String), evS S x = some v → evS S y = some (.slice a 1 cap2) → heapOp P lo (frS n S) H ⟨d, .call ⟨.builtin .append, #[x, y], #[t0, t1]⟩, ty, p, #[], none⟩ = some (.val (.slice (some ⟨H.next, 0, none⟩) (k + 1) (k + 1)) H1, kd)) ∧ (kd = .heavy ∨ ∃ b, kd = .store b ∧ f ≤ b) ∧
      Acc lo f e H1 (.slice (some ⟨H.next, 0, none⟩) (k + 1) (k + 1)) (k + 1) (cs ++ news) ∧ Keep H H1 (accB v) ∧ H1.next = H.next + 1 := by
  rcases ha with ⟨rfl, rfl, rfl⟩ | ⟨b, rfl, h0, hb, hlb, hn, hg⟩
  · refine ⟨H.new (.cells news e true), .heavy, ?_, .inl rfl, ?_, (new_facts rfl).1, rfl⟩
    · intro n S d x y ty p hx hy
      unfold heapOp
      simp only [evs, ev_frS, hx, hy, builtinV, List.getElem?_toArray, List.getElem?_cons_zero, List.getElem?_cons_succ, he, ht, src_of hs hl, appendV]
      rfl
    · refine .inr ⟨H.next, rfl, by omega, hf, hlo, Nat.lt_succ_self _, ?_⟩
      show (H.t.set H.next _).get H.next = _
      rw [Tr.get_set, if_pos rfl]; rfl
  · have h1 : Nat.ble (0 + (k + 1) * size) cs.length = false := by
      cases h : Nat.ble (0 + (k + 1) * size) cs.length with
      | false => rfl
      | true => have := Nat.le_of_ble_eq_true h; rw [hcl, Nat.succ_mul] at this; omega
    have h2 : Nat.beq (0 + k * size) cs.length = true := by rw [hcl, Nat.zero_add]; exact Nat.beq_refl _
    have h3 : Nat.ble (k + 1) 1048576 = true := Nat.ble_eq_true_of_le (by omega)
    have h4 : Nat.beq e e = true := Nat.beq_refl e
    refine ⟨({ H with t := H.t.set b .dead } : Hp).new (.cells (cs ++ news) e true), .store b, ?_, .inr ⟨b, rfl, hb⟩, ?_, ?_, rfl⟩
    · intro n S d x y ty p hx hy
      unfold heapOp
      simp only [evs, ev_frS, hx, hy, builtinV, List.getElem?_toArray, List.getElem?_cons_zero, List.getElem?_cons_succ, he, ht, src_of hs hl, appendV, hg, h1, h2, h3, h4, hone, Nat.ble_eq_true_of_le hlb, Bool.and_self, cond_true, cond_false, List.drop_zero, show Nat.beq 1 0 = false from rfl]
    · refine .inr ⟨H.next, rfl, by omega, hf, hlo, Nat.lt_succ_self _, ?_⟩
      show ((H.t.set b .dead).set H.next _).get H.next = _
      rw [Tr.get_set, if_pos rfl]
    · refine ⟨Nat.le_succ _, fun c hc hcn => ?_⟩
      have hcn : c ≠ b := by simpa [accB] using hcn
      show ((H.t.set b .dead).set H.next _).get c = _
      rw [Tr.get_set, if_neg (by omega), Tr.get_set, if_neg hcn]
end
theorem Acc.blk {lo f : Nat} {e : TypeId} {H : Hp} {v : Value} {n : Nat} {cs : List Value} (h : Acc lo f e H v n cs) : ∀ b ∈ accB v, f ≤ b ∧ b < H.next := by
  rcases h with ⟨_, _, rfl⟩ | ⟨b, rfl, _, hf, _, hn, _⟩
  · intro b hb; simp [accB] at hb
  · intro c hc; simp [accB] at hc; subst hc; exact ⟨hf, hn⟩
theorem Mo.keep {F H : Hp} {b7 bt : Nat} {ba : Option Addr} {bl bcap : Nat} {bs : List Nat} (m : Mo F b7 ba bl bcap bs) (k : Keep F H [bt]) (h7 : b7 ≠ bt) (hb : ∀ b, ba = some ⟨b, 0, none⟩ → b ≠ bt) : Mo H b7 ba bl bcap bs :=
  ⟨k.rd m.h7 (by simpa using h7), k.sl m.hb (fun b e => by have := hb b e; simpa using this), m.hbl, m.h0, m.hr, m.h2⟩
end Go.Ax
namespace Go.Ax
open Go Go.RowKit Go.Proofs
/-- No pond has more in the first one, and no flow is more. -/
structure LeS (s t : St) : Prop where
  w : Le s.ws t.ws
  cm : s.came ≤ t.came
  sd : s.seeped ≤ t.seeped
  rv : s.river ≤ t.river
  tk : s.taken ≤ t.taken
theorem LeS.refl (s : St) : LeS s s := ⟨⟨rfl, fun _ => Int.le_refl _⟩, Int.le_refl _, Int.le_refl _, Int.le_refl _, Int.le_refl _⟩
theorem river_le {a b to l m : Int} (h : a ≤ b) (k : l ≤ m) : moveR a to l ≤ moveR b to m := by
  unfold moveR; split <;> omega
theorem seep_mono {v w b : Int} (hb : 0 ≤ b) (h : v ≤ w) : v * b / 1000000 ≤ w * b / 1000000 ∧ (v * b + 1000000 - 1) / 1000000 ≤ (w * b + 1000000 - 1) / 1000000 := by
  have hm := Int.mul_le_mul_of_nonneg_right h hb
  generalize v * b = P at *
  generalize w * b = Q at *
  omega
theorem stay_mono {v w b : Int} (hb : b ≤ 1000000) (h : v ≤ w) : v - v * b / 1000000 ≤ w - w * b / 1000000 ∧ v - (v * b + 1000000 - 1) / 1000000 ≤ w - (w * b + 1000000 - 1) / 1000000 := by
  obtain ⟨d, rfl⟩ : ∃ d, w = v + d := ⟨w - v, by omega⟩
  have hd0 : 0 ≤ d := by omega
  have hm := Int.mul_le_mul_of_nonneg_left hb hd0
  rw [Int.add_mul]
  generalize v * b = P at *
  generalize d * b = Q at *
  omega
end Go.Ax
namespace Go.Ax
open Go Go.RowKit Go.Proofs
theorem hour_facts {h : Hr} {pn gn : Nat} (hv : hourB h pn gn = true) : ∀ s ∈ h.cs, 0 ≤ s.1 ∧ s.1 ≤ s.2 ∧ s.2 ≤ 68719476736 := by
  simp only [hourB, Bool.and_eq_true] at hv
  intro s hs
  have := List.all_eq_true.1 hv.1.2 s hs
  simp [withinB] at this; omega
theorem pond_facts {c : Ch} (v : c.Vd) : ∀ p ∈ c.ponds, (0 ≤ p.lo ∧ p.lo ≤ 1000000 ∧ 0 ≤ p.hi ∧ p.hi ≤ 1000000) ∧ 1 ≤ p.full ∧ p.full ≤ 68719476736 := by
  intro p hp
  obtain ⟨i, hi, rfl⟩ := List.getElem_of_mem hp
  have := List.all_eq_true.1 v.p (c.ponds[i], i) (List.mem_zipIdx_iff_getElem?.2 (by simp [hi]))
  simp [pondB, withinB] at this
  omega
end Go.Ax
namespace Go.Ax
open Go Go.RowKit Go.Proofs
end Go.Ax
namespace Go.Ax
open Go Go.RowKit Go.Proofs
end Go.Ax
namespace Go.Ax
open Go Go.RowKit Go.Proofs Go.ChangeShapes Go.WideShapes Go.Deep
theorem IntT.row {α : Type} {P : Program} {t : TypeId} {k : Nat} {f : α → List Value} {mk : (Nat → Int) → α} (h : IntT P t) (hc : P.cellsOf t = k) (hmk : ∀ N : Nat → Int, f (mk N) = (List.range k).map fun j => Value.int .i64 (N j))
    {H : Type} {enc : TypeId × Value → H} {w : World} {base : Nat} {spare : Nat → Bool} {held : Bool} (fuel : Nat) (cs : List Value) (x : DataW H × List MemPlace) (hx : DataW.trod enc P w base spare held fuel t cs = some x) : ∃ y : α, cs = f y ∧ True := by
  obtain ⟨h1, h2⟩ := h _ _ _ _ _ _ _ _ _ hx
  have : ∃ N : Nat → Int, ∀ j, j < cs.length → cs[j]? = some (.int .i64 (N j)) := by
    refine ⟨fun j => match cs[j]? with | some (.int _ n) => n | _ => 0, fun j hj => ?_⟩
    obtain ⟨n, hn⟩ := h2 j hj
    simp [hn]
  obtain ⟨N, hN⟩ := this
  refine ⟨mk N, ?_, trivial⟩
  rw [hmk]
  apply List.ext_getElem?
  intro j
  by_cases hj : j < k
  · rw [hN j (by omega), List.getElem?_map, List.getElem?_range hj]; rfl
  · rw [List.getElem?_eq_none (by omega), List.getElem?_eq_none (by simp; omega)]
theorem spot_of {w : World} {a : Addr} {v : Value} (h : w.cell? a = some v) : a.spot = none := by
  unfold World.cell? at h
  split at h
  · cases hs : a.spot with
    | none => rfl
    | some x => rw [hs] at h; simp at h
  · cases h
theorem add_zero' (a : Addr) : a.add 0 = a := by unfold Addr.add; simp
theorem add_plain (b o n : Nat) : (⟨b, o, none⟩ : Addr).add n = ⟨b, o + n, none⟩ := by
  unfold Addr.add
  by_cases q : n = 0
  · simp [q]
  · simp [q]
/-- A slice of rows, as it is read; Q: what else is known of a row. -/
theorem rows_read {H : Type} {enc : TypeId × Value → H} {P : Program} {w : World} {base : Nat} {held : Bool} {α : Type} {f : α → List Value} {Q : α → Prop} {k : Nat} {t e : TypeId} {fuel : Nat} {v : Value} {x : DataW H × List MemPlace}
    (ht : P.underlying t = some (.slice e)) (hR : ∀ (fuel : Nat) (cs : List Value) (x : DataW H × List MemPlace), DataW.trod enc P w base (fun _ => true) held fuel e cs = some x → ∃ y : α, cs = f y ∧ Q y) (hc : P.cellsOf e = k) (hk : 0 < k) (hfk : ∀ y, (f y).length = k)
    (h : DataW.trod enc P w base (fun _ => true) held fuel t [v] = some x) : ∃ (l : List α), l.length ≤ maxLen ∧ (∀ y ∈ l, Q y) ∧
      (((v = .slice none 0 0 ∨ ∃ a', v = .slice (some a') 0 0) ∧ l = []) ∨ ∃ blk off cap, v = .slice (some ⟨blk, off, none⟩) l.length cap ∧ l.length ≤ cap ∧ ∀ (i : Nat) u, (l.flatMap f)[i]? = some u → w.cell? ⟨blk, off + i, none⟩ = some u) := by
  rcases open_slice ht h with ⟨h0, _⟩ | ⟨a, len, cap, m, n, D, Pl, hcs, hb, hl, hm, hmm, hx, hi⟩
  · cases h0
    exact ⟨[], by simp, fun y hy => by simp at hy, .inl ⟨.inl rfl, rfl⟩⟩
  cases hcs
  simp only [if_true] at hmm
  subst hmm
  rcases Nat.eq_zero_or_pos m with h0 | h0
  · subst h0
    have : len = 0 := by omega
    subst this
    exact ⟨[], by simp, fun y hy => by simp at hy, .inl ⟨.inr ⟨_, rfl⟩, rfl⟩⟩
  obtain ⟨blk, off, spot⟩ := a
  have hs : spot = none := by
    obtain ⟨cs', h1, h2⟩ := hi 0 h0
    obtain ⟨y, hy, _⟩ := hR _ _ _ h2
    obtain ⟨_, h5, h6⟩ := World.cells?_some h1
    have h7 := h6 0 (by omega)
    rw [Nat.zero_mul, add_zero', add_zero'] at h7
    have h8 : cs'[0]? = some (cs'[0]'(by omega)) := List.getElem?_eq_getElem _
    rw [h8] at h7
    exact spot_of h7
  subst hs
  have hrow : ∀ i, i < len → ∃ y : α, Q y ∧ ∀ j, j < k → ∃ u, (f y)[j]? = some u ∧ w.cell? ⟨blk, off + (i * k + j), none⟩ = some u := by
    intro i hil
    obtain ⟨cs', h1, h2⟩ := hi i (by omega)
    obtain ⟨y, rfl, hq⟩ := hR _ _ _ h2
    obtain ⟨_, h5, h6⟩ := World.cells?_some h1
    refine ⟨y, hq, fun j hj => ?_⟩
    have h7 := h6 j (by omega)
    have h8 : (f y)[j]? = some ((f y)[j]'(by rw [hfk]; exact hj)) := List.getElem?_eq_getElem _
    rw [h8, hc, add_plain, add_plain, Nat.add_assoc] at h7
    exact ⟨_, h8, h7⟩
  have key : ∀ n, n ≤ len → ∃ l : List α, l.length = n ∧ (∀ y ∈ l, Q y) ∧ ∀ (i : Nat) y, l[i]? = some y → ∀ j, j < k → ∃ u, (f y)[j]? = some u ∧ w.cell? ⟨blk, off + (i * k + j), none⟩ = some u := by
    intro n
    induction n with
    | zero => intro _; exact ⟨[], rfl, fun y hy => by simp at hy, fun i y e => by simp at e⟩
    | succ n ih =>
      intro hn
      obtain ⟨l, h1, hq, h2⟩ := ih (by omega)
      obtain ⟨y, hyq, hy⟩ := hrow n (by omega)
      refine ⟨l ++ [y], by simp [h1], fun z hz => ?_, fun i z e => ?_⟩
      · simp only [List.mem_append, List.mem_singleton] at hz
        rcases hz with hz | rfl
        · exact hq z hz
        · exact hyq
      rw [List.getElem?_append] at e
      split at e
      · exact h2 i z e
      · rename_i q
        have : i = n := by have := get_lt e; simp at this; omega
        subst this
        rw [h1, Nat.sub_self] at e
        simp at e; subst e
        exact hy
  obtain ⟨l, hl1, hq, hl2⟩ := key len (Nat.le_refl _)
  refine ⟨l, by omega, hq, .inr ⟨blk, off, m, by rw [hl1], by omega, fun i u hu => ?_⟩⟩
  obtain ⟨y, h1, h2⟩ := flat_get hk (fun y _ => hfk y) i u hu
  have hj : i % k < k := Nat.mod_lt _ hk
  obtain ⟨u', e1, e2⟩ := hl2 _ y h1 _ hj
  rw [h2] at e1; cases e1
  rw [Nat.div_add_mod'] at e2
  exact e2
/-- Rows of plain cells. -/
theorem rows_given {H : Type} {enc : TypeId × Value → H} {P : Program} {w : World} {base : Nat} {held : Bool} {α : Type} {f : α → List Value} {Q : α → Prop} {k : Nat} {t e : TypeId} {fuel : Nat} {v : Value} {x : DataW H × List MemPlace}
    (ht : P.underlying t = some (.slice e)) (hR : ∀ (fuel : Nat) (cs : List Value) (x : DataW H × List MemPlace), DataW.trod enc P w base (fun _ => true) held fuel e cs = some x → ∃ y : α, cs = f y ∧ Q y) (hc : P.cellsOf e = k) (hk : 0 < k) (hfk : ∀ y, (f y).length = k) (hflat : ∀ y u, u ∈ f y → flat1 u = true)
    (h : DataW.trod enc P w base (fun _ => true) held fuel t [v] = some x) : ∃ (l : List α) (y : Imp), Given w v f l y ∧ l.length ≤ maxLen ∧ ∀ y ∈ l, Q y := by
  obtain ⟨l, h1, h2, ⟨h3, rfl⟩ | ⟨blk, off, cap, h3, h4, h5⟩⟩ := rows_read ht hR hc hk hfk h
  · exact ⟨[], ⟨0, 0, []⟩, ⟨fun i u e => by simp at e, rfl, .inl ⟨h3, rfl⟩⟩, h1, h2⟩
  · refine ⟨l, ⟨blk, off, l.flatMap f⟩, ⟨fun i u hu => ⟨h5 i u hu, ?_⟩, rfl, .inr ⟨cap, h3, h4⟩⟩, h1, h2⟩
    obtain ⟨y, hy, hu'⟩ := List.mem_flatMap.1 (List.mem_of_getElem? hu)
    exact hflat y u hu'

/-- What is given in two layers: rows of plain cells, and one block whose cells are told by what they stand for. -/
def renOf (imps : List Imp) : Ren := fun b => (imps[b]?).map fun x => ⟨x.blk, x.off, none⟩
theorem imports2 {P : Program} (imps : List Imp) (w : World) (h : ∀ x ∈ imps, ∀ (i : Nat) v, x.cs[i]? = some v → w.cell? ⟨x.blk, x.off + i, none⟩ = some v ∧ flat1 v = true) (blk off : Nat) (cs : List Value)
    (hcs : ∀ (i : Nat) v, cs[i]? = some v → ∃ v', w.cell? ⟨blk, off + i, none⟩ = some v' ∧ VR (renOf imps) v v') :
    ∃ (r : Ren) (H : Hp), Rel P r w.heap.size H w ∧ H.next = imps.length + 1 ∧ (∀ b loc, r b = some loc → b < H.next) ∧ Ren.Le (renOf imps) r ∧ (∀ (b : Nat) x, imps[b]? = some x → r b = some ⟨x.blk, x.off, none⟩ ∧ cellsOf H b = some x.cs) ∧
      r imps.length = some ⟨blk, off, none⟩ ∧ cellsOf H imps.length = some cs := by
  obtain ⟨t, ht⟩ := tr_of (fun b => if b = imps.length then some (.ro cs) else (imps[b]?).map fun x => .ro x.cs) (imps.length + 1)
  let r : Ren := fun b => if b = imps.length then some ⟨blk, off, none⟩ else (imps[b]?).map fun x => ⟨x.blk, x.off, none⟩
  have hle : Ren.Le (renOf imps) r := fun b loc e => by
    unfold renOf at e
    have hlt : b < imps.length := by
      rcases Nat.lt_or_ge b imps.length with q | q
      · exact q
      · rw [List.getElem?_eq_none q] at e; cases e
    simp only [r]
    rw [if_neg (by omega)]; exact e
  have hr : ∀ (b : Nat) loc, r b = some loc → (b = imps.length ∧ loc = ⟨blk, off, none⟩ ∧ t.get b = some (.ro cs)) ∨ ∃ x, imps[b]? = some x ∧ b < imps.length ∧ loc = ⟨x.blk, x.off, none⟩ ∧ t.get b = some (.ro x.cs) := by
    intro b loc e
    simp only [r] at e
    by_cases hb : b = imps.length
    · rw [if_pos hb] at e
      cases e
      exact .inl ⟨hb, rfl, by rw [ht, if_pos (by omega), if_pos hb]⟩
    · rw [if_neg hb] at e
      cases hx : imps[b]? with
      | none => rw [hx] at e; cases e
      | some x =>
        rw [hx] at e
        simp at e
        have hlt := get_lt hx
        exact .inr ⟨x, rfl, hlt, e.symm, by rw [ht, if_pos (by omega), if_neg hb, hx]; rfl⟩
  have low : ∀ {g o : Nat} {v : Value}, w.cell? ⟨g, o, none⟩ = some v → g < w.heap.size := fun {g o v} hv => by
    unfold World.cell? at hv
    rcases Nat.lt_or_ge g w.heap.size with q | q
    · exact q
    · rw [Array.getElem?_eq_none q] at hv; cases hv
  refine ⟨r, { next := imps.length + 1, t }, ⟨?_, ?_, ?_, Nat.le_refl _⟩, rfl, ?_, hle, ?_, by simp [r], ?_⟩
  · intro b loc e
    rcases hr b loc e with ⟨hb, rfl, hg⟩ | ⟨x, hx, hlt, rfl, hg⟩
    · refine ⟨by show b < imps.length + 1; omega, ?_⟩
      show Dm _ _ _ (t.get b)
      rw [hg]
      cases hc : cs with
      | nil => exact .inl rfl
      | cons v l =>
        obtain ⟨v', h1, _⟩ := hcs 0 v (by rw [hc]; rfl)
        exact .inr (low h1)
    · refine ⟨by show b < imps.length + 1; omega, ?_⟩
      show Dm _ _ _ (t.get b)
      rw [hg]
      cases hc : x.cs with
      | nil => exact .inl rfl
      | cons v l => exact .inr (low (h x (List.mem_of_getElem? hx) 0 v (by rw [hc]; rfl)).1)
  · intro b loc o e eo
    rcases hr b loc e with ⟨hb, rfl, hg⟩ | ⟨x, hx, hlt, rfl, hg⟩
    · rw [hg] at eo; cases eo
      refine ⟨rfl, fun i v ev => ?_⟩
      obtain ⟨v', h1, h2⟩ := hcs i v ev
      unfold World.cell? at h1
      simp only at h1
      split at h1
      · rename_i C e' f hC
        exact ⟨C, e', f, v', hC, by simpa using h1, h2.mono hle⟩
      · cases h1
    · rw [hg] at eo; cases eo
      refine ⟨rfl, fun i v ev => ?_⟩
      obtain ⟨h1, h2⟩ := h x (List.mem_of_getElem? hx) i v ev
      unfold World.cell? at h1
      simp only at h1
      split at h1
      · rename_i C e' f hC
        exact ⟨C, e', f, v, hC, by simpa using h1, flat1_vr h2⟩
      · cases h1
  · intro b b' loc loc' e e' _ hl _
    exfalso
    obtain ⟨o, h1, h2, h3⟩ := hl
    have h1 : t.get b = some o := h1
    rcases hr b loc e with ⟨_, _, hg⟩ | ⟨x, _, _, _, hg⟩ <;> (rw [hg] at h1; cases h1; cases h3)
  · intro b loc e
    show b < imps.length + 1
    rcases hr b loc e with ⟨hb, _, _⟩ | ⟨x, _, hlt, _, _⟩ <;> omega
  · intro b x hx
    have hlt := get_lt hx
    refine ⟨by simp only [r]; rw [if_neg (by omega), hx]; rfl, ?_⟩
    unfold cellsOf
    show (match t.get b with | some (.cells cs _ _) => some cs | some (.ro cs) => some cs | _ => none) = _
    rw [ht, if_pos (by omega), if_neg (by omega), hx]; rfl
  · unfold cellsOf
    show (match t.get imps.length with | some (.cells cs _ _) => some cs | some (.ro cs) => some cs | _ => none) = _
    rw [ht, if_pos (by omega), if_pos rfl]
end Go.Ax
namespace Go.Ax
open Go Go.RowKit Go.Proofs Go.ChangeShapes Go.WideShapes Go.Deep
theorem Given.rel2 {α : Type} {w : World} {v : Value} {f : α → List Value} {l : List α} {x : Imp} (g : Given w v f l x) {r : Ren} {b : Nat} (hr : r b = some ⟨x.blk, x.off, none⟩) :
    ∃ a cap, VR r (.slice a l.length cap) v ∧ ∀ H : Hp, b < H.next → cellsOf H b = some x.cs → Sl H a l.length cap (l.flatMap f) := by
  rcases g.v with ⟨rfl | ⟨a', rfl⟩, rfl⟩ | ⟨cap, rfl, hl⟩
  · exact ⟨none, 0, .nilSlice, fun H _ _ => .inl ⟨.inl rfl, rfl, rfl, rfl⟩⟩
  · exact ⟨some ⟨0, 0, some 0⟩, 0, .weird, fun H _ _ => .inl ⟨.inr rfl, rfl, rfl, rfl⟩⟩
  · refine ⟨some ⟨b, 0, none⟩, cap, ?_, fun H hb hc => .inr ⟨b, rfl, ⟨hb, by rw [hc, g.cs]⟩, hl⟩⟩
    have := VR.slice (o := 0) (n := l.length) (c := cap) hr rfl hl
    simpa using this
/-- An hour, as it is given: three slices. -/
structure HV where
  s1 : Value
  s2 : Value
  s3 : Value
  bs : List Bd
  cs : List (Int × Int)
  ts : List Tk
  x1 : Imp
  x2 : Imp
  x3 : Imp
def HV.f (h : HV) : List Value := [h.s1, h.s2, h.s3]
def HV.i (h : HV) : List Imp := [h.x1, h.x2, h.x3]
structure HV.Q (w : World) (h : HV) : Prop where
  g1 : Given w h.s1 Bd.v h.bs h.x1
  g2 : Given w h.s2 (fun s : Int × Int => [iv s.1, iv s.2]) h.cs h.x2
  g3 : Given w h.s3 Tk.v h.ts h.x3
theorem hours_abs {w : World} {imps : List Imp} : ∀ (L : List HV) (pre : List Imp), imps = pre ++ L.flatMap HV.i → (∀ h ∈ L, h.Q w) → ∃ hs : List Hr, hs.length = L.length ∧ LR (renOf imps) (hrc hs) (L.flatMap HV.f) ∧
    ∀ H : Hp, (∀ (b : Nat) x, imps[b]? = some x → b < H.next ∧ cellsOf H b = some x.cs) → ∀ h ∈ hs, h.At H
  | [], _, _, _ => ⟨[], rfl, .nil, fun _ _ h hh => by simp at hh⟩
  | h :: L, pre, he, hq => by
    obtain ⟨hs, e1, e2, e3⟩ := hours_abs (imps := imps) L (pre ++ h.i) (by rw [he]; simp) (fun x hx => hq x (List.mem_cons_of_mem _ hx))
    have q := hq h (List.mem_cons_self ..)
    have i1 : imps[pre.length]? = some h.x1 := by rw [he]; simp [HV.i]
    have i2 : imps[pre.length + 1]? = some h.x2 := by rw [he]; simp [HV.i]
    have i3 : imps[pre.length + 2]? = some h.x3 := by rw [he]; simp [HV.i]
    obtain ⟨a1, c1, r1, l1⟩ := q.g1.rel2 (r := renOf imps) (b := pre.length) (by unfold renOf; rw [i1]; rfl)
    obtain ⟨a2, c2, r2, l2⟩ := q.g2.rel2 (r := renOf imps) (b := pre.length + 1) (by unfold renOf; rw [i2]; rfl)
    obtain ⟨a3, c3, r3, l3⟩ := q.g3.rel2 (r := renOf imps) (b := pre.length + 2) (by unfold renOf; rw [i3]; rfl)
    refine ⟨⟨a1, h.bs.length, c1, a2, h.cs.length, c2, a3, h.ts.length, c3, h.bs, h.cs, h.ts⟩ :: hs, by simp [e1], ?_, fun H hH x hx => ?_⟩
    · show LR (renOf imps) (.slice a1 h.bs.length c1 :: .slice a2 h.cs.length c2 :: .slice a3 h.ts.length c3 :: hrc hs) (h.s1 :: h.s2 :: h.s3 :: L.flatMap HV.f)
      exact .cons r1 (.cons r2 (.cons r3 e2))
    · simp only [List.mem_cons] at hx
      rcases hx with rfl | hx
      · obtain ⟨b1, d1⟩ := hH _ _ i1
        obtain ⟨b2, d2⟩ := hH _ _ i2
        obtain ⟨b3, d3⟩ := hH _ _ i3
        exact ⟨l1 H b1 d1, l2 H b2 d2, l3 H b3 d3, rfl, rfl, rfl⟩
      · exact e3 H hH x hx
/-- A list of hours, as it is given. -/
structure HL (w : World) (v : Value) (L : List HV) : Prop where
  q : ∀ h ∈ L, h.Q w
  v : ((v = .slice none 0 0 ∨ ∃ a', v = .slice (some a') 0 0) ∧ L = []) ∨ ∃ blk off cap, v = .slice (some ⟨blk, off, none⟩) L.length cap ∧ L.length ≤ cap ∧ ∀ (i : Nat) u, (L.flatMap HV.f)[i]? = some u → w.cell? ⟨blk, off + i, none⟩ = some u
/-- All of a call's arguments, where one is a list of hours: what is given plain, and the hours. -/
theorem imports_hours {P : Program} (pre : List Imp) {w : World} {lv : Value} {L : List HV} (hl : HL w lv L) (h : ∀ x ∈ pre, ∀ (i : Nat) v, x.cs[i]? = some v → w.cell? ⟨x.blk, x.off + i, none⟩ = some v ∧ flat1 v = true) :
    ∃ (r : Ren) (H : Hp) (la : Option Addr) (lcap : Nat) (hs : List Hr), Rel P r w.heap.size H w ∧ (∀ b loc, r b = some loc → b < H.next) ∧ pre.length < H.next ∧ (∀ (b : Nat) x, pre[b]? = some x → r b = some ⟨x.blk, x.off, none⟩ ∧ cellsOf H b = some x.cs) ∧
      VR r (.slice la L.length lcap) lv ∧ Sl H la L.length lcap (hrc hs) ∧ hs.length = L.length ∧ ∀ h ∈ hs, h.At H := by
  obtain ⟨hs, e1, e2, e3⟩ := hours_abs (w := w) (imps := pre ++ L.flatMap HV.i) L pre rfl hl.q
  have himp : ∀ x ∈ pre ++ L.flatMap HV.i, ∀ (i : Nat) v, x.cs[i]? = some v → w.cell? ⟨x.blk, x.off + i, none⟩ = some v ∧ flat1 v = true := by
    intro x hx
    simp only [List.mem_append, List.mem_flatMap] at hx
    rcases hx with hx | ⟨y, hy, hx⟩
    · exact h x hx
    · have q := hl.q y hy
      simp only [HV.i, List.mem_cons, List.not_mem_nil, or_false] at hx
      rcases hx with rfl | rfl | rfl
      · exact q.g1.ok
      · exact q.g2.ok
      · exact q.g3.ok
  rcases hl.v with ⟨hv, rfl⟩ | ⟨blk, off, cap, rfl, hcap, hcells⟩
  · obtain ⟨r, H, h1, h2, h3, h4, h5, h6, h7⟩ := imports2 (P := P) (pre ++ [].flatMap HV.i) w himp 0 0 [] (fun i v e => by simp at e)
    have hpl : pre.length < H.next := by rw [h2]; simp
    have hAt : ∀ x ∈ hs, x.At H := e3 H (fun b x hx => ⟨by rw [h2]; have := get_lt hx; omega, (h5 b x hx).2⟩)
    have hs0 : hs = [] := List.eq_nil_of_length_eq_zero e1
    subst hs0
    rcases hv with rfl | ⟨a', rfl⟩
    · exact ⟨r, H, none, 0, [], h1, h3, hpl, fun b x hx => h5 b x (by simpa using hx), .nilSlice, .inl ⟨.inl rfl, rfl, rfl, rfl⟩, rfl, hAt⟩
    · exact ⟨r, H, some ⟨0, 0, some 0⟩, 0, [], h1, h3, hpl, fun b x hx => h5 b x (by simpa using hx), .weird, .inl ⟨.inr rfl, rfl, rfl, rfl⟩, rfl, hAt⟩
  · obtain ⟨r, H, h1, h2, h3, h4, h5, h6, h7⟩ := imports2 (P := P) (pre ++ L.flatMap HV.i) w himp blk off (hrc hs) (fun i v e => by
      have hlt := get_lt e
      have hlt2 : i < (L.flatMap HV.f).length := by rw [← e2.1]; exact hlt
      have hu := List.getElem?_eq_getElem hlt2
      exact ⟨_, hcells i _ hu, e2.2 i v _ e hu⟩)
    have hpl : pre.length < H.next := by rw [h2]; simp; omega
    have hAt : ∀ x ∈ hs, x.At H := e3 H (fun b x hx => ⟨by rw [h2]; have := get_lt hx; omega, (h5 b x hx).2⟩)
    refine ⟨r, H, some ⟨(pre ++ L.flatMap HV.i).length, 0, none⟩, cap, hs, h1, h3, hpl, fun b x hx => h5 b x (by
      have := get_lt hx
      rw [List.getElem?_append_left this]; exact hx), ?_, .inr ⟨_, rfl, ⟨by rw [h2]; omega, h7⟩, hcap⟩, e1, hAt⟩
    have := VR.slice (o := 0) (n := L.length) (c := cap) h6 rfl hcap
    simpa using this
end Go.Ax

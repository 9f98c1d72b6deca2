import Derived.Test.YtfdapdcfnognfaaAxW4
import Derived.Test.YtfdapdcfnognfaaChecked
import Derived.Test.YtfdapdcfnognfaaXb
set_option linter.all false
namespace Go.Ax
open Go Go.RowKit Go.Proofs
theorem N24 : Try.f24.ntmps = 19 := by kernel_rfl
theorem Z24 : Try.f24.results.toList = ((List.toArray [(.tmp 4)]) : Array ResultVar).toList := by kernel_rfl
theorem B24 : Try.f24.body = some (at_ Try.f24 []) := by kernel_rfl
noncomputable def R24 : RC := (.seq (.reg [⟨(some 4), none, (.mov (.const (.bool false)))⟩])
  (.seq (.reg [⟨(some 5), none, (.mov (.tmp 0))⟩, ⟨(some 6), none, (.len (.tmp 5))⟩, ⟨(some 7), none, (.mov (.tmp 1))⟩, ⟨(some 8), none, (.cmpb .gtr (.tmp 6) (.tmp 7))⟩, ⟨(some 9), none, (.mov (.tmp 8))⟩, ⟨(some 10), (some (9, true)), (.mov (.tmp 0))⟩, ⟨(some 11), (some (9, true)), (.len (.tmp 10))⟩, ⟨(some 12), (some (9, true)), (.cmpb .leq (.tmp 11) (.const (.int .i64 200)))⟩, ⟨(some 13), none, (.pur ⟨(some 13), (.pick (.tmp 9) (.tmp 12) (.const (.bool false))), 4, "", (List.toArray []), none⟩)⟩, ⟨(some 14), none, (.mov (.tmp 13))⟩, ⟨(some 15), (some (14, false)), (.mov (.tmp 0))⟩, ⟨(some 16), (some (14, false)), (.len (.tmp 15))⟩, ⟨(some 17), (some (14, false)), (.cmpb .gtr (.tmp 16) (.const (.int .i64 205)))⟩, ⟨(some 18), none, (.pur ⟨(some 18), (.pick (.tmp 14) (.const (.bool true)) (.tmp 17)), 4, "", (List.toArray []), none⟩)⟩, ⟨(some 4), none, (.mov (.tmp 18))⟩])
  .ret))
theorem L24 : low Try.prog Try.f24.ntmps (at_ Try.f24 []) = some R24 := by kernel_rfl
end Go.Ax
namespace Go.Ax
open Go Go.RowKit Go.Proofs
theorem putRow_mid : ∀ (z vs pre post : List Value), z.length = vs.length → putRow (pre ++ (z ++ post)) pre.length vs = pre ++ (vs ++ post)
  | [], [], pre, post, _ => by simp [putRow]
  | [], _ :: _, _, _, h => by simp at h
  | _ :: _, [], _, _, h => by simp at h
  | a :: z, v :: vs, pre, post, h => by
    have ih := putRow_mid z vs (pre ++ [v]) post (by simpa using h)
    simp only [List.length_append, List.length_cons, List.length_nil, List.append_assoc, List.cons_append, List.nil_append] at ih
    rw [putRow]
    simp only [List.cons_append, List.set_append_right _ _ (Nat.le_refl _), Nat.sub_self, List.set_cons_zero]
    exact ih
/-- One of the records, whole. -/
theorem flat_put {α : Type} {f : α → List Value} {size : Nat} {l : List α} (hf : ∀ x, (f x).length = size) {i : Nat} (h : i < l.length) (y : α) : putRow (l.flatMap f) (0 + i * size) (f y) = (l.set i y).flatMap f := by
  have e : l = l.take i ++ l[i] :: l.drop (i + 1) := by
    rw [← List.drop_eq_getElem_cons h]; exact (List.take_append_drop i l).symm
  have e2 : l.set i y = l.take i ++ y :: l.drop (i + 1) := by
    rw [List.set_eq_take_append_cons_drop, if_pos h]
  have hl : ((l.take i).flatMap f).length = 0 + i * size := by
    rw [flat_len (fun x _ => hf x), List.length_take]
    rw [Nat.min_eq_left (by omega)]; omega
  rw [e2]
  conv => lhs; rw [e]
  rw [List.flatMap_append, List.flatMap_append, List.flatMap_cons, List.flatMap_cons, ← hl]
  exact putRow_mid _ _ _ _ (by rw [hf, hf])
theorem zeros_flat {α : Type} {f : α → List Value} {z : α} (n : Nat) : zeros (f z) n = (List.replicate n z).flatMap f := by
  induction n with
  | zero => rfl
  | succ n ih => simp only [zeros, ih, List.replicate_succ, List.flatMap_cons]
section
variable {P : Program} {kn : FuncId → Option Bool} {lo : Nat}
theorem heap_makeZ {n : Nat} {S : Rg} {H : Hp} {d : Option Tmp} {t e ty : TypeId} {x y : Operand} {p : String} {i : TypeInfo} {m size : Nat} {z : Value} (he : sliceElem P t = some (e, size)) (hz : zeroOf P e = some z) (hi : P.info? e = some i) (hb : i.bytes ≤ 1000)
    (hx : evS S x = some (.int .i64 (m : Int))) (hy : evS S y = some (.int .i64 (m : Int))) (hm : m ≤ 1048576) :
    heapOp P lo (frS n S) H ⟨d, .makeSlice t x y, ty, p, #[], none⟩ = some (.val (.slice (some ⟨H.next, 0, none⟩) m m) (H.new (.cells (zeros z.cells.toList m) e false)), .heavy) := by
  have h1 : Nat.ble (i.bytes * m) 1099511627776 = true := Nat.ble_eq_true_of_le (Nat.le_trans (Nat.mul_le_mul hb hm) (by decide))
  unfold heapOp
  simp only [ev_frS, hx, hy, he, hz, hi, show ((m : Nat) : Int) = Int.ofNat m from rfl, Nat.ble_eq_true_of_le (Nat.le_refl m), h1, Nat.ble_eq_true_of_le hm, Bool.and_true, cond_true]
end
theorem se26 : sliceElem Try.prog 26 = some (35, 2) := by kernel_rfl
theorem z35 : zeroOf Try.prog 35 = some (.agg #[.int .i64 0, .int .i64 0]) := by kernel_rfl
theorem i35 : ∃ i, Try.prog.info? 35 = some i ∧ i.bytes ≤ 1000 := by
  have h : (Try.prog.info? 35).map (fun i => i.bytes) = some 16 := by kernel_rfl
  cases e : Try.prog.info? 35 with
  | none => rw [e] at h; cases h
  | some i => rw [e] at h; simp at h; exact ⟨i, rfl, by omega⟩

theorem pure_span {lo n : Nat} {S : Rg} {d : Option Tmp} {x y : Operand} {p : String} {a b : Int} (hx : evS S x = some (iv a)) (hy : evS S y = some (iv b)) :
    pureOp Try.prog (frS n S) ⟨d, .build 35 #[(0, x), (1, y)], 35, p, #[], none⟩ = some (.agg #[iv a, iv b]) := by
  have hu : ∃ fs, Try.prog.underlying 35 = some (.struct fs) ∧ placesOf Try.prog fs.toList = some [(0, 1), (1, 1)] := by
    have h : (match Try.prog.underlying 35 with | some (.struct fs) => placesOf Try.prog fs.toList | _ => none) = some [(0, 1), (1, 1)] := by kernel_rfl
    split at h
    · rename_i fs e; exact ⟨fs, e, h⟩
    · cases h
  obtain ⟨fs, h1, h2⟩ := hu
  unfold pureOp
  simp only [partsOf, ev_frS, hx, hy, z35, h1, h2]
  rfl
theorem z37 : zeroOf Try.prog 37 = some (.agg #[.int .i64 0, .int .i64 0, .int .i64 0, .int .i64 0, .int .i64 0, .int .i64 0, .int .i64 0, .int .i64 0]) := by kernel_rfl
theorem pure_flows {n : Nat} {S : Rg} {d : Option Tmp} {x y z u : Operand} {p : String} {a1 b1 a2 b2 a3 b3 a4 b4 : Int} (hx : evS S x = some (.agg #[iv a1, iv b1])) (hy : evS S y = some (.agg #[iv a2, iv b2])) (hz : evS S z = some (.agg #[iv a3, iv b3])) (hu : evS S u = some (.agg #[iv a4, iv b4])) :
    pureOp Try.prog (frS n S) ⟨d, .build 37 #[(0, x), (1, y), (2, z), (3, u)], 37, p, #[], none⟩ = some (.agg #[iv a1, iv b1, iv a2, iv b2, iv a3, iv b3, iv a4, iv b4]) := by
  have hu : ∃ fs, Try.prog.underlying 37 = some (.struct fs) ∧ placesOf Try.prog fs.toList = some [(0, 2), (2, 2), (4, 2), (6, 2)] := by
    have h : (match Try.prog.underlying 37 with | some (.struct fs) => placesOf Try.prog fs.toList | _ => none) = some [(0, 2), (2, 2), (4, 2), (6, 2)] := by kernel_rfl
    split at h
    · rename_i fs e; exact ⟨fs, e, h⟩
    · cases h
  obtain ⟨fs, h1, h2⟩ := hu
  unfold pureOp
  simp only [partsOf, ev_frS, hx, hy, hz, *, z37, h1, h2]
  rfl

end Go.Ax
namespace Go.Ax
open Go Go.RowKit Go.Proofs
section
variable {P : Program} {kn : FuncId → Option Bool} {lo n : Nat} {rd : Bool} {masks : List Nat} {r : List RO} {ks : List Kd} {S : Rg} {H : Hp} {K : Rg → Hp → Prop} {d : Option Nat} {x y : Operand}
theorem wD_seq {ops : List RO} {c : RC} {K : Exit → Rg → Hp → Prop} (h : wDraw P kn lo n masks ops [] S H fun S' H' => wC P kn lo n rd c S' H' K) : wC P kn lo n rd (.seq (.dreg ops masks) c) S H K := h
theorem wD_mov {v : Value} (hx : evS S x = some v) (h : wDraw P kn lo n masks r (.pure :: ks) (putS S d v) H K) : wDraw P kn lo n masks (⟨d, none, .mov x⟩ :: r) ks S H K := by
  show match evS S x with | some v => wDraw P kn lo n masks r (.pure :: ks) (putS S d v) H K | none => False
  rw [hx]; exact h
theorem wD_nilc {a : Addr} (hx : evS S x = some (.pointer (some a))) (h : wDraw P kn lo n masks r (.pure :: ks) (putS S d (.pointer (some a))) H K) : wDraw P kn lo n masks (⟨d, none, .nilc x⟩ :: r) ks S H K := by
  simp only [wDraw, wRO, wRI, hx]; exact h
theorem wD_addo {b o off : Nat} (hx : evS S x = some (.pointer (some ⟨b, o, none⟩))) (h : wDraw P kn lo n masks r (.pure :: ks) (putS S d (.pointer (some ⟨b, o + off, none⟩))) H K) : wDraw P kn lo n masks (⟨d, none, .addo x off⟩ :: r) ks S H K := by
  simp only [wDraw, wRO, wRI, hx]; exact h
theorem wD_ld {b o m : Nat} {cs : List Value} {v : Value} (hx : evS S x = some (.pointer (some ⟨b, o, none⟩))) (hc : Rd H b cs) (hv : cs[o]? = some v) (h : wDraw P kn lo n masks r (.read b :: ks) (putS S d v) H K) : wDraw P kn lo n masks (⟨d, none, .ld x m⟩ :: r) ks S H K := by
  simp only [wDraw, wRO, wRI, hx]; exact ⟨cs, v, hc.of, hv, hc.lt, h⟩
theorem wD_pur {o : Oper} {v : Value} (hd : defd S o.op.operands.toList = true) (hv : pureOp P (frS n S) o = some v) (h : wDraw P kn lo n masks r (.pure :: ks) (putS S d v) H K) : wDraw P kn lo n masks (⟨d, none, .pur o⟩ :: r) ks S H K := ⟨hd, v, hv, h⟩
theorem wD_sta {b o m : Nat} {cs : List Value} {v : Value} (hx : evS S x = some (.pointer (some ⟨b, o, none⟩))) (hy : evS S y = some v) (hc : Cl H b cs) (hl : lo ≤ b) (hm : v.cells.toList.length = m) (h1 : v.cells.toList.all one = true) (ho : o + m ≤ cs.length)
    (h : ∀ H1, Keep H H1 [b] → H1.next = H.next → Cl H1 b (putRow cs o v.cells.toList) → wDraw P kn lo n masks r (.store b :: ks) (putS S d undef) H1 K) : wDraw P kn lo n masks (⟨d, none, .sta x y m⟩ :: r) ks S H K := by
  simp only [wDraw, wRO, wRI, hx, hy]
  obtain ⟨_, e, l, g⟩ := id hc
  exact ⟨cs, e, l, g, hl, hm, h1, ho, fun H1 hH1 => by obtain ⟨a, b, c⟩ := up_facts hc hH1; exact h H1 a b c⟩
theorem wD_end (hp : (bif ks.all calm then True else pairsP ks masks)) (h : K S H) : wDraw P kn lo n masks [] ks S H K := ⟨hp, h⟩
end
theorem below_full (k : Kd) : ∀ (l : List Kd) (m : Nat), m = 2 ^ l.length - 1 → belowP k m l
  | [], _, _ => trivial
  | c :: cs, m, h => by
    have h2 : 2 ^ (cs.length + 1) = 2 * 2 ^ cs.length := by rw [Nat.pow_succ]; omega
    have h1 : 0 < 2 ^ cs.length := Nat.pos_of_ne_zero (by simp)
    simp only [List.length_cons, h2] at h
    refine ⟨?_, below_full k cs (m / 2) (by omega)⟩
    have : Nat.beq (Nat.mod m 2) 1 = true := by
      rw [beq_eq]; show decide (m % 2 = 1) = true; simp; omega
    rw [this]; trivial
theorem below_calm {k : Kd} (hk : calm k = true) : ∀ (l : List Kd) (m : Nat), l.all calm = true → belowP k m l
  | [], _, _ => trivial
  | c :: cs, m, h => by
    simp only [List.all_cons, Bool.and_eq_true] at h
    refine ⟨?_, below_calm hk cs _ h.2⟩
    cases Nat.beq (Nat.mod m 2) 1
    · show ¬ clashP k c
      cases k <;> cases c <;> simp_all [calm, clashP]
    · trivial
theorem pairs_calm : ∀ (ks : List Kd) (ms : List Nat), ks.all calm = true → pairsP ks ms
  | [], _, _ => trivial
  | _ :: _, [], _ => trivial
  | k :: ks, m :: ms, h => by
    simp only [List.all_cons, Bool.and_eq_true] at h
    exact ⟨below_calm h.1 _ _ (by simpa using h.2), pairs_calm ks ms h.2⟩
theorem end_store {b m : Nat} {rest : List Kd} {ms : List Nat} (hc : rest.all calm = true) (hm : m = 2 ^ rest.length - 1) : (bif (Kd.store b :: rest).all calm then True else pairsP (.store b :: rest) (m :: ms)) := by
  have : (Kd.store b :: rest).all calm = false := rfl
  rw [this]
  exact ⟨below_full _ _ _ (by simpa using hm), pairs_calm _ _ hc⟩
/-- The flows between two courses. -/
def flowsV (s t : St) : List Value := [iv s.came, iv t.came, iv s.seeped, iv t.seeped, iv s.river, iv t.river, iv s.taken, iv t.taken]
section
variable {kn : FuncId → Option Bool} {lo : Nat} {H : Hp} {C1 C2 : Co}
theorem ag37 : isAggB Try.prog 37 = some true := by kernel_rfl
theorem flows_w {k1 k2 : Nat} {K : Exit → Rg → Hp → Prop} (h1 : Cl H k1 C1.cells) (h2 : Cl H k2 C2.cells) (hlo : lo ≤ H.next)
    (hK : ∀ S' H2, lk S' 4 = some (pt H.next) → Keep H H2 [] → Cl H2 H.next [iv C1.came, iv C2.came, iv C1.seeped, iv C2.seeped, iv C1.river, iv C2.river, iv C1.taken, iv C2.taken] → K .ret S' H2) : wC Try.prog kn lo 42 false R48 (argS [pt k1, pt k2] 0) H K := by
  intro H1 hH1
  obtain ⟨kk1, n1, c1⟩ := new_facts hH1
  have a1 := kk1.cl h1 (by simp)
  have a2 := kk1.cl h2 (by simp)
  refine wD_seq ?_
  refine wD_mov (v := pt k1) rfl ?_
  refine wD_nilc (a := ⟨k1, 0, none⟩) rfl ?_
  refine wD_addo (b := k1) (o := 0) rfl ?_
  refine wD_ld (b := k1) (v := iv C1.came) rfl a1.rd rfl ?_
  refine wD_mov (v := pt k2) rfl ?_
  refine wD_nilc (a := ⟨k2, 0, none⟩) rfl ?_
  refine wD_addo (b := k2) (o := 0) rfl ?_
  refine wD_ld (b := k2) (v := iv C2.came) rfl a2.rd rfl ?_
  refine wD_pur (v := .agg #[iv C1.came, iv C2.came]) rfl (pure_span (lo := lo) rfl rfl) ?_
  refine wD_mov (v := pt k1) rfl ?_
  refine wD_nilc (a := ⟨k1, 0, none⟩) rfl ?_
  refine wD_addo (b := k1) (o := 0) rfl ?_
  refine wD_ld (b := k1) (v := iv C1.seeped) rfl a1.rd rfl ?_
  refine wD_mov (v := pt k2) rfl ?_
  refine wD_nilc (a := ⟨k2, 0, none⟩) rfl ?_
  refine wD_addo (b := k2) (o := 0) rfl ?_
  refine wD_ld (b := k2) (v := iv C2.seeped) rfl a2.rd rfl ?_
  refine wD_pur (v := .agg #[iv C1.seeped, iv C2.seeped]) rfl (pure_span (lo := lo) rfl rfl) ?_
  refine wD_mov (v := pt k1) rfl ?_
  refine wD_nilc (a := ⟨k1, 0, none⟩) rfl ?_
  refine wD_addo (b := k1) (o := 0) rfl ?_
  refine wD_ld (b := k1) (v := iv C1.river) rfl a1.rd rfl ?_
  refine wD_mov (v := pt k2) rfl ?_
  refine wD_nilc (a := ⟨k2, 0, none⟩) rfl ?_
  refine wD_addo (b := k2) (o := 0) rfl ?_
  refine wD_ld (b := k2) (v := iv C2.river) rfl a2.rd rfl ?_
  refine wD_pur (v := .agg #[iv C1.river, iv C2.river]) rfl (pure_span (lo := lo) rfl rfl) ?_
  refine wD_mov (v := pt k1) rfl ?_
  refine wD_nilc (a := ⟨k1, 0, none⟩) rfl ?_
  refine wD_addo (b := k1) (o := 0) rfl ?_
  refine wD_ld (b := k1) (v := iv C1.taken) rfl a1.rd rfl ?_
  refine wD_mov (v := pt k2) rfl ?_
  refine wD_nilc (a := ⟨k2, 0, none⟩) rfl ?_
  refine wD_addo (b := k2) (o := 0) rfl ?_
  refine wD_ld (b := k2) (v := iv C2.taken) rfl a2.rd rfl ?_
  refine wD_pur (v := .agg #[iv C1.taken, iv C2.taken]) rfl (pure_span (lo := lo) rfl rfl) ?_
  refine wD_pur (v := .agg (List.toArray [iv C1.came, iv C2.came, iv C1.seeped, iv C2.seeped, iv C1.river, iv C2.river, iv C1.taken, iv C2.taken])) rfl (pure_flows rfl rfl rfl rfl) ?_
  refine wD_sta (b := H.next) (o := 0) rfl rfl c1 hlo rfl rfl (by simp) ?_
  intro H2 kk2 n2 c2
  have c2 : Cl H2 H.next [iv C1.came, iv C2.came, iv C1.seeped, iv C2.seeped, iv C1.river, iv C2.river, iv C1.taken, iv C2.taken] := c2
  have n1' : k1 ≠ H.next := by have := h1.lt; omega
  have n2' : k2 ≠ H.next := by have := h2.lt; omega
  refine wD_end (end_store (by rfl) (by simp only [List.length_cons, List.length_nil, Nat.reduceAdd, Nat.reducePow, Nat.reduceSub])) ?_
  exact hK _ _ rfl (kk1.new kk2 (by simp)) c2
theorem load_all {t : TypeId} {i : TypeInfo} (ht : isAggB Try.prog t = some true) (hi : Try.prog.info? t = some i) {H : Hp} {b : Nat} {cs : List Value} (hs : i.size = cs.length) (h : Rd H b cs) : loadV Try.prog H t ⟨b, 0, none⟩ = some (.agg cs.toArray) := by
  unfold loadV
  simp only [h.of, ht, hi]
  have : row i.size cs 0 = some cs := by rw [hs]; simp [row, beq_eq]
  rw [this]
theorem i37 : ∃ i, Try.prog.info? 37 = some i ∧ i.size = 8 := by
  have h : (Try.prog.info? 37).map (fun i => i.size) = some 8 := by kernel_rfl
  cases e : Try.prog.info? 37 with
  | none => rw [e] at h; cases h
  | some i => rw [e] at h; simp at h; exact ⟨i, rfl, h⟩
theorem flows_ok {k1 k2 : Nat} (h1 : Cl H k1 C1.cells) (h2 : Cl H k2 C2.cells) (hlo : lo ≤ H.next) :
    ∃ H', FnX Try.prog kn lo 48 [pt k1, pt k2] H (.agg (List.toArray [iv C1.came, iv C2.came, iv C1.seeped, iv C2.seeped, iv C1.river, iv C2.river, iv C1.taken, iv C2.taken])) H' ∧ Keep H H' [] := by
  have key := fnX_low (kn := kn) (lo := lo) (H := H) (args := [pt k1, pt k2]) (Q := fun v H' => v = .agg (List.toArray [iv C1.came, iv C2.came, iv C1.seeped, iv C2.seeped, iv C1.river, iv C2.river, iv C1.taken, iv C2.taken]) ∧ Keep H H' []) Try.func48 B48 N48 Z48 L48 (by simp) ?_
  · obtain ⟨v, H', h, rfl, q⟩ := key; exact ⟨H', h, q⟩
  refine flows_w h1 h2 hlo ?_
  intro S' H2 hl k c
  obtain ⟨i, hi, hs⟩ := i37
  have hr := load_all ag37 hi (cs := [iv C1.came, iv C2.came, iv C1.seeped, iv C2.seeped, iv C1.river, iv C2.river, iv C1.taken, iv C2.taken]) hs c.rd
  refine And.intro trivial ⟨[.agg (List.toArray [iv C1.came, iv C2.came, iv C1.seeped, iv C2.seeped, iv C1.river, iv C2.river, iv C1.taken, iv C2.taken])], ?_, rfl, k⟩
  simp only [resS, hl, hr]
end
end Go.Ax
namespace Go.Ax
open Go Go.RowKit Go.Proofs
theorem fill_put {α : Type} {l : List α} {z : α} {i : Nat} {x : α} (h : l[i]? = some x) : (l.take i ++ List.replicate (l.length - i) z).set i x = l.take (i + 1) ++ List.replicate (l.length - (i + 1)) z := by
  have hi : i < l.length := get_lt h
  have hx : l[i] = x := by rw [List.getElem?_eq_getElem hi] at h; exact Option.some.inj h
  have e1 : (l.take i).length = i := by simp; omega
  rw [List.set_append_right _ _ (by omega), e1, Nat.sub_self, show l.length - i = (l.length - (i + 1)) + 1 by omega, List.replicate_succ, List.set_cons_zero, List.take_succ_eq_append_getElem hi, hx]
  simp

section
variable {kn : FuncId → Option Bool} {lo : Nat} {H : Hp} {C1 C2 : Co}
theorem between_ok {k1 k2 : Nat} {u w : List Int} (h1 : Cl H k1 C1.cells) (h2 : Cl H k2 C2.cells) (hu : Cl H C1.wb (ints u)) (hw : Cl H C2.wb (ints w)) (hn1 : C1.n = u.length) (hn2 : C2.n = u.length) (hl : w.length = u.length) (hb : u.length ≤ 1000) (hlo : lo ≤ H.next) :
    ∃ b H', FnX Try.prog kn lo 46 [pt k1, pt k2] H (slv b u.length u.length) H' ∧ Keep H H' [] ∧ H.next ≤ b ∧ Cl H' b (spc (u.zip w)) := by
  have key := fnX_low (kn := kn) (lo := lo) (H := H) (args := [pt k1, pt k2]) (Q := fun v H' => ∃ b, v = slv b u.length u.length ∧ Keep H H' [] ∧ H.next ≤ b ∧ Cl H' b (spc (u.zip w))) Try.func46 B46 N46 Z46 L46 (by simp) ?_
  · obtain ⟨v, H', h, b, rfl, q⟩ := key; exact ⟨b, H', h, q⟩
  obtain ⟨i0, hi0, hby⟩ := i35
  refine Exists.intro _ (Exists.intro _ (And.intro h1.of (And.intro rfl ?_)))
  obtain ⟨H1, hH1⟩ : ∃ H1, H.new (.cells (spc (List.replicate u.length (0, 0))) 35 false) = H1 := ⟨_, rfl⟩
  refine And.intro rfl (Or.inr (And.intro (by kernel_rfl) (Exists.intro _ (Exists.intro H1 (Exists.intro _ (And.intro ((heap_makeZ (m := u.length) se26 z35 hi0 hby (by show some (iv (C1.n : Int)) = _; rw [hn1]) (by show some (iv (C1.n : Int)) = _; rw [hn1]) (by omega)).trans (by rw [← hH1]; show some (Rs.val _ (H.new (.cells (zeros ((fun s : Int × Int => [iv s.1, iv s.2]) (0, 0)) u.length) 35 false)), Kd.heavy) = _; rw [zeros_flat (f := fun s : Int × Int => [iv s.1, iv s.2])]; rfl)) (And.intro (fun b e => by cases e) ?_)))))))
  obtain ⟨kk1, n1, c1⟩ := new_facts hH1
  have a1 := kk1.cl h1 (by simp)
  refine Exists.intro _ (Exists.intro _ (And.intro a1.of (And.intro rfl ?_)))
  refine loop_low (fn := Try.f46) E46_1 N46 L46x1 (fun i : Nat => [(1, pt k2), (5, slv H.next u.length u.length), (17, .slice (some ⟨C1.wb, 0, none⟩) C1.n C1.cap), (18, iv C1.n), (19, iv i)])
    (fun k i H' => i + k = u.length ∧ Keep H H' [] ∧ Cl H' H.next (spc ((u.zip w).take i ++ List.replicate ((u.zip w).length - i) (0, 0)))) u.length 0 ⟨by omega, kk1, by simpa [hl] using c1⟩ ⟨rfl, rfl, rfl, rfl, rfl, trivial⟩ ?_
  have hzl : (u.zip w).length = u.length := by simp [hl]
  rintro k i H' ⟨hik, hk, hc⟩
  refine And.intro (fun hlt => ?_) (fun hge => ?_)
  · have hi : i < u.length := by
      have : (i : Int) < (C1.n : Int) := by simpa using hlt
      omega
    obtain ⟨x, hx⟩ := get_some (l := u) (i := i) hi
    obtain ⟨y, hy⟩ := get_some (l := w) (i := i) (by omega)
    have hz := zip2_get hx hy
    have e0 : ∀ {l : List Int} {z : Int}, l[i]? = some z → (ints l)[0 + i * 1]? = some (iv z) := fun h => by
      rw [Nat.zero_add, Nat.mul_one]; simp [ints, h]
    refine Exists.intro i (And.intro rfl (And.intro (by omega) ?_))
    refine Exists.intro _ (Exists.intro _ (And.intro (hk.cl hu (by simp)).of (And.intro (e0 hx) ?_)))
    refine Exists.intro _ (Exists.intro _ (And.intro (hk.cl h2 (by simp)).of (And.intro rfl ?_)))
    refine Exists.intro i (And.intro rfl (And.intro (by omega) ?_))
    refine Exists.intro _ (Exists.intro _ (And.intro (hk.cl hw (by simp)).of (And.intro (e0 hy) ?_)))
    refine And.intro rfl (Exists.intro (.agg #[iv x, iv y]) (And.intro (pure_span (lo := lo) rfl rfl) ?_))
    refine Exists.intro i (And.intro rfl (And.intro hi ?_))
    obtain ⟨_, e2, l2, g2⟩ := id hc
    have hlen : (spc ((u.zip w).take i ++ List.replicate ((u.zip w).length - i) (0, 0))).length = u.length * 2 := by
      unfold spc
      rw [flat_len (size := 2) (fun _ _ => rfl)]
      simp [hl]; omega
    have hkn := hk.1
    refine Exists.intro _ (Exists.intro _ (Exists.intro _ (And.intro g2 (And.intro hlo (And.intro rfl (And.intro rfl (And.intro (by rw [hlen]; omega) ?_)))))))
    intro H2 hH2
    have hput : putRow (spc ((u.zip w).take i ++ List.replicate ((u.zip w).length - i) (0, 0))) (0 + i * 2) [iv x, iv y] = spc ((u.zip w).take (i + 1) ++ List.replicate ((u.zip w).length - (i + 1)) (0, 0)) := by
      rw [← fill_put hz]
      exact flat_put (f := fun s : Int × Int => [iv s.1, iv s.2]) (size := 2) (fun _ => rfl) (by simp [hl]; omega) (x, y)
    obtain ⟨k2', n2, c2⟩ := up_facts hc hH2
    have c2 : Cl H2 H.next (putRow (spc ((u.zip w).take i ++ List.replicate ((u.zip w).length - i) (0, 0))) (0 + i * 2) [iv x, iv y]) := c2
    rw [hput] at c2
    refine And.intro ⟨by omega, by omega⟩ ?_
    exact ⟨k - 1, i + 1, by omega, ⟨by omega, hk.new k2' (by simp), c2⟩, rfl, rfl, rfl, rfl, rfl, trivial⟩
  · have hi : ¬ i < u.length := by
      have : ¬ (i : Int) < (C1.n : Int) := by simpa using hge
      omega
    have e : i = u.length := by omega
    subst e
    rw [hzl, Nat.sub_self, List.take_of_length_le (by omega)] at hc
    exact And.intro trivial (Exists.intro _ (And.intro rfl ⟨H.next, rfl, hk, Nat.le_refl _, by simpa using hc⟩))
end
end Go.Ax
namespace Go.Ax
open Go Go.RowKit Go.Proofs
/-- The hours, one by one, of the course of the least or of the greatest. -/
def foG (g : Bool) (c : Ch) (hs : List Hr) (i : Nat) : List Gt × St := (hs.take i).foldl (fun x h => (boardsF h x.1, hourF c g h x.1 x.2)) (c.gs, s0 g c)
theorem Crs.lower {c : Ch} {g : Bool} {L L' : Nat} {p : Wh} {H : Hp} {gs : List Gt} {s : St} (h : Crs c g L' p H gs s) (k : L ≤ L') (hp : ∀ b, c.pa = some ⟨b, 0, none⟩ → b < L) : Crs c g L p H gs s :=
  ⟨h.hc, h.hw, h.hg.mono k, h.hp, h.lg, h.lws, Nat.le_trans k h.lk, Nat.le_trans k h.lw, h.ne, h.gc, h.gw, hp⟩

/-- Where the things of runBoth lie. -/
structure BW where
  b1 : Nat
  b2 : Nat
  b6 : Nat
  b7 : Nat
  r : Nat
def BW.all (x : BW) : List Nat := [x.b1, x.b2, x.b6, x.b7, x.r]
structure BQ where
  c : Ch
  la : Option Addr
  ln : Nat
  lcap : Nat
  hs : List Hr
structure BQ.Off (q : BQ) (w : List Nat) : Prop where
  p : Go.Ax.Off w q.c.pa
  l : Go.Ax.Off w q.la
  h : ∀ h ∈ q.hs, Go.Ax.Off w h.ba ∧ Go.Ax.Off w h.ca ∧ Go.Ax.Off w h.ta
structure BE (q : BQ) (x : BW) (p1 p2 : Wh) (H : Hp) : Prop where
  hrs : HrsAt x.b1 x.b2 q.la q.ln q.lcap q.hs H
  r6 : Cl H x.b6 [pt p1.k]
  r7 : Cl H x.b7 [pt p2.k]
  dfr : x.r < H.next ∧ H.t.get x.r = some (.dfr (some []))
theorem BE.keep {q : BQ} {x : BW} {p1 p2 : Wh} {H H1 : Hp} {w : List Nat} (h : BE q x p1 p2 H) (k : Keep H H1 w) (o : q.Off w) (hx : ∀ b ∈ x.all, b ∉ w) : BE q x p1 p2 H1 := by
  have m : ∀ b, b ∈ x.all → b ∉ w := hx
  refine ⟨⟨k.rd h.hrs.c1 (m _ (by simp [BW.all])), k.rd h.hrs.c2 (m _ (by simp [BW.all])), k.sl h.hrs.l o.l, h.hrs.ln, fun y hy => ?_⟩, k.cl h.r6 (m _ (by simp [BW.all])), k.cl h.r7 (m _ (by simp [BW.all])), ?_⟩
  · have a := h.hrs.h y hy
    obtain ⟨o1, o2, o3⟩ := o.h y hy
    exact ⟨k.sl a.b o1, k.sl a.c o2, k.sl a.t o3, a.lb, a.lc, a.lt⟩
  · exact ⟨Nat.lt_of_lt_of_le h.dfr.1 k.1, by rw [k.2 _ h.dfr.1 (m _ (by simp [BW.all]))]; exact h.dfr.2⟩
theorem boff_nil (q : BQ) : q.Off [] := ⟨fun _ _ => by simp, fun _ _ => by simp, fun _ _ => ⟨fun _ _ => by simp, fun _ _ => by simp, fun _ _ => by simp⟩⟩

noncomputable abbrev asg45 : Code := at_ Try.f45 [1, 1, 0, 1, 0, 0]
noncomputable abbrev body45 : Code := at_ Try.f45 [1, 1, 0, 1, 0, 1]
abbrev S45 (x : BW) : Rg := [(6, pt x.b6), (7, pt x.b7)]
structure BJ (lo : Nat) (H : Hp) (q : BQ) (L : Nat) (p1 p2 : Wh) (x : BW) (l : Nat) (i : Nat) (H' : Hp) : Prop where
  c1 : Crs q.c false L p1 H' (foG false q.c q.hs i).1 (foG false q.c q.hs i).2
  c2 : Crs q.c true L p2 H' (foG true q.c q.hs i).1 (foG true q.c q.hs i).2
  a1 : Ahead q.c.ponds (i * perHour) (foG false q.c q.hs i).2
  a2 : Ahead q.c.ponds (i * perHour) (foG true q.c q.hs i).2
  g1 : (foG false q.c q.hs i).1.all (fun g => gateB g q.c.pn) = true
  g2 : (foG true q.c q.hs i).1.all (fun g => gateB g q.c.pn) = true
  le : BE q x p1 p2 H'
  lp : Lp Try.prog H' l .ready none 32 (S45 x) [22, 23] asg45 body45 x.r
  ll : l < H'.next
  lo : lo ≤ H'.next
  kp : Keep H H' []
structure BC (lo : Nat) (H : Hp) (q : BQ) (L : Nat) (p1 p2 : Wh) (x : BW) (l : Nat) : Prop where
  vd : q.c.Vd
  ln : q.ln ≤ 200
  hl : q.hs.length = q.ln
  hv : ∀ h ∈ q.hs, hourB h q.c.pn q.c.gn = true
  HL : H.next ≤ L
  loL : lo ≤ L
  Ll : L ≤ l
  xl : ∀ b ∈ x.all, b ≠ l
  x1 : ∀ b ∈ x.all, b ∉ p1.W
  x2 : ∀ b ∈ x.all, b ∉ p2.W
  l1 : l ∉ p1.W
  l2 : l ∉ p2.W
  dj : ∀ b, b ∈ p1.W → b ∉ p2.W
  o1 : q.Off p1.W
  o2 : q.Off p2.W
  ol : q.Off [l]
section
variable {kn : FuncId → Option Bool} {lo L l : Nat} {H : Hp} {q : BQ} {p1 p2 : Wh} {x : BW}
theorem BJ.keep0 {i : Nat} {H1 H2 : Hp} (j : BJ lo H q L p1 p2 x l i H1) (k : Keep H1 H2 []) : BJ lo H q L p1 p2 x l i H2 :=
  ⟨j.c1.keep k, j.c2.keep k, j.a1, j.a2, j.g1, j.g2, j.le.keep k (boff_nil q) (fun _ _ => by simp), j.lp.keep k j.ll (by simp), Nat.lt_of_lt_of_le j.ll k.1, Nat.le_trans j.lo k.1, j.kp.trans k⟩
theorem both_round (C : BC lo H q L p1 p2 x l) {i : Nat} {h : Hr} {a : Option Addr} {cap : Nat} {H1 : Hp} (hx : q.hs[i]? = some h) (j : BJ lo H q L p1 p2 x l i H1) (ha : (h.again a cap).At H1) (hoff : ∀ b, a = some ⟨b, 0, none⟩ → ∃ H0, BJ lo H q L p1 p2 x l i H0 ∧ H0.next ≤ b) :
    ∃ t H', CallsX Try.prog kn lo (.fn (.yield l) #[]) [iv i, .agg (h.again a cap).v.toArray] H1 (.bool t) H' ∧ (t = true → BJ lo H q L p1 p2 x l (i + 1) H') ∧ (t = false → False) := by
  have hi := get_lt hx
  have hlq := C.hl
  have hln := C.ln
  have L1 : low Try.prog 32 asg45 = some R45x1 := N45 ▸ L45x1
  have L2 : low Try.prog 32 body45 = some R45x2 := N45 ▸ L45x2
  have hLl := C.Ll
  have hloL := C.loL
  refine yield_ok (S1 := (23, .agg (h.again a cap).v.toArray) :: (22, iv i) :: S45 x) (Q := fun t H' => (t = true → BJ lo H q L p1 p2 x l (i + 1) H') ∧ (t = false → False)) j.lp (by omega) (by rfl) rfl (wC_sound true _ L1 ?_)
  intro H2 hH2
  obtain ⟨k2, n2, c2⟩ := new_facts hH2
  obtain ⟨_, e2, l2, g2⟩ := id c2
  refine Exists.intro _ (Exists.intro _ (Exists.intro _ (And.intro g2 (And.intro j.lo (And.intro rfl (And.intro rfl (And.intro (by simp) ?_)))))))
  intro H3 hH3
  obtain ⟨k3, n3, c3⟩ := up_facts c2 hH3
  have c3 : Cl H3 H1.next (h.again a cap).v := c3
  have k13 : Keep H1 H3 [] := k2.new k3 (by simp)
  have j3 := j.keep0 k13
  refine And.intro trivial (And.intro j3.lp ?_)
  intro H4 s4
  have k4 := s4.keep
  have lp4 := s4.lp j3.lp
  have hn13 := k13.1
  have hn4 : H4.next = H3.next := s4.1
  have ne1l : H1.next ≠ l := by have := j.ll; omega
  have crs1 := j3.c1.keepW k4 (fun b hb => by simp at hb; subst hb; exact C.l1) C.ol.p
  have crs2 := j3.c2.keepW k4 (fun b hb => by simp at hb; subst hb; exact C.l2) C.ol.p
  have le4 : BE q x p1 p2 H4 := j3.le.keep k4 C.ol (fun b hb => by simpa using C.xl b hb)
  have c4 := k4.cl c3 (by simpa using ne1l)
  have hm := List.mem_of_getElem? hx
  have hat4 : (h.again a cap).At H4 := by
    have h0 := ha.keep k13
    obtain ⟨o1, o2, _⟩ := C.ol.h h hm
    refine ⟨k4.sl h0.b o1, k4.sl h0.c o2, k4.sl h0.t (fun b e => ?_), h0.lb, h0.lc, h0.lt⟩
    obtain ⟨H0, j0, hb⟩ := hoff b e
    have := j0.ll
    simp; omega
  refine wC_sound true _ L2 ?_
  refine Exists.intro _ (Exists.intro _ (And.intro le4.r6.of (And.intro rfl ?_)))
  refine Exists.intro _ (Exists.intro _ (And.intro c4.of (And.intro (show row 3 _ _ = some (h.again a cap).v from rfl) ?_)))
  obtain ⟨o11, o12, _⟩ := C.o1.h h hm
  obtain ⟨o21, o22, _⟩ := C.o2.h h hm
  have hoT1 : Off p1.W (h.again a cap).ta := fun b e => by
    obtain ⟨H0, j0, hb⟩ := hoff b e
    exact j0.c1.offNew hb
  have hoT2 : Off p2.W (h.again a cap).ta := fun b e => by
    obtain ⟨H0, j0, hb⟩ := hoff b e
    exact j0.c2.offNew hb
  have hlo4 : lo ≤ H4.next := by have := j.lo; omega
  have hB : (i : Int) * perHour ≤ 1152921504606846976 := by rw [perHour_eq]; omega
  have hB0 : 0 ≤ (i : Int) * perHour := by rw [perHour_eq]; omega
  obtain ⟨H5, h5, crs1', k5, a5, g5⟩ := crs_pass (kn := kn) (lo := lo) crs1 C.vd hat4 o11 o12 hoT1 (C.hv h hm) j.g1 j.a1 hB hB0 hlo4 hloL
  refine Exists.intro _ (Exists.intro _ (And.intro (callX_args h5) ?_))
  have hn5 := k5.1
  have le5 := le4.keep k5 C.o1 C.x1
  have off1 : H1.next ∉ p1.W := j.c1.offNew (Nat.le_refl _)
  have off2 : H1.next ∉ p2.W := j.c2.offNew (Nat.le_refl _)
  have c5 := k5.cl c4 off1
  have crs2' := crs2.keepW k5 C.dj C.o1.p
  have hat5 : (h.again a cap).At H5 := ⟨k5.sl hat4.b o11, k5.sl hat4.c o12, k5.sl hat4.t hoT1, hat4.lb, hat4.lc, hat4.lt⟩
  have lp5 : Lp Try.prog H5 l .busy none 32 (S45 x) [22, 23] asg45 body45 x.r := lp4.keep k5 (by have := j3.ll; omega) C.l1
  refine Exists.intro _ (Exists.intro _ (And.intro le5.r7.of (And.intro rfl ?_)))
  refine Exists.intro _ (Exists.intro _ (And.intro c5.of (And.intro (show row 3 _ _ = some (h.again a cap).v from rfl) ?_)))
  obtain ⟨H6, h6, crs2'', k6, a6, g6⟩ := crs_pass (kn := kn) (lo := lo) crs2' C.vd hat5 o21 o22 hoT2 (C.hv h hm) j.g2 j.a2 hB hB0 (by omega) hloL
  refine Exists.intro _ (Exists.intro _ (And.intro (callX_args h6) ?_))
  have hn6 := k6.1
  have le6 := le5.keep k6 C.o2 C.x2
  have crs1'' := crs1'.keepW k6 (fun b hb w => C.dj b w hb) C.o2.p
  have lp6 : Lp Try.prog H6 l .busy none 32 (S45 x) [22, 23] asg45 body45 x.r := lp5.keep k6 (by have := j3.ll; omega) C.l2
  refine And.intro lp6 ?_
  intro H7 s7
  refine ⟨fun _ => ?_, fun e => by cases e⟩
  have k7 := s7.keep
  have hn7 : H7.next = H6.next := s7.1
  have hfo1 : foG false q.c q.hs (i + 1) = (boardsF h (foG false q.c q.hs i).1, hourF q.c false h (foG false q.c q.hs i).1 (foG false q.c q.hs i).2) := take_step hx
  have hfo2 : foG true q.c q.hs (i + 1) = (boardsF h (foG true q.c q.hs i).1, hourF q.c true h (foG true q.c q.hs i).1 (foG true q.c q.hs i).2) := take_step hx
  have e : ((i + 1 : Nat) : Int) * perHour = i * perHour + perHour := by rw [Int.natCast_add, Int.add_mul]; simp
  have hl6 : l < H6.next := by have := j3.ll; omega
  refine ⟨?_, ?_, by rw [hfo1, e]; exact a5, by rw [hfo2, e]; exact a6, by rw [hfo1]; exact g5, by rw [hfo2]; exact g6, le6.keep k7 C.ol (fun b hb => by simpa using C.xl b hb), s7.lp lp6, by omega, by have := j.lo; omega, ?_⟩
  · rw [hfo1]; exact crs1''.keepW k7 (fun b hb => by simp at hb; subst hb; exact C.l1) C.ol.p
  · rw [hfo2]; exact crs2''.keepW k7 (fun b hb => by simp at hb; subst hb; exact C.l2) C.ol.p
  · have big : ∀ {p : Wh} {g : Bool} {gs : List Gt} {s : St}, Crs q.c g L p H1 gs s → ∀ b, b ∈ p.W → b ∈ ([] : List Nat) ∨ H.next ≤ b := fun w b hb => by
      refine .inr ?_
      rcases Nat.lt_or_ge b H.next with v | v
      · exact absurd hb (w.off (by have := C.HL; omega))
      · exact v
    have lnew : ∀ b, b ∈ [l] → b ∈ ([] : List Nat) ∨ H.next ≤ b := fun b hb => by simp at hb; subst hb; exact .inr (by have := C.HL; omega)
    exact ((((j.kp.trans k13).new k4 lnew).new k5 (big j.c1)).new k6 (big j.c2)).new k7 lnew
end
end Go.Ax
namespace Go.Ax
open Go Go.RowKit Go.Proofs
section
variable {kn : FuncId → Option Bool} {lo : Nat} {H : Hp}
theorem res2 {S : Rg} {H : Hp} {a b : Nat} {t1 t2 : TypeId} {v1 v2 : Value} {x y : Nat} (ha : lk S a = some (pt x)) (hb : lk S b = some (pt y)) (h1 : isAggB Try.prog t1 = some false) (h2 : isAggB Try.prog t2 = some false) (r1 : Rd H x [v1]) (r2 : Rd H y [v2]) :
    resS Try.prog S H [.cell a t1, .cell b t2] = some [v1, v2] := by
  simp only [resS, ha, hb, load_one h1 r1, load_one h2 r2]
theorem ag90 : isAggB Try.prog 90 = some false := by kernel_rfl

theorem both_ok {q : BQ} (hc : q.c.At H) (hl : Sl H q.la q.ln q.lcap (hrc q.hs)) (hln : q.hs.length = q.ln) (hh : ∀ h ∈ q.hs, h.At H) (v : q.c.Vd) (ok2 : q.ln ≤ 200) (ok3 : ∀ h ∈ q.hs, hourB h q.c.pn q.c.gn = true) (hlo : lo ≤ H.next) :
    ∃ p1 p2 H', FnX Try.prog kn lo 45 [q.c.cv, q.c.wv, .slice q.la q.ln q.lcap] H (.tuple #[pt p1.k, pt p2.k]) H' ∧ Keep H H' [] ∧ Crs q.c false H.next p1 H' (foG false q.c q.hs q.ln).1 (foG false q.c q.hs q.ln).2 ∧ Crs q.c true H.next p2 H' (foG true q.c q.hs q.ln).1 (foG true q.c q.hs q.ln).2 ∧
      Ahead q.c.ponds (q.ln * perHour) (foG false q.c q.hs q.ln).2 ∧ Ahead q.c.ponds (q.ln * perHour) (foG true q.c q.hs q.ln).2 ∧ (foG false q.c q.hs q.ln).1.all (fun g => gateB g q.c.pn) = true := by
  have key := fnX_lowR (kn := kn) (lo := lo) (H := H) (args := [q.c.cv, q.c.wv, .slice q.la q.ln q.lcap]) (Q := fun w H' => ∃ p1 p2 : Wh, w = .tuple #[pt p1.k, pt p2.k] ∧ Keep H H' [] ∧ Crs q.c false H.next p1 H' (foG false q.c q.hs q.ln).1 (foG false q.c q.hs q.ln).2 ∧ Crs q.c true H.next p2 H' (foG true q.c q.hs q.ln).1 (foG true q.c q.hs q.ln).2 ∧
      Ahead q.c.ponds (q.ln * perHour) (foG false q.c q.hs q.ln).2 ∧ Ahead q.c.ponds (q.ln * perHour) (foG true q.c q.hs q.ln).2 ∧ (foG false q.c q.hs q.ln).1.all (fun g => gateB g q.c.pn) = true) Try.func45 B45 N45 Z45 L45 (by simp) ?_
  · obtain ⟨w, H', h, p1, p2, rfl, r⟩ := key; exact ⟨p1, p2, H', h, r⟩
  intro y hy
  refine TriR.lowR hy ?_
  intro H1 hH1; obtain ⟨k1, n1, c1⟩ := new_facts hH1; clear hH1
  intro H2 hH2; obtain ⟨k2, n2, c2⟩ := new_facts hH2; clear hH2
  intro H3 hH3; obtain ⟨k3, n3, c3⟩ := new_facts hH3; clear hH3
  have k03 : Keep H H3 [] := k1.trans (k2.trans k3)
  have c1 := k3.cl (k2.cl c1 (by simp)) (by simp)
  have c2 : Cl H3 H1.next [.pointer none] := k3.cl c2 (by simp)
  have hn03 := k03.1
  have hn1 := k1.1; have hn2 := k2.1; have hn3 := k3.1
  intro y hy
  refine TriR.lowR hy ?_
  have hc3 := hc.keep k03
  refine Exists.intro _ (Exists.intro _ (And.intro c1.of (And.intro (show row 2 [_, _] _ = some [.slice q.c.pa q.c.pn q.c.pcap, .slice q.c.ga q.c.gn q.c.gcap] from rfl) (And.intro c1.lt ?_))))
  refine And.intro rfl (Exists.intro (.agg #[.bool false]) (And.intro (by kernel_rfl) ?_))
  refine And.intro rfl (Exists.intro (bdv false) (And.intro (by kernel_rfl) ?_))
  obtain ⟨p1, H4, h4, k4, r4⟩ := crs_start (kn := kn) (lo := H3.next) (H := H3) (g := false) hc3 v
  refine Exists.intro _ (Exists.intro _ (And.intro (callX_args h4) ?_))
  have c1' := k4.cl c1 (by simp)
  refine Exists.intro _ (Exists.intro _ (And.intro c1'.of (And.intro (show row 2 [_, _] _ = some [.slice q.c.pa q.c.pn q.c.pcap, .slice q.c.ga q.c.gn q.c.gcap] from rfl) (And.intro c1'.lt ?_))))
  refine And.intro rfl (Exists.intro (.agg #[.bool true]) (And.intro (by kernel_rfl) ?_))
  refine And.intro rfl (Exists.intro (bdv true) (And.intro (by kernel_rfl) ?_))
  have hn34 := k4.1
  obtain ⟨p2, H5, h5, k5, r5⟩ := crs_start (kn := kn) (lo := lo) (H := H4) (g := true) (hc3.keep k4) v
  refine Exists.intro _ (Exists.intro _ (And.intro (callX_args h5) ?_))
  have hn45 := k5.1
  have k35 := k4.trans k5
  have c2' := k35.cl c2 (by simp)
  obtain ⟨_, e2, l2, g2⟩ := id c2'
  refine Exists.intro _ (Exists.intro _ (Exists.intro _ (And.intro g2 (And.intro (by omega) (And.intro rfl (And.intro rfl (And.intro (by simp) ?_)))))))
  intro H6 hH6; obtain ⟨k6, n6, c6⟩ := up_facts c2' hH6; clear hH6
  have c6 : Cl H6 H1.next [pt p1.k] := c6
  have c3' : Cl H6 H2.next [.pointer none] := k6.cl (k35.cl c3 (by simp)) (by simp; omega)
  obtain ⟨_, e3, l3, g3⟩ := id c3'
  refine Exists.intro _ (Exists.intro _ (Exists.intro _ (And.intro g3 (And.intro (by omega) (And.intro rfl (And.intro rfl (And.intro (by simp) ?_)))))))
  intro H7 hH7; obtain ⟨k7, n7, c7⟩ := up_facts c3' hH7; clear hH7
  have c7 : Cl H7 H2.next [pt p2.k] := c7
  have c67 : Cl H7 H1.next [pt p1.k] := k7.cl c6 (by simp; omega)
  refine And.intro (by repeat' first | exact True.intro | exact (fun h => h) | refine And.intro ?_ ?_) ?_
  -- the courses
  have k57 : Keep H5 H7 [H1.next, H2.next] := (k6.mono (by simp)).trans (k7.mono (by simp))
  have far : ∀ {L : Nat} {p : Wh} {g : Bool} {gs : List Gt} {s : St} {H' : Hp}, H3.next ≤ L → Crs q.c g L p H' gs s → ∀ b, b ∈ [H1.next, H2.next] → b ∉ p.W := fun hL w b hb => w.off (by simp at hb; omega)
  have hpa : ∀ b, q.c.pa = some ⟨b, 0, none⟩ → b < H.next := fun b e => hc.p.lt b e
  have offp : Off [H1.next, H2.next] q.c.pa := fun b e => by have := hpa b e; simp; omega
  have crs1 : Crs q.c false H3.next p1 H7 q.c.gs (s0 false q.c) := (r4.keep k5).keepW k57 (far (Nat.le_refl _) (r4.keep k5)) offp
  have crs2 : Crs q.c true H4.next p2 H7 q.c.gs (s0 true q.c) := r5.keepW k57 (far (by omega) r5) offp
  have crs2 : Crs q.c true H3.next p2 H7 q.c.gs (s0 true q.c) := crs2.lower (by omega) (fun b e => by have := hpa b e; omega)
  have dj : ∀ b, b ∈ p1.W → b ∉ p2.W := fun b hb => by
    have hlt : b < H4.next := by
      simp only [Wh.W, List.mem_cons] at hb
      rcases hb with rfl | rfl | hb
      · exact r4.hc.lt
      · exact r4.hw.lt
      · rcases r4.hg with ⟨e, _⟩ | ⟨gb, e, _, hcl⟩
        · rw [e] at hb; simp [gl] at hb
        · rw [mem_gl e] at hb; simp at hb; subst hb; exact hcl.lt
    exact r5.off hlt
  have k07 : Keep H H7 [] := (k03.trans k35).new k57 (fun b hb => .inr (by simp at hb; omega))
  intro y hy
  refine TriR.lowL hy ?_
  intro z hz
  refine TriR.lowR hz ?_
  obtain ⟨b1, b2, H8, h8, k8, hb1, hb2, d1, d2⟩ := hours_ok (kn := kn) (lo := lo) (H := H7) (la := q.la) (ln := q.ln) (lcap := q.lcap)
  refine Exists.intro _ (Exists.intro _ (And.intro (callX_args h8) ?_))
  intro y hy
  refine TriR.lowB hy ?_
  rw [E45_1]
  refine TriR.range rfl ?_
  intro H9 k9 n9 hd hlp
  have k79 : Keep H7 H9 [] := k8.trans k9
  have k09 : Keep H H9 [] := k07.trans k79
  have hn7 := k07.1
  have hn57 := k57.1
  have hn8 := k8.1
  have hn9 := k9.1
  let X : BW := ⟨b1, b2, H1.next, H2.next, H8.next⟩
  have r9 : Crs q.c false H3.next p1 H9 q.c.gs (s0 false q.c) := crs1.keep k79
  have r9' : Crs q.c true H3.next p2 H9 q.c.gs (s0 true q.c) := crs2.keep k79
  have w1 : ∀ {b}, H7.next ≤ b → b ∉ p1.W := fun hb => crs1.offNew hb
  have w2 : ∀ {b}, H7.next ≤ b → b ∉ p2.W := fun hb => crs2.offNew hb
  have xall : ∀ b, b ∈ X.all → (b < H3.next) ∨ (H7.next ≤ b ∧ b ≤ H8.next) := by
    intro b hb
    have e1 := d1.lt; have e2 := d2.lt
    simp only [BW.all, X, List.mem_cons, List.not_mem_nil, or_false] at hb
    omega
  have offs : ∀ w : List Nat, (∀ b, b < H.next → b ∉ w) → q.Off w := fun w hw => ⟨fun b e => hw b (hc.p.lt b e), fun b e => hw b (hl.lt b e), fun h hm' => ⟨fun b e => hw b ((hh h hm').b.lt b e), fun b e => hw b ((hh h hm').c.lt b e), fun b e => hw b ((hh h hm').t.lt b e)⟩⟩
  have C : BC lo H q H3.next p1 p2 X (H8.next + 1) := by
    refine ⟨v, ok2, hln, ok3, by omega, by omega, by omega, fun b hb => ?_, fun b hb => ?_, fun b hb => ?_, w1 (by omega), w2 (by omega), dj, offs _ fun b hb => crs1.off (by omega), offs _ fun b hb => crs2.off (by omega), offs _ fun b hb => by simp; omega⟩
    · have := xall b hb; omega
    · rcases xall b hb with w | w
      · exact crs1.off w
      · exact w1 w.1
    · rcases xall b hb with w | w
      · exact crs2.off w
      · exact w2 w.1
  have j0 : BJ lo H q H3.next p1 p2 X (H8.next + 1) 0 H9 := by
    have a0 := v.ahead false
    have a0' := v.ahead true
    refine ⟨r9, r9', by simpa [foG] using a0, by simpa [foG] using a0', v.g, v.g, ⟨⟨k9.rd d1 (by simp), k9.rd d2 (by simp), k09.sl0 hl, hln, fun x hx => (hh x hx).keep k09⟩, k79.cl c67 (by simp), k79.cl c7 (by simp), by show H8.next < H9.next; omega, hd⟩, hlp.weak ⟨rfl, rfl, trivial⟩, by omega, by omega, k09⟩
  obtain ⟨H10, h10, hend⟩ := hrs_ok (kn := kn) (lo := lo) (H := H9) (l := H8.next + 1) (b1 := b1) (b2 := b2) (la := q.la) (ln := q.ln) (lcap := q.lcap) (hs := q.hs) (BJ lo H q H3.next p1 p2 X (H8.next + 1)) (fun _ => False) (by omega) j0 (fun i H' j => ⟨j.le.hrs, j.lo⟩) (fun i H1 H2 j k => j.keep0 k) (fun h hm' => by
    have := ok3 h hm'
    simp [hourB] at this; omega) (fun i h a cap H' hx j ha hoff => both_round C hx j ha hoff)
  refine Exists.intro _ (Exists.intro H10 (And.intro (callX_func rfl (by simpa using h10)) ?_))
  rcases hend with j | f
  rotate_left
  · exact f.elim
  refine ⟨.ready, none, _, j.lp, by simp, ?_⟩
  intro H11 s11
  have k11 := s11.keep
  have le11 := j.le.keep k11 C.ol (fun b hb => by simpa using C.xl b hb)
  have cr1 := j.c1.keepW k11 (fun b hb => by simp at hb; subst hb; exact C.l1) C.ol.p
  have cr2 := j.c2.keepW k11 (fun b hb => by simp at hb; subst hb; exact C.l2) C.ol.p
  have q6 : Cl H11 H1.next [pt p1.k] := le11.r6
  have q7 : Cl H11 H2.next [pt p2.k] := le11.r7
  refine Exists.intro _ (Exists.intro _ (And.intro q6.of (And.intro rfl (And.intro q6.lt ?_))))
  refine Exists.intro _ (Exists.intro _ (And.intro q7.of (And.intro rfl (And.intro q7.lt ?_))))
  obtain ⟨_, ea, la, ga⟩ := id q6
  refine Exists.intro _ (Exists.intro _ (Exists.intro _ (And.intro ga (And.intro (by omega) (And.intro rfl (And.intro rfl (And.intro (by simp) ?_)))))))
  intro H12 hH12; obtain ⟨k12, n12, e12⟩ := up_facts q6 hH12; clear hH12
  have e12 : Cl H12 H1.next [pt p1.k] := e12
  have q7' := k12.cl q7 (by simp; omega)
  obtain ⟨_, eb, lb, gb⟩ := id q7'
  refine Exists.intro _ (Exists.intro _ (Exists.intro _ (And.intro gb (And.intro (by omega) (And.intro rfl (And.intro rfl (And.intro (by simp) ?_)))))))
  intro H13 hH13; obtain ⟨k13, n13, e13⟩ := up_facts q7' hH13; clear hH13
  have e13 : Cl H13 H2.next [pt p2.k] := e13
  have e12' : Cl H13 H1.next [pt p1.k] := k13.cl e12 (by simp; omega)
  refine And.intro (by repeat' first | exact True.intro | exact (fun h => h) | exact (fun h => absurd (show H1.next = H2.next from h) (by omega)) | refine And.intro ?_ ?_) ?_
  have kk : Keep H11 H13 [H1.next, H2.next] := (k12.mono (by simp)).trans (k13.mono (by simp))
  have hdf := le11.dfr
  have hdf1 : H8.next < H11.next := hdf.1
  have hd13 : H13.t.get H8.next = some (.dfr (some [])) := by
    have : H8.next ∉ [H1.next, H2.next] := by simp; omega
    rw [kk.2 _ hdf1 this]; exact hdf.2
  have kH : Keep H H13 [] := (j.kp.new k11 (fun b hb => .inr (by simp at hb; omega))).new kk (fun b hb => .inr (by simp at hb; omega))
  have f1 := cr1.keepW kk (far (Nat.le_refl _) cr1) offp
  have f2 := cr2.keepW kk (far (Nat.le_refl _) cr2) offp
  refine And.intro trivial (Or.inr ⟨H8.next, rfl, by omega, hd13, fun H14 hn14 hs14 => ?_⟩)
  have k14 : Keep H13 H14 [H8.next] := ⟨by omega, fun b _ hb => hs14 b (by simpa using hb)⟩
  have g1 := (f1.keepW k14 (fun b hb => by simp at hb; subst hb; exact w1 (by omega)) (fun b e => by have := hpa b e; simp; omega)).lower hn03 hpa
  have g2 := (f2.keepW k14 (fun b hb => by simp at hb; subst hb; exact w2 (by omega)) (fun b e => by have := hpa b e; simp; omega)).lower hn03 hpa
  exact ⟨_, res2 (x := H1.next) (y := H2.next) rfl rfl ag90 ag90 (k14.rd e12'.rd (by simp; omega)) (k14.rd e13.rd (by simp; omega)), p1, p2, rfl, kH.new k14 (fun b hb => .inr (by simp at hb; omega)), g1, g2, j.a1, j.a2, j.g1⟩
end
end Go.Ax
namespace Go.Ax
open Go Go.RowKit Go.Proofs
theorem check_vd {c : Ch} {hs : List Hr} {ln : Nat} (he : checkE c hs ln = 0) (lp : c.ponds.length = c.pn) (lg : c.gs.length = c.gn) (lw : c.ss.length = c.wn) : c.Vd ∧ ln ≤ 200 ∧ ∀ h ∈ hs, hourB h c.pn c.gn = true := by
  have hok : c.ok = true ∧ ln ≤ 200 ∧ ∀ h ∈ hs, hourB h c.pn c.gn = true := by
    unfold checkE at he
    split at he
    · omega
    · rename_i w
      split at he
      · rename_i w2
        simp only [Bool.and_eq_true] at w2
        exact ⟨w2.1, by omega, List.all_eq_true.1 w2.2⟩
      · omega
  exact ⟨Ch.vd hok.1 lp lg lw, hok.2.1, hok.2.2⟩
def BQ.s (q : BQ) : St := (foG false q.c q.hs q.ln).2
def BQ.t (q : BQ) : St := (foG true q.c q.hs q.ln).2
theorem fo_len {c : Ch} {g : Bool} {hs : List Hr} : ∀ (i : Nat), (foG g c hs i).2.ws.length = c.ss.length := by
  intro i
  unfold foG
  have : ∀ (l : List Hr) (x : List Gt × St), (l.foldl (fun x h => (boardsF h x.1, hourF c g h x.1 x.2)) x).2.ws.length = x.2.ws.length := by
    intro l
    induction l with
    | nil => intro x; rfl
    | cons h l ih => intro x; rw [List.foldl_cons, ih]; exact hour_len _
  rw [this]
  simp [s0, endS]
def zero8 : List Value := [iv 0, iv 0, iv 0, iv 0, iv 0, iv 0, iv 0, iv 0]
/-- What Run returns. -/
structure RunA (q : BQ) (H H' : Hp) (v : Value) : Prop where
  bad : checkE q.c q.hs q.ln ≠ 0 → v = .tuple #[.slice none 0 0, .agg zero8.toArray, iv (checkE q.c q.hs q.ln)]
  ok : checkE q.c q.hs q.ln = 0 → ∃ b, v = .tuple #[slv b q.c.wn q.c.wn, .agg (flowsV q.s q.t).toArray, iv 0] ∧ H.next ≤ b ∧ Cl H' b (spc (q.s.ws.zip q.t.ws)) ∧
    Ahead q.c.ponds (q.ln * perHour) q.s ∧ Ahead q.c.ponds (q.ln * perHour) q.t
section
variable {kn : FuncId → Option Bool} {lo : Nat} {H : Hp}
theorem res_run {S : Rg} {H : Hp} {v1 v2 : Value} {y : Nat} {cs : List Value} (h6 : lk S 6 = some v1) (h7 : lk S 7 = some (pt y)) (h8 : lk S 8 = some v2) (hl : cs.length = 8) (r : Rd H y cs) :
    resS Try.prog S H [.tmp 6, .cell 7 37, .tmp 8] = some [v1, .agg cs.toArray, v2] := by
  obtain ⟨i, hi, hs⟩ := i37
  have hr := load_all ag37 hi (cs := cs) (by rw [hs, hl]) r
  simp only [resS, h6, h7, h8, hr]
theorem run_ok {q : BQ} (hc : q.c.At H) (hl : Sl H q.la q.ln q.lcap (hrc q.hs)) (hln : q.hs.length = q.ln) (hh : ∀ h ∈ q.hs, h.At H) (hlo : lo ≤ H.next) :
    ∃ v H', FnX Try.prog kn lo 25 [q.c.cv, q.c.wv, .slice q.la q.ln q.lcap] H v H' ∧ Keep H H' [] ∧ RunA q H H' v := by
  have key := fnX_low (kn := kn) (lo := lo) (H := H) (args := [q.c.cv, q.c.wv, .slice q.la q.ln q.lcap]) (Q := fun v H' => Keep H H' [] ∧ RunA q H H' v) Try.func25 B25 N25 Z25 L25 (by simp) ?_
  · obtain ⟨v, H', h, r⟩ := key; exact ⟨v, H', h, r⟩
  intro H1 hH1; obtain ⟨k1, n1, c1⟩ := new_facts hH1; clear hH1
  intro H2 hH2; obtain ⟨k2, n2, c2⟩ := new_facts hH2; clear hH2
  have k02 := k1.trans k2
  have c1 := k2.cl c1 (by simp)
  have hn1 := k1.1; have hn2 := k2.1
  have hc2 := hc.keep k02
  refine Exists.intro _ (Exists.intro _ (And.intro c1.of (And.intro (show row 2 [_, _] _ = some [.slice q.c.pa q.c.pn q.c.pcap, .slice q.c.ga q.c.gn q.c.gcap] from rfl) ?_)))
  obtain ⟨H3, h3, k3⟩ := check_ok (kn := kn) (lo := lo) (H := H2) hc2 (k02.sl0 hl) hln (fun x hx => (hh x hx).keep k02) (by omega)
  refine Exists.intro _ (Exists.intro _ (And.intro (callX_args h3) ?_))
  have hn3 := k3.1
  have c2' := k3.cl c2 (by simp)
  by_cases he : checkE q.c q.hs q.ln = 0
  rotate_left
  · refine And.intro (fun _ => ?_) (fun w => absurd (show checkE q.c q.hs q.ln = 0 by simpa using w) he)
    refine And.intro rfl (Exists.intro (.agg zero8.toArray) (And.intro (by kernel_rfl) ?_))
    obtain ⟨_, e2, l2, g2⟩ := id c2'
    refine Exists.intro _ (Exists.intro _ (Exists.intro _ (And.intro g2 (And.intro (by omega) (And.intro rfl (And.intro rfl (And.intro (by simp) ?_)))))))
    intro H4 hH4; obtain ⟨k4, n4, c4⟩ := up_facts c2' hH4; clear hH4
    have c4 : Cl H4 H1.next zero8 := c4
    refine And.intro trivial (Exists.intro _ (And.intro (res_run (y := H1.next) rfl rfl rfl rfl c4.rd) ⟨(k02.trans k3).new k4 (fun b hb => .inr (by simp at hb; omega)), fun _ => rfl, fun w => absurd w he⟩))
  refine And.intro (fun w => absurd he (show checkE q.c q.hs q.ln ≠ 0 by simpa using w)) (fun _ => ?_)
  obtain ⟨v, ok2, ok3⟩ := check_vd he hc.lp hc.lg hc.lw
  have k03 := k02.trans k3
  have c1 := k3.cl c1 (by simp)
  refine Exists.intro _ (Exists.intro _ (And.intro c1.of (And.intro (show row 2 [_, _] _ = some [.slice q.c.pa q.c.pn q.c.pcap, .slice q.c.ga q.c.gn q.c.gcap] from rfl) ?_)))
  obtain ⟨p1, p2, H4, h4, k4, r1, r2, a1, a2, _⟩ := both_ok (kn := kn) (lo := lo) (H := H3) (q := q) (hc.keep k03) (k03.sl0 hl) hln (fun x hx => (hh x hx).keep k03) v ok2 ok3 (by omega)
  refine Exists.intro _ (Exists.intro _ (And.intro (callX_args h4) ?_))
  refine And.intro rfl (Exists.intro _ (And.intro rfl ?_))
  refine And.intro rfl (Exists.intro _ (And.intro rfl ?_))
  have hn4 := k4.1
  have l1 := fo_len (c := q.c) (g := false) (hs := q.hs) q.ln
  have l2 := fo_len (c := q.c) (g := true) (hs := q.hs) q.ln
  have hlw := hc.lw
  have h16 := v.h16; have hwp := v.wp
  obtain ⟨b, H5, h5, k5, hb, cb⟩ := between_ok (kn := kn) (lo := lo) (H := H4) r1.hc r2.hc (u := (foG false q.c q.hs q.ln).2.ws) (w := (foG true q.c q.hs q.ln).2.ws) r1.hw r2.hw (by show q.c.wn = _; omega) (by show q.c.wn = _; omega) (by omega) (by omega) (by omega)
  refine Exists.intro _ (Exists.intro _ (And.intro (callX_args h5) ?_))
  have hn5 := k5.1
  obtain ⟨H6, h6, k6⟩ := flows_ok (kn := kn) (lo := lo) (H := H5) (k5.cl r1.hc (by simp)) (k5.cl r2.hc (by simp)) (by omega)
  refine Exists.intro _ (Exists.intro _ (And.intro (callX_args h6) ?_))
  have hn6 := k6.1
  have k36 := k4.trans (k5.trans k6)
  have c26 := k36.cl c2' (by simp)
  obtain ⟨_, e2, l2', g2⟩ := id c26
  refine Exists.intro _ (Exists.intro _ (Exists.intro _ (And.intro g2 (And.intro (by omega) (And.intro rfl (And.intro rfl (And.intro (by simp) ?_)))))))
  intro H7 hH7; obtain ⟨k7, n7, c7⟩ := up_facts c26 hH7; clear hH7
  have c7 : Cl H7 H1.next (flowsV q.s q.t) := c7
  refine And.intro trivial (Exists.intro _ (And.intro (res_run (y := H1.next) rfl rfl rfl rfl c7.rd) ⟨(k03.trans k36).new k7 (fun b hb => .inr (by simp at hb; omega)), fun w => absurd he w, fun _ => ⟨b, ?_, by omega, k7.cl (k6.cl cb (by simp)) (by simp; omega), a1, a2⟩⟩))
  show Value.tuple #[slv b _ _, _, _] = _
  rw [show (foG false q.c q.hs q.ln).2.ws.length = q.c.wn by omega]
end
end Go.Ax
namespace Go.Ax
open Go Go.RowKit Go.Proofs
section
variable {kn : FuncId → Option Bool} {lo : Nat} {H : Hp}
def manyB (n : Nat) (m : Int) : Bool := (decide ((n : Int) > m) && decide ((n : Int) ≤ 200)) || decide ((n : Int) > 205)
theorem many_ok {la : Option Addr} {ln lcap : Nat} {m : Int} : ∃ H', FnX Try.prog kn lo 24 [.slice la ln lcap, iv m] H (.bool (manyB ln m)) H' ∧ Keep H H' [] := by
  have key := fnX_low (kn := kn) (lo := lo) (H := H) (args := [.slice la ln lcap, iv m]) (Q := fun v H' => v = .bool (manyB ln m) ∧ Keep H H' []) Try.func24 B24 N24 Z24 L24 (by simp) ?_
  · obtain ⟨v, H', h, rfl, q⟩ := key; exact ⟨H', h, q⟩
  repeat' first
    | (intro t ht; cases t)
    | exact And.intro trivial (Exists.intro _ (And.intro rfl ⟨by simp_all [retV, manyB] <;> (intros; omega), Keep.refl _ _⟩))
    | refine And.intro rfl (Exists.intro _ (And.intro rfl ?_))
end
end Go.Ax
namespace Go.Ax
open Go Go.RowKit Go.Proofs
end Go.Ax
namespace Go.Ax
open Go Go.RowKit Go.Proofs
/-- Numbers of 16 bits, as their slice has them. -/
def u16s (l : List Nat) : List Value := l.map fun (n : Nat) => Value.int .u16 ((n : Nat) : Int)
end Go.Ax
namespace Go.Ax
open Go Go.RowKit Go.Proofs
theorem Acc.keepW {lo f : Nat} {e : TypeId} {H H1 : Hp} {v : Value} {n : Nat} {cs : List Value} {w : List Nat} (h : Acc lo f e H v n cs) (k : Keep H H1 w) (hw : ∀ b ∈ w, b < f) : Acc lo f e H1 v n cs :=
  h.imp id fun ⟨b, e1, h0, hf, hl, hn, hg⟩ => ⟨b, e1, h0, hf, hl, Nat.lt_of_lt_of_le hn k.1, by rw [k.2 b hn (fun q => by have := hw b q; omega)]; exact hg⟩

/-- What the closure 'more' has at hand: the numbers, and the turn's cell. -/
structure Mo (F : Hp) (b7 : Nat) (ba : Option Addr) (bl bcap : Nat) (bs : List Nat) : Prop where
  h7 : Rd F b7 [.slice ba bl bcap]
  hb : Sl F ba bl bcap (u16s bs)
  hbl : bs.length = bl
  h0 : 0 < bl
  hr : ∀ n ∈ bs, n ≤ 65535
  h2 : bl ≤ 9223372036854775807
end Go.Ax
namespace Go.Ax
open Go Go.RowKit Go.Proofs
theorem Cl.ne {H H' : Hp} {b : Nat} {cs cs' : List Value} (h : Cl H b cs) (h' : Cl H' b cs') (hne : cs' ≠ cs) : H'.t.get b ≠ H.t.get b := by
  obtain ⟨_, e, l, g⟩ := h
  obtain ⟨_, e', l', g'⟩ := h'
  intro q
  rw [g, g'] at q
  simp only [Option.some.injEq, Ob.cells.injEq] at q
  exact hne q.1
end Go.Ax
namespace Go.Ax
open Go Go.RowKit Go.Proofs
/-- The block that append has made so far. -/
def accB : Value → List Nat
  | .slice (some a) _ _ => [a.block]
  | _ => []
theorem Acc.blk {lo f : Nat} {e : TypeId} {H : Hp} {v : Value} {n : Nat} {cs : List Value} (h : Acc lo f e H v n cs) : ∀ b ∈ accB v, f ≤ b ∧ b < H.next := by
  rcases h with ⟨_, _, rfl⟩ | ⟨b, rfl, _, hf, _, hn, _⟩
  · intro b hb; simp [accB] at hb
  · intro c hc; simp [accB] at hc; subst hc; exact ⟨hf, hn⟩
theorem Mo.keep {F H : Hp} {b7 bt : Nat} {ba : Option Addr} {bl bcap : Nat} {bs : List Nat} (m : Mo F b7 ba bl bcap bs) (k : Keep F H [bt]) (h7 : b7 ≠ bt) (hb : ∀ b, ba = some ⟨b, 0, none⟩ → b ≠ bt) : Mo H b7 ba bl bcap bs :=
  ⟨k.rd m.h7 (by simpa using h7), k.sl m.hb (fun b e => by have := hb b e; simpa using this), m.hbl, m.h0, m.hr, m.h2⟩
end Go.Ax
namespace Go.Ax
open Go Go.RowKit Go.Proofs
/-- No pond has more in the first one, and no flow is more. -/
structure LeS (s t : St) : Prop where
  w : Le s.ws t.ws
  cm : s.came ≤ t.came
  sd : s.seeped ≤ t.seeped
  rv : s.river ≤ t.river
  tk : s.taken ≤ t.taken
theorem LeS.refl (s : St) : LeS s s := ⟨⟨rfl, fun _ => Int.le_refl _⟩, Int.le_refl _, Int.le_refl _, Int.le_refl _, Int.le_refl _⟩
theorem river_le {a b to l m : Int} (h : a ≤ b) (k : l ≤ m) : moveR a to l ≤ moveR b to m := by
  unfold moveR; split <;> omega
theorem seep_mono {v w b : Int} (hb : 0 ≤ b) (h : v ≤ w) : v * b / 1000000 ≤ w * b / 1000000 ∧ (v * b + 1000000 - 1) / 1000000 ≤ (w * b + 1000000 - 1) / 1000000 := by
  have hm := Int.mul_le_mul_of_nonneg_right h hb
  generalize v * b = P at *
  generalize w * b = Q at *
  omega
theorem stay_mono {v w b : Int} (hb : b ≤ 1000000) (h : v ≤ w) : v - v * b / 1000000 ≤ w - w * b / 1000000 ∧ v - (v * b + 1000000 - 1) / 1000000 ≤ w - (w * b + 1000000 - 1) / 1000000 := by
  obtain ⟨d, rfl⟩ : ∃ d, w = v + d := ⟨w - v, by omega⟩
  have hd0 : 0 ≤ d := by omega
  have hm := Int.mul_le_mul_of_nonneg_left hb hd0
  rw [Int.add_mul]
  generalize v * b = P at *
  generalize d * b = Q at *
  omega
end Go.Ax
namespace Go.Ax
open Go Go.RowKit Go.Proofs
theorem hour_facts {h : Hr} {pn gn : Nat} (hv : hourB h pn gn = true) : ∀ s ∈ h.cs, 0 ≤ s.1 ∧ s.1 ≤ s.2 ∧ s.2 ≤ 68719476736 := by
  simp only [hourB, Bool.and_eq_true] at hv
  intro s hs
  have := List.all_eq_true.1 hv.1.2 s hs
  simp [withinB] at this; omega
theorem pond_facts {c : Ch} (v : c.Vd) : ∀ p ∈ c.ponds, (0 ≤ p.lo ∧ p.lo ≤ 1000000 ∧ 0 ≤ p.hi ∧ p.hi ≤ 1000000) ∧ 1 ≤ p.full ∧ p.full ≤ 68719476736 := by
  intro p hp
  obtain ⟨i, hi, rfl⟩ := List.getElem_of_mem hp
  have := List.all_eq_true.1 v.p (c.ponds[i], i) (List.mem_zipIdx_iff_getElem?.2 (by simp [hi]))
  simp [pondB, withinB] at this
  omega
end Go.Ax
namespace Go.Ax
open Go Go.RowKit Go.Proofs
end Go.Ax
namespace Go.Ax
open Go Go.RowKit Go.Proofs
end Go.Ax
namespace Go.Ax
open Go Go.RowKit Go.Proofs Go.ChangeShapes Go.WideShapes Go.Deep
theorem IntT.row {α : Type} {P : Program} {t : TypeId} {k : Nat} {f : α → List Value} {mk : (Nat → Int) → α} (h : IntT P t) (hc : P.cellsOf t = k) (hmk : ∀ N : Nat → Int, f (mk N) = (List.range k).map fun j => Value.int .i64 (N j))
    {H : Type} {enc : TypeId × Value → H} {w : World} {base : Nat} {spare : Nat → Bool} {held : Bool} (fuel : Nat) (cs : List Value) (x : DataW H × List MemPlace) (hx : DataW.trod enc P w base spare held fuel t cs = some x) : ∃ y : α, cs = f y ∧ True := by
  obtain ⟨h1, h2⟩ := h _ _ _ _ _ _ _ _ _ hx
  have : ∃ N : Nat → Int, ∀ j, j < cs.length → cs[j]? = some (.int .i64 (N j)) := by
    refine ⟨fun j => match cs[j]? with | some (.int _ n) => n | _ => 0, fun j hj => ?_⟩
    obtain ⟨n, hn⟩ := h2 j hj
    simp [hn]
  obtain ⟨N, hN⟩ := this
  refine ⟨mk N, ?_, trivial⟩
  rw [hmk]
  apply List.ext_getElem?
  intro j
  by_cases hj : j < k
  · rw [hN j (by omega), List.getElem?_map, List.getElem?_range hj]; rfl
  · rw [List.getElem?_eq_none (by omega), List.getElem?_eq_none (by simp; omega)]
theorem spot_of {w : World} {a : Addr} {v : Value} (h : w.cell? a = some v) : a.spot = none := by
  unfold World.cell? at h
  split at h
  · cases hs : a.spot with
    | none => rfl
    | some x => rw [hs] at h; simp at h
  · cases h
theorem add_zero' (a : Addr) : a.add 0 = a := by unfold Addr.add; simp
theorem add_plain (b o n : Nat) : (⟨b, o, none⟩ : Addr).add n = ⟨b, o + n, none⟩ := by
  unfold Addr.add
  by_cases q : n = 0
  · simp [q]
  · simp [q]
/-- A slice of rows, as it is read; Q: what else is known of a row. -/
theorem rows_read {H : Type} {enc : TypeId × Value → H} {P : Program} {w : World} {base : Nat} {held : Bool} {α : Type} {f : α → List Value} {Q : α → Prop} {k : Nat} {t e : TypeId} {fuel : Nat} {v : Value} {x : DataW H × List MemPlace}
    (ht : P.underlying t = some (.slice e)) (hR : ∀ (fuel : Nat) (cs : List Value) (x : DataW H × List MemPlace), DataW.trod enc P w base (fun _ => true) held fuel e cs = some x → ∃ y : α, cs = f y ∧ Q y) (hc : P.cellsOf e = k) (hk : 0 < k) (hfk : ∀ y, (f y).length = k)
    (h : DataW.trod enc P w base (fun _ => true) held fuel t [v] = some x) : ∃ (l : List α), l.length ≤ maxLen ∧ (∀ y ∈ l, Q y) ∧
      (((v = .slice none 0 0 ∨ ∃ a', v = .slice (some a') 0 0) ∧ l = []) ∨ ∃ blk off cap, v = .slice (some ⟨blk, off, none⟩) l.length cap ∧ l.length ≤ cap ∧ ∀ (i : Nat) u, (l.flatMap f)[i]? = some u → w.cell? ⟨blk, off + i, none⟩ = some u) := by
  rcases open_slice ht h with ⟨h0, _⟩ | ⟨a, len, cap, m, n, D, Pl, hcs, hb, hl, hm, hmm, hx, hi⟩
  · cases h0
    exact ⟨[], by simp, fun y hy => by simp at hy, .inl ⟨.inl rfl, rfl⟩⟩
  cases hcs
  simp only [if_true] at hmm
  subst hmm
  rcases Nat.eq_zero_or_pos m with h0 | h0
  · subst h0
    have : len = 0 := by omega
    subst this
    exact ⟨[], by simp, fun y hy => by simp at hy, .inl ⟨.inr ⟨_, rfl⟩, rfl⟩⟩
  obtain ⟨blk, off, spot⟩ := a
  have hs : spot = none := by
    obtain ⟨cs', h1, h2⟩ := hi 0 h0
    obtain ⟨y, hy, _⟩ := hR _ _ _ h2
    obtain ⟨_, h5, h6⟩ := World.cells?_some h1
    have h7 := h6 0 (by omega)
    rw [Nat.zero_mul, add_zero', add_zero'] at h7
    have h8 : cs'[0]? = some (cs'[0]'(by omega)) := List.getElem?_eq_getElem _
    rw [h8] at h7
    exact spot_of h7
  subst hs
  have hrow : ∀ i, i < len → ∃ y : α, Q y ∧ ∀ j, j < k → ∃ u, (f y)[j]? = some u ∧ w.cell? ⟨blk, off + (i * k + j), none⟩ = some u := by
    intro i hil
    obtain ⟨cs', h1, h2⟩ := hi i (by omega)
    obtain ⟨y, rfl, hq⟩ := hR _ _ _ h2
    obtain ⟨_, h5, h6⟩ := World.cells?_some h1
    refine ⟨y, hq, fun j hj => ?_⟩
    have h7 := h6 j (by omega)
    have h8 : (f y)[j]? = some ((f y)[j]'(by rw [hfk]; exact hj)) := List.getElem?_eq_getElem _
    rw [h8, hc, add_plain, add_plain, Nat.add_assoc] at h7
    exact ⟨_, h8, h7⟩
  have key : ∀ n, n ≤ len → ∃ l : List α, l.length = n ∧ (∀ y ∈ l, Q y) ∧ ∀ (i : Nat) y, l[i]? = some y → ∀ j, j < k → ∃ u, (f y)[j]? = some u ∧ w.cell? ⟨blk, off + (i * k + j), none⟩ = some u := by
    intro n
    induction n with
    | zero => intro _; exact ⟨[], rfl, fun y hy => by simp at hy, fun i y e => by simp at e⟩
    | succ n ih =>
      intro hn
      obtain ⟨l, h1, hq, h2⟩ := ih (by omega)
      obtain ⟨y, hyq, hy⟩ := hrow n (by omega)
      refine ⟨l ++ [y], by simp [h1], fun z hz => ?_, fun i z e => ?_⟩
      · simp only [List.mem_append, List.mem_singleton] at hz
        rcases hz with hz | rfl
        · exact hq z hz
        · exact hyq
      rw [List.getElem?_append] at e
      split at e
      · exact h2 i z e
      · rename_i q
        have : i = n := by have := get_lt e; simp at this; omega
        subst this
        rw [h1, Nat.sub_self] at e
        simp at e; subst e
        exact hy
  obtain ⟨l, hl1, hq, hl2⟩ := key len (Nat.le_refl _)
  refine ⟨l, by omega, hq, .inr ⟨blk, off, m, by rw [hl1], by omega, fun i u hu => ?_⟩⟩
  obtain ⟨y, h1, h2⟩ := flat_get hk (fun y _ => hfk y) i u hu
  have hj : i % k < k := Nat.mod_lt _ hk
  obtain ⟨u', e1, e2⟩ := hl2 _ y h1 _ hj
  rw [h2] at e1; cases e1
  rw [Nat.div_add_mod'] at e2
  exact e2
/-- Rows of plain cells. -/
theorem rows_given {H : Type} {enc : TypeId × Value → H} {P : Program} {w : World} {base : Nat} {held : Bool} {α : Type} {f : α → List Value} {Q : α → Prop} {k : Nat} {t e : TypeId} {fuel : Nat} {v : Value} {x : DataW H × List MemPlace}
    (ht : P.underlying t = some (.slice e)) (hR : ∀ (fuel : Nat) (cs : List Value) (x : DataW H × List MemPlace), DataW.trod enc P w base (fun _ => true) held fuel e cs = some x → ∃ y : α, cs = f y ∧ Q y) (hc : P.cellsOf e = k) (hk : 0 < k) (hfk : ∀ y, (f y).length = k) (hflat : ∀ y u, u ∈ f y → flat1 u = true)
    (h : DataW.trod enc P w base (fun _ => true) held fuel t [v] = some x) : ∃ (l : List α) (y : Imp), Given w v f l y ∧ l.length ≤ maxLen ∧ ∀ y ∈ l, Q y := by
  obtain ⟨l, h1, h2, ⟨h3, rfl⟩ | ⟨blk, off, cap, h3, h4, h5⟩⟩ := rows_read ht hR hc hk hfk h
  · exact ⟨[], ⟨0, 0, []⟩, ⟨fun i u e => by simp at e, rfl, .inl ⟨h3, rfl⟩⟩, h1, h2⟩
  · refine ⟨l, ⟨blk, off, l.flatMap f⟩, ⟨fun i u hu => ⟨h5 i u hu, ?_⟩, rfl, .inr ⟨cap, h3, h4⟩⟩, h1, h2⟩
    obtain ⟨y, hy, hu'⟩ := List.mem_flatMap.1 (List.mem_of_getElem? hu)
    exact hflat y u hu'

/-- What is given in two layers: rows of plain cells, and one block whose cells are told by what they stand for. -/
def renOf (imps : List Imp) : Ren := fun b => (imps[b]?).map fun x => ⟨x.blk, x.off, none⟩
end Go.Ax
namespace Go.Ax
open Go Go.RowKit Go.Proofs Go.ChangeShapes Go.WideShapes Go.Deep
theorem Given.rel2 {α : Type} {w : World} {v : Value} {f : α → List Value} {l : List α} {x : Imp} (g : Given w v f l x) {r : Ren} {b : Nat} (hr : r b = some ⟨x.blk, x.off, none⟩) :
    ∃ a cap, VR r (.slice a l.length cap) v ∧ ∀ H : Hp, b < H.next → cellsOf H b = some x.cs → Sl H a l.length cap (l.flatMap f) := by
  rcases g.v with ⟨rfl | ⟨a', rfl⟩, rfl⟩ | ⟨cap, rfl, hl⟩
  · exact ⟨none, 0, .nilSlice, fun H _ _ => .inl ⟨.inl rfl, rfl, rfl, rfl⟩⟩
  · exact ⟨some ⟨0, 0, some 0⟩, 0, .weird, fun H _ _ => .inl ⟨.inr rfl, rfl, rfl, rfl⟩⟩
  · refine ⟨some ⟨b, 0, none⟩, cap, ?_, fun H hb hc => .inr ⟨b, rfl, ⟨hb, by rw [hc, g.cs]⟩, hl⟩⟩
    have := VR.slice (o := 0) (n := l.length) (c := cap) hr rfl hl
    simpa using this
/-- An hour, as it is given: three slices. -/
structure HV where
  s1 : Value
  s2 : Value
  s3 : Value
  bs : List Bd
  cs : List (Int × Int)
  ts : List Tk
  x1 : Imp
  x2 : Imp
  x3 : Imp
def HV.f (h : HV) : List Value := [h.s1, h.s2, h.s3]
def HV.i (h : HV) : List Imp := [h.x1, h.x2, h.x3]
structure HV.Q (w : World) (h : HV) : Prop where
  g1 : Given w h.s1 Bd.v h.bs h.x1
  g2 : Given w h.s2 (fun s : Int × Int => [iv s.1, iv s.2]) h.cs h.x2
  g3 : Given w h.s3 Tk.v h.ts h.x3
theorem hours_abs {w : World} {imps : List Imp} : ∀ (L : List HV) (pre : List Imp), imps = pre ++ L.flatMap HV.i → (∀ h ∈ L, h.Q w) → ∃ hs : List Hr, hs.length = L.length ∧ LR (renOf imps) (hrc hs) (L.flatMap HV.f) ∧
    ∀ H : Hp, (∀ (b : Nat) x, imps[b]? = some x → b < H.next ∧ cellsOf H b = some x.cs) → ∀ h ∈ hs, h.At H
  | [], _, _, _ => ⟨[], rfl, .nil, fun _ _ h hh => by simp at hh⟩
  | h :: L, pre, he, hq => by
    obtain ⟨hs, e1, e2, e3⟩ := hours_abs (imps := imps) L (pre ++ h.i) (by rw [he]; simp) (fun x hx => hq x (List.mem_cons_of_mem _ hx))
    have q := hq h (List.mem_cons_self ..)
    have i1 : imps[pre.length]? = some h.x1 := by rw [he]; simp [HV.i]
    have i2 : imps[pre.length + 1]? = some h.x2 := by rw [he]; simp [HV.i]
    have i3 : imps[pre.length + 2]? = some h.x3 := by rw [he]; simp [HV.i]
    obtain ⟨a1, c1, r1, l1⟩ := q.g1.rel2 (r := renOf imps) (b := pre.length) (by unfold renOf; rw [i1]; rfl)
    obtain ⟨a2, c2, r2, l2⟩ := q.g2.rel2 (r := renOf imps) (b := pre.length + 1) (by unfold renOf; rw [i2]; rfl)
    obtain ⟨a3, c3, r3, l3⟩ := q.g3.rel2 (r := renOf imps) (b := pre.length + 2) (by unfold renOf; rw [i3]; rfl)
    refine ⟨⟨a1, h.bs.length, c1, a2, h.cs.length, c2, a3, h.ts.length, c3, h.bs, h.cs, h.ts⟩ :: hs, by simp [e1], ?_, fun H hH x hx => ?_⟩
    · show LR (renOf imps) (.slice a1 h.bs.length c1 :: .slice a2 h.cs.length c2 :: .slice a3 h.ts.length c3 :: hrc hs) (h.s1 :: h.s2 :: h.s3 :: L.flatMap HV.f)
      exact .cons r1 (.cons r2 (.cons r3 e2))
    · simp only [List.mem_cons] at hx
      rcases hx with rfl | hx
      · obtain ⟨b1, d1⟩ := hH _ _ i1
        obtain ⟨b2, d2⟩ := hH _ _ i2
        obtain ⟨b3, d3⟩ := hH _ _ i3
        exact ⟨l1 H b1 d1, l2 H b2 d2, l3 H b3 d3, rfl, rfl, rfl⟩
      · exact e3 H hH x hx
/-- A list of hours, as it is given. -/
structure HL (w : World) (v : Value) (L : List HV) : Prop where
  q : ∀ h ∈ L, h.Q w
  v : ((v = .slice none 0 0 ∨ ∃ a', v = .slice (some a') 0 0) ∧ L = []) ∨ ∃ blk off cap, v = .slice (some ⟨blk, off, none⟩) L.length cap ∧ L.length ≤ cap ∧ ∀ (i : Nat) u, (L.flatMap HV.f)[i]? = some u → w.cell? ⟨blk, off + i, none⟩ = some u
end Go.Ax

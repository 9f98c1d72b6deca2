import Derived.Test.YtkdgngdnmgelnaaMc
import Derived.Test.YtkdgngdnmgelnaaAxW9
import Derived.Test.YtkdgngdnmgelnaaChecked
import Derived.Test.YtkdgngdnmgelnaaAxO
import Derived.Deep.Slices
import Derived.Deep.Fields
import Derived.ChangeSame
set_option linter.all false
/-
  Flood: the document's times (41), errors (40), Times (17), Through (19) (written by program).
-/
namespace Go.Ax
open Go Go.RowKit Go.Proofs

/-- what leaked ahead of the k-th bed -/
def Fh.lb (g : Fh) (o : List Nat) : Nat → Int × Int
  | 0 => (0, 0)
  | k + 1 => ((g.st o k).l1, (g.st o k).l2)
theorem Fh.lb_st (g : Fh) (o : List Nat) : ∀ k, (g.st o k).l1 = (g.lb o k).1 + g.k1 (o.getD k 0) ∧ (g.st o k).l2 = (g.lb o k).2 + g.k2 (o.getD k 0)
  | 0 => ⟨rfl, rfl⟩
  | _ + 1 => ⟨rfl, rfl⟩
theorem Fh.st_d (g : Fh) (o : List Nat) : ∀ k, (g.st o k).d1 = (g.st o k).f1 + (g.W (o.getD k 0)).1 ∧ (g.st o k).d2 = (g.st o k).f2 + (g.W (o.getD k 0)).2
  | 0 => ⟨rfl, rfl⟩
  | _ + 1 => ⟨rfl, rfl⟩
theorem Fh.st_r (g : Fh) (o : List Nat) : ∀ k, (g.st o k).r1 = g.need (o.getD k 0) - g.k2 (o.getD k 0) ∧ (g.st o k).r2 = g.need (o.getD k 0) - g.k1 (o.getD k 0)
  | 0 => ⟨rfl, rfl⟩
  | _ + 1 => ⟨rfl, rfl⟩
def bkv : Value → Option Nat
  | .slice (some ⟨b, _, _⟩) _ _ => some b
  | _ => none
theorem heap_append_out {P : Program} {lo : Nat} {H : Hp} {t0 t1 e ep : TypeId} {size k cap2 f : Nat} {a : Option Addr} {v : Value} {cs news : List Value} (he : sliceElem P t0 = some (e, size)) (ht : P.underlying t1 = some (.slice ep))
    (hs : Sl H a 1 cap2 news) (hl : news.length = 1 * size) (hz : 0 < size) (hone : news.all one = true) (hcl : cs.length = k * size) (hk : k < 1000) (ha : Acc lo f e H v k cs) (hlo : lo ≤ H.next) (hf : f ≤ H.next) :
    ∃ H1 kd, (∀ (n : Nat) (S : Rg) (d : Option Tmp) (x y : Operand) (ty : TypeId) (p : String), evS S x = some v → evS S y = some (.slice a 1 cap2) → heapOp P lo (frS n S) H ⟨d, .call ⟨.builtin .append, #[x, y], #[t0, t1]⟩, ty, p, #[], none⟩ = some (.val (.slice (some ⟨H.next, 0, none⟩) (k + 1) (k + 1)) H1, kd)) ∧ (kd = .heavy ∨ ∃ b, kd = .store b ∧ f ≤ b) ∧
      Acc lo f e H1 (.slice (some ⟨H.next, 0, none⟩) (k + 1) (k + 1)) (k + 1) (cs ++ news) ∧ Keep H H1 (bkv v).toList := by
  rcases ha with ⟨rfl, rfl, rfl⟩ | ⟨b, rfl, h0, hb, hlb, hn, hg⟩
  · refine ⟨H.new (.cells news e true), .heavy, ?_, .inl rfl, ?_, (new_facts rfl).1.mono (by simp)⟩
    · intro n S d x y ty p hx hy
      unfold heapOp
      simp only [evs, ev_frS, hx, hy, builtinV, List.getElem?_toArray, List.getElem?_cons_zero, List.getElem?_cons_succ, he, ht, src_of hs hl, appendV]
      rfl
    · refine .inr ⟨H.next, rfl, by omega, hf, hlo, Nat.lt_succ_self _, ?_⟩
      show (H.t.set H.next _).get H.next = _
      rw [Tr.get_set, if_pos rfl]; rfl
  · have h1 : Nat.ble (0 + (k + 1) * size) cs.length = false := by
      cases h : Nat.ble (0 + (k + 1) * size) cs.length with
      | false => rfl
      | true => have := Nat.le_of_ble_eq_true h; rw [hcl, Nat.succ_mul] at this; omega
    have h2 : Nat.beq (0 + k * size) cs.length = true := by rw [hcl, Nat.zero_add]; exact Nat.beq_refl _
    have h3 : Nat.ble (k + 1) 1048576 = true := Nat.ble_eq_true_of_le (by omega)
    have h4 : Nat.beq e e = true := Nat.beq_refl e
    refine ⟨({ H with t := H.t.set b .dead } : Hp).new (.cells (cs ++ news) e true), .store b, ?_, .inr ⟨b, rfl, hb⟩, ?_, ?_⟩
    · intro n S d x y ty p hx hy
      unfold heapOp
      simp only [evs, ev_frS, hx, hy, builtinV, List.getElem?_toArray, List.getElem?_cons_zero, List.getElem?_cons_succ, he, ht, src_of hs hl, appendV, hg, h1, h2, h3, h4, hone, Nat.ble_eq_true_of_le hlb, Bool.and_self, cond_true, cond_false, List.drop_zero, show Nat.beq 1 0 = false from rfl]
    · refine .inr ⟨H.next, rfl, by omega, hf, hlo, Nat.lt_succ_self _, ?_⟩
      show ((H.t.set b .dead).set H.next _).get H.next = _
      rw [Tr.get_set, if_pos rfl]
    · refine ⟨Nat.le_succ _, fun c hc hn => ?_⟩
      have hne : c ≠ b := by simpa [bkv] using hn
      show ((H.t.set b .dead).set H.next _).get c = _
      rw [Tr.get_set, if_neg (by omega), Tr.get_set, if_neg hne]
theorem bkv_in {lo f : Nat} {e : TypeId} {H : Hp} {v : Value} {n : Nat} {cs : List Value} (h : Acc lo f e H v n cs) : ∀ x ∈ (bkv v).toList, f ≤ x ∧ x < H.next := by
  intro x hx
  rcases h with ⟨_, _, rfl⟩ | ⟨b, rfl, _, h2, _, h3, _⟩
  · simp [bkv] at hx
  · simp [bkv] at hx; subst hx; exact ⟨h2, h3⟩
theorem Acc.keepX {lo f : Nat} {e : TypeId} {H H1 : Hp} {b0 n m x : Nat} {cs : List Value} (h : Acc lo f e H (.slice (some ⟨b0, 0, none⟩) m m) n cs) (k : Keep H H1 [x]) (hx : b0 ≠ x) : Acc lo f e H1 (.slice (some ⟨b0, 0, none⟩) m m) n cs := by
  rcases h with ⟨_, _, q⟩ | ⟨b, q, h0, h2, h3, h4, h5⟩
  · cases q
  · cases q
    exact .inr ⟨b0, rfl, h0, h2, h3, Nat.lt_of_lt_of_le h4 k.1, by rw [k.2 b0 h4 (by simp; omega)]; exact h5⟩
theorem Acc.lt {lo f : Nat} {e : TypeId} {H : Hp} {b0 n m : Nat} {cs : List Value} (h : Acc lo f e H (.slice (some ⟨b0, 0, none⟩) m m) n cs) : b0 < H.next := by
  rcases h with ⟨_, _, q⟩ | ⟨b, q, h0, h2, h3, h4, h5⟩
  · cases q
  · cases q; exact h4
theorem u_eq {g : Fh} {o : List Nat} {i bi : Nat} (e : o.getD i 0 = bi) : (g.st o i).u = [iv (g.st o i).t1, iv (g.st o i).t2, iv ((g.lb o i).1 + min (g.B bi).need ((g.W bi).1 * (g.B bi).l1)), iv ((g.lb o i).2 + min (g.B bi).need ((g.W bi).2 * (g.B bi).l2)), iv (g.st o i).s1, iv (g.st o i).s2,
    iv ((g.B bi).need - min (g.B bi).need ((g.W bi).2 * (g.B bi).l2)), iv ((g.B bi).need - min (g.B bi).need ((g.W bi).1 * (g.B bi).l1))] := by
  subst e
  show [iv (g.st o i).t1, iv (g.st o i).t2, iv (g.st o i).l1, iv (g.st o i).l2, iv (g.st o i).s1, iv (g.st o i).s2, iv (g.st o i).r1, iv (g.st o i).r2] = _
  rw [(Fh.lb_st g o i).1, (Fh.lb_st g o i).2, (Fh.st_r g o i).1, (Fh.st_r g o i).2]; rfl
theorem nx_eq {g : Fh} {o : List Nat} {i bi bj : Nat} (e : o.getD i 0 = bi) (e2 : o.getD (i + 1) 0 = bj) :
    (g.st o (i + 1)).t1 = (g.st o i).t1 + max 0 ((g.B bj).need - ((g.B bi).need - min (g.B bi).need ((g.W bi).1 * (g.B bi).l1))) ∧ (g.st o (i + 1)).t2 = (g.st o i).t2 + max 0 ((g.B bj).need - ((g.B bi).need - min (g.B bi).need ((g.W bi).2 * (g.B bi).l2))) ∧
    (g.st o (i + 1)).s1 = (g.st o i).s1 + max 0 (((g.B bi).need - min (g.B bi).need ((g.W bi).2 * (g.B bi).l2)) - (g.B bj).need) ∧ (g.st o (i + 1)).s2 = (g.st o i).s2 + max 0 (((g.B bi).need - min (g.B bi).need ((g.W bi).1 * (g.B bi).l1)) - (g.B bj).need) ∧
    (g.st o (i + 1)).f1 = (g.st o i).f1 + (g.W bi).1 + upq (g.B bj).need (g.rate bi bj) ∧ (g.st o (i + 1)).f2 = (g.st o i).f2 + (g.W bi).2 + upq (g.B bj).need (g.rate bi bj) ∧
    (g.lb o (i + 1)).1 = (g.lb o i).1 + min (g.B bi).need ((g.W bi).1 * (g.B bi).l1) ∧ (g.lb o (i + 1)).2 = (g.lb o i).2 + min (g.B bi).need ((g.W bi).2 * (g.B bi).l2) := by
  subst e; subst e2
  refine ⟨?_, ?_, ?_, ?_, ?_, ?_, (Fh.lb_st g o i).1, (Fh.lb_st g o i).2⟩
  · show (g.st o i).t1 + max 0 (_ - (g.st o i).r2) = _; rw [(Fh.st_r g o i).2]; rfl
  · show (g.st o i).t2 + max 0 (_ - (g.st o i).r1) = _; rw [(Fh.st_r g o i).1]; rfl
  · show (g.st o i).s1 + max 0 ((g.st o i).r1 - _) = _; rw [(Fh.st_r g o i).1]; rfl
  · show (g.st o i).s2 + max 0 ((g.st o i).r2 - _) = _; rw [(Fh.st_r g o i).2]; rfl
  · show (g.st o i).d1 + upq _ (g.rate (g.st o i).bed _) = _; rw [(Fh.st_d g o i).1, Fh.st_bed]; rfl
  · show (g.st o i).d2 + upq _ (g.rate (g.st o i).bed _) = _; rw [(Fh.st_d g o i).2, Fh.st_bed]; rfl
theorem c_eq {g : Fh} {o : List Nat} {i bi : Nat} (e : o.getD i 0 = bi) : (g.st o i).c = [iv (bi : Int), iv (g.st o i).f1, iv (g.st o i).f2, iv ((g.st o i).f1 + (g.W bi).1), iv ((g.st o i).f2 + (g.W bi).2)] := by
  subst e
  show [iv ((g.st o i).bed : Int), iv (g.st o i).f1, iv (g.st o i).f2, iv (g.st o i).d1, iv (g.st o i).d2] = _
  rw [Fh.st_bed, (Fh.st_d g o i).1, (Fh.st_d g o i).2]
theorem flc_app (l : List Fs) (x : Fs) : flc (l ++ [x]) = flc l ++ x.c := by unfold flc; rw [List.flatMap_append]; simp
theorem lb_in {g : Fh} {o : List Nat} (hst : ∀ k, k < g.bn → g.can o k = true → (g.st o k).In ((k : Int) + 1)) : ∀ i, i < g.bn → g.can o i = true → (0 ≤ (g.lb o i).1 ∧ (g.lb o i).1 ≤ (i : Int) * 70000000000) ∧ 0 ≤ (g.lb o i).2 ∧ (g.lb o i).2 ≤ (i : Int) * 70000000000
  | 0, _, _ => by simp [Fh.lb]
  | k + 1, h, hc => by
    rw [Fh.can_step, Bool.and_eq_true] at hc
    have q := hst k (by omega) hc.1
    have q1 := q.l1; have q2 := q.l2
    show (0 ≤ (g.st o k).l1 ∧ (g.st o k).l1 ≤ _) ∧ 0 ≤ (g.st o k).l2 ∧ (g.st o k).l2 ≤ _
    omega
theorem can_false {g : Fh} {o : List Nat} {j n : Nat} (hj : j < n) (hr : g.rate (o.getD j 0) (o.getD (j + 1) 0) = 0) : g.can o n = false := by
  unfold Fh.can
  rw [List.all_eq_false]
  exact ⟨j, List.mem_range.2 hj, fun e => absurd hr (of_decide_eq_true e)⟩
section
variable {kn : FuncId → Option Bool} {lo : Nat} {H : Hp}
set_option maxRecDepth 100000 in
set_option maxHeartbeats 4000000 in
theorem times_ok {g : Fh} {f sb cap : Nat} {us : List Int} {o : List Nat} (hat : g.At f H) (v : g.Vd) (hor : IsOrd us g.bn) (eo : o = no us) (rs : Rd H sb (ints us)) (hlo : lo ≤ H.next) :
    ∃ w H', FnX Try.prog kn lo 41 [.agg g.v.toArray, slv sb g.bn cap] H w H' ∧ Keep H H' [] ∧ ((g.can o (g.bn - 1) = true ∧ ∃ la lc, w = .tuple #[.slice la g.bn lc, .agg (g.st o (g.bn - 1)).u.toArray, .bool true] ∧ Sl H' la g.bn lc (flc (g.fs o g.bn)) ∧ ∀ x, la = some ⟨x, 0, none⟩ → H.next ≤ x) ∨ (g.can o (g.bn - 1) = false ∧ w = .tuple #[.slice none 0 0, .agg Fs.z.u.toArray, .bool false])) := by
  refine fnX_low (kn := kn) (lo := lo) (H := H) (args := [.agg g.v.toArray, slv sb g.bn cap]) (Q := fun w H' => Keep H H' [] ∧ ((g.can o (g.bn - 1) = true ∧ ∃ la lc, w = .tuple #[.slice la g.bn lc, .agg (g.st o (g.bn - 1)).u.toArray, .bool true] ∧ Sl H' la g.bn lc (flc (g.fs o g.bn)) ∧ ∀ x, la = some ⟨x, 0, none⟩ → H.next ≤ x) ∨ (g.can o (g.bn - 1) = false ∧ w = .tuple #[.slice none 0 0, .agg Fs.z.u.toArray, .bool false]))) Try.func41 B41 N41 Z41 L41 (by simp) ?_
  have ho : ∀ {k : Nat}, k < g.bn → us[k]? = some ((o.getD k 0 : Nat) : Int) ∧ o.getD k 0 < g.bn := fun hk => by subst eo; exact hor.at hk
  have hk := Keep.refl H []
  have hfl := hat.le; have hbn := v.n; have hrn2 := v.rn; have hinl := v.inl; have lsb := rs.lt
  have hst : ∀ k, k < g.bn → g.can o k = true → (g.st o k).In ((k : Int) + 1) := fun k h1 h2 => by subst eo; exact Fh.st_in v hat hor k h1 h2
  have b0 := Fh.bd v hat (ho (show 0 < g.bn by omega)).2
  obtain ⟨p1, p2⟩ := b0.need
  have pnd : g.need (o.getD 0 0) = (g.B (o.getD 0 0)).need := rfl
  have hup0 := upq_in (a := (g.B (o.getD 0 0)).need) (b := g.inlet) ⟨by omega, by omega⟩ hinl.1
  obtain ⟨xb, eb, rb, lb⟩ := hat.bog (by omega)
  obtain ⟨xr, er, rr, lr⟩ := hat.rts (by omega)
  refine wN_seq ?_
  refine wN_box (v := .agg g.v.toArray) rfl ?_
  intro H1 kH1 nH1 c1
  have c1 : Cl H1 H.next [.slice g.ba g.bn g.bcap, .slice g.ra g.rn g.rcap, iv g.inlet, iv g.reserve, iv g.winds] := c1
  have mH1 := kH1.1
  have hk := hk.trans kH1
  have hat := hat.keep kH1 (by simp)
  have rs := kH1.rd rs (by simp)
  have rb := kH1.rd rb (by simp)
  have rr := kH1.rd rr (by simp)
  refine wN_mov (v := .slice none 0 0) rfl ?_
  refine wN_alc ?_
  intro H2 kH2 nH2 c2
  have c2 : Cl H2 H1.next [iv 0, iv 0, iv 0, iv 0, iv 0, iv 0, iv 0, iv 0] := c2
  have mH2 := kH2.1
  have hk := hk.trans kH2
  have hat := hat.keep kH2 (by simp)
  have rs := kH2.rd rs (by simp)
  have rb := kH2.rd rb (by simp)
  have rr := kH2.rd rr (by simp)
  have c1 := kH2.cl c1 (by simp)
  refine wN_mov (v := .bool false) rfl ?_
  refine wN_end ?_
  refine wN_seq ?_
  refine wN_mov (v := .slice none 0 0) rfl ?_
  refine wN_end ?_
  refine wD_seq ?_
  refine wD_addo (b := H.next) (o := 0) rfl ?_
  refine wD_ld (b := H.next) (o := 0) (v := .slice (some ⟨xb, 0, none⟩) g.bn g.bcap) rfl c1.rd (show _ = some (Value.slice (some ⟨xb, 0, none⟩) g.bn g.bcap) from by rw [← eb]; rfl) ?_
  refine wD_mov (v := .slice (some ⟨sb, 0, none⟩) g.bn cap) rfl ?_
  refine wD_idx (b := sb) (o := 0) (k := 0) (j := 0) rfl rfl (by decide) (by omega) ?_
  refine wD_ld (b := sb) (o := 0 + 0 * 1) (v := iv ((o.getD 0 0 : Nat) : Int)) rfl rs (ints_at (ho (show 0 < g.bn by omega)).1) ?_
  refine wD_idx (b := xb) (o := 0) (k := (o.getD 0 0)) (j := ((o.getD 0 0 : Nat) : Int)) rfl rfl rfl (ho (by omega)).2 ?_
  refine wD_lda (b := xb) (o := 0 + (o.getD 0 0) * 4) rfl rb (bgc_row (getB (g := g) (i := (o.getD 0 0)) (by rw [hat.bl]; exact (ho (by omega)).2))) ?_
  refine wD_alc ?_
  intro H3 kH3 nH3 c3
  have c3 : Cl H3 H2.next [iv 0, iv 0, iv 0, .slice none 0 0] := c3
  have mH3 := kH3.1
  have hk := hk.trans kH3
  have hat := hat.keep kH3 (by simp)
  have rs := kH3.rd rs (by simp)
  have rb := kH3.rd rb (by simp)
  have rr := kH3.rd rr (by simp)
  have c1 := kH3.cl c1 (by simp)
  have c2 := kH3.cl c2 (by simp)
  refine wD_sta (b := H2.next) (o := 0) rfl rfl c3 (by omega) rfl rfl (by simp) ?_
  intro H4 kH4 nH4 sH4
  have mH4 := kH4.1
  have hk := hk.new kH4 (fun b hb => by simp at hb ⊢; omega)
  have hat := hat.keep kH4 (fun x hx => by first | (simp at hx; done) | (simp at hx; omega))
  have rs := kH4.rd rs (by first | (simp; done) | (simp; omega))
  have rb := kH4.rd rb (by first | (simp; done) | (simp; omega))
  have rr := kH4.rd rr (by first | (simp; done) | (simp; omega))
  have c1 := kH4.cl c1 (by first | (simp; done) | (simp; omega))
  have c2 := kH4.cl c2 (by first | (simp; done) | (simp; omega))
  have c3 : Cl H4 H2.next [iv ((g.B (o.getD 0 0)).need), iv ((g.B (o.getD 0 0)).l1), iv ((g.B (o.getD 0 0)).l2), .slice ((g.B (o.getD 0 0)).wa) ((g.B (o.getD 0 0)).wn) ((g.B (o.getD 0 0)).wcap)] := sH4
  refine wD_end (by repeat' first | exact True.intro | exact (fun h => h) | refine And.intro ?_ ?_ | (intro h; have h : (_ : Nat) = _ := h; omega)) ?_
  refine wN_seq ?_
  refine wN_addo (b := H2.next) (o := 0) rfl ?_
  refine wN_ld (b := H2.next) (o := 0) (v := iv ((g.B (o.getD 0 0)).need)) rfl c3.rd rfl ?_
  obtain ⟨H5, fH5, kH5⟩ := one54_ok (kn := kn) (lo := lo) (H := H4) (a := (g.B (o.getD 0 0)).need) (by omega)
  refine wN_callf (vs := [iv ((g.B (o.getD 0 0)).need)]) rfl (callX_args fH5) ?_
  have mH5 := kH5.1
  have hk := hk.trans kH5
  have hat := hat.keep kH5 (by simp)
  have rs := kH5.rd rs (by simp)
  have rb := kH5.rd rb (by simp)
  have rr := kH5.rd rr (by simp)
  have c1 := kH5.cl c1 (by simp)
  have c2 := kH5.cl c2 (by simp)
  have c3 := kH5.cl c3 (by simp)
  refine wN_pur (v := .agg #[iv ((g.B (o.getD 0 0)).need), iv ((g.B (o.getD 0 0)).need), iv 0, iv 0, iv 0, iv 0, iv 0, iv 0]) rfl (by kernel_rfl) ?_
  refine wN_alc ?_
  intro H6 kH6 nH6 c6
  have c6 : Cl H6 H5.next [iv 0, iv 0, iv 0, iv 0, iv 0, iv 0, iv 0, iv 0] := c6
  have mH6 := kH6.1
  have hk := hk.trans kH6
  have hat := hat.keep kH6 (by simp)
  have rs := kH6.rd rs (by simp)
  have rb := kH6.rd rb (by simp)
  have rr := kH6.rd rr (by simp)
  have c1 := kH6.cl c1 (by simp)
  have c2 := kH6.cl c2 (by simp)
  have c3 := kH6.cl c3 (by simp)
  refine wN_sta (b := H5.next) (o := 0) rfl rfl c6 (by omega) rfl rfl (by simp) ?_
  intro H7 kH7 nH7 sH7
  have mH7 := kH7.1
  have hk := hk.new kH7 (fun b hb => by simp at hb ⊢; omega)
  have hat := hat.keep kH7 (fun x hx => by first | (simp at hx; done) | (simp at hx; omega))
  have rs := kH7.rd rs (by first | (simp; done) | (simp; omega))
  have rb := kH7.rd rb (by first | (simp; done) | (simp; omega))
  have rr := kH7.rd rr (by first | (simp; done) | (simp; omega))
  have c1 := kH7.cl c1 (by first | (simp; done) | (simp; omega))
  have c2 := kH7.cl c2 (by first | (simp; done) | (simp; omega))
  have c3 := kH7.cl c3 (by first | (simp; done) | (simp; omega))
  have c6 : Cl H7 H5.next [iv ((g.B (o.getD 0 0)).need), iv ((g.B (o.getD 0 0)).need), iv 0, iv 0, iv 0, iv 0, iv 0, iv 0] := sH7
  refine wN_end ?_
  refine wN_seq ?_
  refine wN_addo (b := H2.next) (o := 0) rfl ?_
  refine wN_ld (b := H2.next) (o := 0) (v := iv ((g.B (o.getD 0 0)).need)) rfl c3.rd rfl ?_
  refine wN_addo (b := H.next) (o := 0) rfl ?_
  refine wN_ld (b := H.next) (o := 2) (v := iv g.inlet) rfl c1.rd rfl ?_
  obtain ⟨H8, fH8, kH8⟩ := up55_ok (kn := kn) (lo := lo) (H := H7) (a := (g.B (o.getD 0 0)).need) (b := g.inlet) (by omega) (by omega)
  refine wN_callf (vs := [iv ((g.B (o.getD 0 0)).need), iv g.inlet]) rfl (callX_args fH8) ?_
  have mH8 := kH8.1
  have hk := hk.trans kH8
  have hat := hat.keep kH8 (by simp)
  have rs := kH8.rd rs (by simp)
  have rb := kH8.rd rb (by simp)
  have rr := kH8.rd rr (by simp)
  have c1 := kH8.cl c1 (by simp)
  have c2 := kH8.cl c2 (by simp)
  have c3 := kH8.cl c3 (by simp)
  have c6 := kH8.cl c6 (by simp)
  obtain ⟨H9, fH9, kH9⟩ := one54_ok (kn := kn) (lo := lo) (H := H8) (a := upq ((g.B (o.getD 0 0)).need) g.inlet) (by omega)
  refine wN_callf (vs := [iv (upq ((g.B (o.getD 0 0)).need) g.inlet)]) rfl (callX_args fH9) ?_
  have mH9 := kH9.1
  have hk := hk.trans kH9
  have hat := hat.keep kH9 (by simp)
  have rs := kH9.rd rs (by simp)
  have rb := kH9.rd rb (by simp)
  have rr := kH9.rd rr (by simp)
  have c1 := kH9.cl c1 (by simp)
  have c2 := kH9.cl c2 (by simp)
  have c3 := kH9.cl c3 (by simp)
  have c6 := kH9.cl c6 (by simp)
  refine wN_alc ?_
  intro H10 kH10 nH10 c10
  have c10 : Cl H10 H9.next [iv 0, iv 0] := c10
  have mH10 := kH10.1
  have hk := hk.trans kH10
  have hat := hat.keep kH10 (by simp)
  have rs := kH10.rd rs (by simp)
  have rb := kH10.rd rb (by simp)
  have rr := kH10.rd rr (by simp)
  have c1 := kH10.cl c1 (by simp)
  have c2 := kH10.cl c2 (by simp)
  have c3 := kH10.cl c3 (by simp)
  have c6 := kH10.cl c6 (by simp)
  refine wN_sta (b := H9.next) (o := 0) rfl rfl c10 (by omega) rfl rfl (by simp) ?_
  intro H11 kH11 nH11 sH11
  have mH11 := kH11.1
  have hk := hk.new kH11 (fun b hb => by simp at hb ⊢; omega)
  have hat := hat.keep kH11 (fun x hx => by first | (simp at hx; done) | (simp at hx; omega))
  have rs := kH11.rd rs (by first | (simp; done) | (simp; omega))
  have rb := kH11.rd rb (by first | (simp; done) | (simp; omega))
  have rr := kH11.rd rr (by first | (simp; done) | (simp; omega))
  have c1 := kH11.cl c1 (by first | (simp; done) | (simp; omega))
  have c2 := kH11.cl c2 (by first | (simp; done) | (simp; omega))
  have c3 := kH11.cl c3 (by first | (simp; done) | (simp; omega))
  have c6 := kH11.cl c6 (by first | (simp; done) | (simp; omega))
  have c10 : Cl H11 H9.next [iv (upq ((g.B (o.getD 0 0)).need) g.inlet), iv (upq ((g.B (o.getD 0 0)).need) g.inlet)] := sH11
  refine wN_end ?_
  refine wN_seq ?_
  refine wN_mov (v := iv 0) rfl ?_
  refine wN_end ?_
  obtain ⟨z2, hz2⟩ : ∃ z, z = H.next := ⟨_, rfl⟩
  obtain ⟨z5, hz5⟩ : ∃ z, z = H1.next := ⟨_, rfl⟩
  obtain ⟨z9, hz9⟩ : ∃ z, z = H5.next := ⟨_, rfl⟩
  obtain ⟨z10, hz10⟩ : ∃ z, z = H9.next := ⟨_, rfl⟩
  obtain ⟨ff, hff⟩ : ∃ z, z = H11.next := ⟨_, rfl⟩
  have b36 : z2 < z5 ∧ z5 < z9 ∧ z9 < z10 ∧ z10 < ff ∧ H.next ≤ z2 := by omega
  rw [← hz2] at c1
  rw [← hz5] at c2
  rw [← hz9] at c6
  rw [← hz10] at c10
  rw [← hz2, ← hz5, ← hz9, ← hz10]
  have hfm : ff ≤ H11.next := by omega
  clear hz2 hz5 hz9 hz10 hff
  have c10 : Cl H11 z10 [iv (g.st o 0).f1, iv (g.st o 0).f2] := by have e : (g.st o 0).f1 = upq (g.B (o.getD 0 0)).need g.inlet := Int.zero_add _; have e2 : (g.st o 0).f2 = upq (g.B (o.getD 0 0)).need g.inlet := Int.zero_add _; rw [e, e2]; exact c10
  have c6 : Cl H11 z9 [iv ((g.st o 0).t1), iv ((g.st o 0).t2), iv ((g.lb o 0).1), iv ((g.lb o 0).2), iv ((g.st o 0).s1), iv ((g.st o 0).s2), iv 0, iv 0] := c6
  refine loop_low (fn := Try.f41) E41_1 N41 L41x1 (fun x0 : Value × Nat => [(1, .slice (some ⟨sb, 0, none⟩) g.bn cap), (2, pt z2), (5, pt z5), (7, x0.1), (9, pt z9), (10, pt z10), (11, iv (x0.2 : Int))])
    (fun q x0 H' => x0.2 + q = g.bn ∧ x0.2 < g.bn ∧ Keep H H' [] ∧ g.At f H' ∧ Rd H' sb (ints us) ∧ Rd H' xb (bgc g.bs) ∧ Rd H' xr (rwc g.rs) ∧ Cl H' z2 [.slice g.ba g.bn g.bcap, .slice g.ra g.rn g.rcap, iv g.inlet, iv g.reserve, iv g.winds] ∧ Cl H' z5 Fs.z.u ∧ Cl H' z9 [iv ((g.st o x0.2).t1), iv ((g.st o x0.2).t2), iv ((g.lb o x0.2).1), iv ((g.lb o x0.2).2), iv ((g.st o x0.2).s1), iv ((g.st o x0.2).s2), iv 0, iv 0] ∧ Cl H' z10 [iv (g.st o x0.2).f1, iv (g.st o x0.2).f2] ∧ Acc lo ff 52 H' x0.1 x0.2 (flc (g.fs o x0.2)) ∧ ff ≤ H'.next ∧ g.can o x0.2 = true) g.bn (.slice none 0 0, 0) ⟨by show 0 + g.bn = g.bn; omega, by show 0 < g.bn; omega, hk, hat, rs, rb, rr, c1, c2, c6, c10, .inl ⟨rfl, rfl, rfl⟩, hfm, rfl⟩ ⟨rfl, rfl, rfl, rfl, rfl, rfl, rfl, trivial⟩ ?_
  rintro q ⟨wv, i⟩ L1 ⟨hik, hin2, hk, hat, rs, rb, rr, c2, c5, c9, c10, hacc, hfl2, hcan⟩
  simp only at hik hacc
  have hm := hk.1
  have kacc := Keep.refl L1 []
  obtain ⟨bi, ebi⟩ : ∃ z, o.getD i 0 = z := ⟨_, rfl⟩
  have hoi := (ho (show i < g.bn by omega)).2
  rw [ebi] at hoi
  have hui := (ho (show i < g.bn by omega)).1
  rw [ebi] at hui
  have bd := Fh.bd v hat hoi
  have nb : 1 ≤ (g.B bi).need ∧ (g.B bi).need ≤ 68719476736 := bd.need
  have hin := (hst i (by omega) hcan).mono (show (i : Int) + 1 ≤ 7 by omega)
  have hlbi := lb_in hst i hin2 hcan
  refine wN_seq ?_
  refine wN_mov (v := iv (i : Int)) rfl ?_
  refine wN_mov (v := .slice (some ⟨sb, 0, none⟩) g.bn cap) rfl ?_
  refine wN_len (m := g.bn) rfl ?_
  refine wN_c_lss (a := (i : Int)) (b := (g.bn : Int)) rfl rfl ?_
  refine wN_end ?_
  refine And.intro (fun q1 => ?_) (fun q1 => ?_)
  · have q1 : (i : Int) < (g.bn : Int) := of_decide_eq_true q1
    refine wN_seq ?_
    refine wN_mov (v := .slice (some ⟨sb, 0, none⟩) g.bn cap) rfl ?_
    refine wN_mov (v := iv (i : Int)) rfl ?_
    refine wN_idx (b := sb) (o := 0) (k := i) (j := (i : Int)) rfl rfl rfl hin2 ?_
    refine wN_ld (b := sb) (o := 0 + i * 1) (v := iv (bi : Int)) rfl rs (ints_at hui) ?_
    refine wN_mov (v := iv (bi : Int)) rfl ?_
    refine wN_end ?_
    refine wN_seq ?_
    refine wN_addo (b := z2) (o := 0) rfl ?_
    refine wN_ld (b := z2) (o := 0) (v := .slice (some ⟨xb, 0, none⟩) g.bn g.bcap) rfl c2.rd (show _ = some (Value.slice (some ⟨xb, 0, none⟩) g.bn g.bcap) from by rw [← eb]; rfl) ?_
    refine wN_mov (v := iv (bi : Int)) rfl ?_
    refine wN_idx (b := xb) (o := 0) (k := bi) (j := (bi : Int)) rfl rfl rfl hoi ?_
    refine wN_lda (b := xb) (o := 0 + bi * 4) rfl rb (bgc_row (getB (g := g) (i := bi) (by rw [hat.bl]; omega))) ?_
    refine wN_alc ?_
    intro H12 kH12 nH12 c12
    have c12 : Cl H12 L1.next [iv 0, iv 0, iv 0, .slice none 0 0] := c12
    have mH12 := kH12.1
    have hk := hk.trans kH12
    have hat := hat.keep kH12 (by simp)
    have rs := kH12.rd rs (by simp)
    have rb := kH12.rd rb (by simp)
    have rr := kH12.rd rr (by simp)
    have c2 := kH12.cl c2 (by simp)
    have c5 := kH12.cl c5 (by simp)
    have c9 := kH12.cl c9 (by simp)
    have c10 := kH12.cl c10 (by simp)
    have kacc := kacc.trans kH12
    refine wN_sta (b := L1.next) (o := 0) rfl rfl c12 (by omega) rfl rfl (by simp) ?_
    intro H13 kH13 nH13 sH13
    have mH13 := kH13.1
    have hk := hk.new kH13 (fun b hb => by simp at hb ⊢; omega)
    have hat := hat.keep kH13 (fun x hx => by first | (simp at hx; done) | (simp at hx; omega))
    have rs := kH13.rd rs (by first | (simp; done) | (simp; omega))
    have rb := kH13.rd rb (by first | (simp; done) | (simp; omega))
    have rr := kH13.rd rr (by first | (simp; done) | (simp; omega))
    have c2 := kH13.cl c2 (by first | (simp; done) | (simp; omega))
    have c5 := kH13.cl c5 (by first | (simp; done) | (simp; omega))
    have c9 := kH13.cl c9 (by first | (simp; done) | (simp; omega))
    have c10 := kH13.cl c10 (by first | (simp; done) | (simp; omega))
    have kacc := kacc.new kH13 (fun b hb => by simp at hb ⊢; omega)
    have c12 : Cl H13 L1.next [iv ((g.B bi).need), iv ((g.B bi).l1), iv ((g.B bi).l2), .slice ((g.B bi).wa) ((g.B bi).wn) ((g.B bi).wcap)] := sH13
    refine wN_end ?_
    refine wN_seq ?_
    refine wN_lda (b := z2) (o := 0) rfl c2.rd (show row 5 _ _ = some [.slice g.ba g.bn g.bcap, .slice g.ra g.rn g.rcap, iv g.inlet, iv g.reserve, iv g.winds] from rfl) ?_
    refine wN_mov (v := iv (bi : Int)) rfl ?_
    obtain ⟨H14, fH14, kH14⟩ := WorkOf_ok (kn := kn) (lo := lo) (H := H13) (i := bi) hat v hoi rfl (by omega)
    refine wN_callf (vs := [.agg #[.slice g.ba g.bn g.bcap, .slice g.ra g.rn g.rcap, iv g.inlet, iv g.reserve, iv g.winds], iv (bi : Int)]) rfl (callX_args fH14) ?_
    have mH14 := kH14.1
    have hk := hk.trans kH14
    have hat := hat.keep kH14 (by simp)
    have rs := kH14.rd rs (by simp)
    have rb := kH14.rd rb (by simp)
    have rr := kH14.rd rr (by simp)
    have c2 := kH14.cl c2 (by simp)
    have c5 := kH14.cl c5 (by simp)
    have c9 := kH14.cl c9 (by simp)
    have c10 := kH14.cl c10 (by simp)
    have kacc := kacc.trans kH14
    have c12 := kH14.cl c12 (by simp)
    refine wN_alc ?_
    intro H15 kH15 nH15 c15
    have c15 : Cl H15 H14.next [iv 0, iv 0] := c15
    have mH15 := kH15.1
    have hk := hk.trans kH15
    have hat := hat.keep kH15 (by simp)
    have rs := kH15.rd rs (by simp)
    have rb := kH15.rd rb (by simp)
    have rr := kH15.rd rr (by simp)
    have c2 := kH15.cl c2 (by simp)
    have c5 := kH15.cl c5 (by simp)
    have c9 := kH15.cl c9 (by simp)
    have c10 := kH15.cl c10 (by simp)
    have kacc := kacc.trans kH15
    have c12 := kH15.cl c12 (by simp)
    refine wN_sta (b := H14.next) (o := 0) rfl rfl c15 (by omega) rfl rfl (by simp) ?_
    intro H16 kH16 nH16 sH16
    have mH16 := kH16.1
    have hk := hk.new kH16 (fun b hb => by simp at hb ⊢; omega)
    have hat := hat.keep kH16 (fun x hx => by first | (simp at hx; done) | (simp at hx; omega))
    have rs := kH16.rd rs (by first | (simp; done) | (simp; omega))
    have rb := kH16.rd rb (by first | (simp; done) | (simp; omega))
    have rr := kH16.rd rr (by first | (simp; done) | (simp; omega))
    have c2 := kH16.cl c2 (by first | (simp; done) | (simp; omega))
    have c5 := kH16.cl c5 (by first | (simp; done) | (simp; omega))
    have c9 := kH16.cl c9 (by first | (simp; done) | (simp; omega))
    have c10 := kH16.cl c10 (by first | (simp; done) | (simp; omega))
    have kacc := kacc.new kH16 (fun b hb => by simp at hb ⊢; omega)
    have c12 := kH16.cl c12 (by first | (simp; done) | (simp; omega))
    have c15 : Cl H16 H14.next [iv ((g.W bi).1), iv ((g.W bi).2)] := sH16
    refine wN_end ?_
    refine wN_seq ?_
    refine wN_lda (b := z10) (o := 0) rfl c10.rd (show row 2 _ _ = some [iv ((g.st o i).f1), iv ((g.st o i).f2)] from rfl) ?_
    refine wN_lda (b := H14.next) (o := 0) rfl c15.rd (show row 2 _ _ = some [iv ((g.W bi).1), iv ((g.W bi).2)] from rfl) ?_
    obtain ⟨H17, fH17, kH17⟩ := plus56_ok (kn := kn) (lo := lo) (H := H16) (a := (g.st o i).f1) (b := (g.st o i).f2) (c := (g.W bi).1) (d := (g.W bi).2) ⟨by (have z1 := hin.f1; have z2 := hin.f2; have z3 := hin.t1; have z4 := hin.t2; have z5 := hin.s1; have z6 := hin.s2; have y1 := bd.w1; have y2 := bd.w2; have y4 := bd.m1; have y5 := bd.m2; have y6 := nb; have y7 := hlbi; omega), by (have z1 := hin.f1; have z2 := hin.f2; have z3 := hin.t1; have z4 := hin.t2; have z5 := hin.s1; have z6 := hin.s2; have y1 := bd.w1; have y2 := bd.w2; have y4 := bd.m1; have y5 := bd.m2; have y6 := nb; have y7 := hlbi; omega), by (have z1 := hin.f1; have z2 := hin.f2; have z3 := hin.t1; have z4 := hin.t2; have z5 := hin.s1; have z6 := hin.s2; have y1 := bd.w1; have y2 := bd.w2; have y4 := bd.m1; have y5 := bd.m2; have y6 := nb; have y7 := hlbi; omega), by (have z1 := hin.f1; have z2 := hin.f2; have z3 := hin.t1; have z4 := hin.t2; have z5 := hin.s1; have z6 := hin.s2; have y1 := bd.w1; have y2 := bd.w2; have y4 := bd.m1; have y5 := bd.m2; have y6 := nb; have y7 := hlbi; omega)⟩ (by omega)
    refine wN_callf (vs := [.agg #[iv ((g.st o i).f1), iv ((g.st o i).f2)], .agg #[iv ((g.W bi).1), iv ((g.W bi).2)]]) rfl (callX_args fH17) ?_
    have mH17 := kH17.1
    have hk := hk.trans kH17
    have hat := hat.keep kH17 (by simp)
    have rs := kH17.rd rs (by simp)
    have rb := kH17.rd rb (by simp)
    have rr := kH17.rd rr (by simp)
    have c2 := kH17.cl c2 (by simp)
    have c5 := kH17.cl c5 (by simp)
    have c9 := kH17.cl c9 (by simp)
    have c10 := kH17.cl c10 (by simp)
    have kacc := kacc.trans kH17
    have c12 := kH17.cl c12 (by simp)
    have c15 := kH17.cl c15 (by simp)
    refine wN_alc ?_
    intro H18 kH18 nH18 c18
    have c18 : Cl H18 H17.next [iv 0, iv 0] := c18
    have mH18 := kH18.1
    have hk := hk.trans kH18
    have hat := hat.keep kH18 (by simp)
    have rs := kH18.rd rs (by simp)
    have rb := kH18.rd rb (by simp)
    have rr := kH18.rd rr (by simp)
    have c2 := kH18.cl c2 (by simp)
    have c5 := kH18.cl c5 (by simp)
    have c9 := kH18.cl c9 (by simp)
    have c10 := kH18.cl c10 (by simp)
    have kacc := kacc.trans kH18
    have c12 := kH18.cl c12 (by simp)
    have c15 := kH18.cl c15 (by simp)
    refine wN_sta (b := H17.next) (o := 0) rfl rfl c18 (by omega) rfl rfl (by simp) ?_
    intro H19 kH19 nH19 sH19
    have mH19 := kH19.1
    have hk := hk.new kH19 (fun b hb => by simp at hb ⊢; omega)
    have hat := hat.keep kH19 (fun x hx => by first | (simp at hx; done) | (simp at hx; omega))
    have rs := kH19.rd rs (by first | (simp; done) | (simp; omega))
    have rb := kH19.rd rb (by first | (simp; done) | (simp; omega))
    have rr := kH19.rd rr (by first | (simp; done) | (simp; omega))
    have c2 := kH19.cl c2 (by first | (simp; done) | (simp; omega))
    have c5 := kH19.cl c5 (by first | (simp; done) | (simp; omega))
    have c9 := kH19.cl c9 (by first | (simp; done) | (simp; omega))
    have c10 := kH19.cl c10 (by first | (simp; done) | (simp; omega))
    have kacc := kacc.new kH19 (fun b hb => by simp at hb ⊢; omega)
    have c12 := kH19.cl c12 (by first | (simp; done) | (simp; omega))
    have c15 := kH19.cl c15 (by first | (simp; done) | (simp; omega))
    have c18 : Cl H19 H17.next [iv (((g.st o i).f1) + ((g.W bi).1)), iv (((g.st o i).f2) + ((g.W bi).2))] := sH19
    refine wN_end ?_
    refine wN_seq ?_
    refine wN_mov (v := wv) rfl ?_
    refine wN_mov (v := iv (bi : Int)) rfl ?_
    refine wN_lda (b := z10) (o := 0) rfl c10.rd (show row 2 _ _ = some [iv ((g.st o i).f1), iv ((g.st o i).f2)] from rfl) ?_
    refine wN_lda (b := H17.next) (o := 0) rfl c18.rd (show row 2 _ _ = some [iv (((g.st o i).f1) + ((g.W bi).1)), iv (((g.st o i).f2) + ((g.W bi).2))] from rfl) ?_
    refine wN_pur (v := .agg #[iv (bi : Int), iv ((g.st o i).f1), iv ((g.st o i).f2), iv (((g.st o i).f1) + ((g.W bi).1)), iv (((g.st o i).f2) + ((g.W bi).2))]) rfl (by kernel_rfl) ?_
    obtain ⟨H20, hH20⟩ : ∃ H20, H19.new (.cells [iv (bi : Int), iv ((g.st o i).f1), iv ((g.st o i).f2), iv (((g.st o i).f1) + ((g.W bi).1)), iv (((g.st o i).f2) + ((g.W bi).2))] 52 false) = H20 := ⟨_, rfl⟩
    refine wN_memh (H' := H20) (k := .heavy) rfl (by kernel_rfl) ((heap_build1 (v := .agg #[iv (bi : Int), iv ((g.st o i).f1), iv ((g.st o i).f2), iv (((g.st o i).f1) + ((g.W bi).1)), iv (((g.st o i).f2) + ((g.W bi).2))]) se34 z52 rfl rfl rfl (by decide)).trans (by rw [← hH20]; rfl)) (fun b e => by cases e) ?_
    obtain ⟨kH20, nH20, c20⟩ := new_facts hH20; clear hH20
    have c20 : Cl H20 H19.next [iv (bi : Int), iv ((g.st o i).f1), iv ((g.st o i).f2), iv (((g.st o i).f1) + ((g.W bi).1)), iv (((g.st o i).f2) + ((g.W bi).2))] := c20
    have mH20 := kH20.1
    have hk := hk.trans kH20
    have hat := hat.keep kH20 (by simp)
    have rs := kH20.rd rs (by simp)
    have rb := kH20.rd rb (by simp)
    have rr := kH20.rd rr (by simp)
    have c2 := kH20.cl c2 (by simp)
    have c5 := kH20.cl c5 (by simp)
    have c9 := kH20.cl c9 (by simp)
    have c10 := kH20.cl c10 (by simp)
    have kacc := kacc.trans kH20
    have c12 := kH20.cl c12 (by simp)
    have c15 := kH20.cl c15 (by simp)
    have c18 := kH20.cl c18 (by simp)
    have ib := bkv_in hacc
    obtain ⟨H21, kdH21, eH21, dH21, aH21, kbH21⟩ := heap_append_out (P := Try.prog) (lo := lo) (k := i) (t1 := 34) se34 u34 (c20.sl (Nat.le_refl 1)) rfl (by decide) rfl (by rw [flc_len, Fh.fs_len]) (by omega) (hacc.keep kacc) (by omega) (by omega)
    refine wN_memh (k := kdH21) rfl (by cases wv <;> kernel_rfl) (eH21 _ _ _ _ _ _ _ rfl rfl) (reg_ok dH21 _) ?_
    have mH21 := kbH21.1
    have hk := hk.new kbH21 (fun b hb => .inr (by have := ib b hb; omega))
    have hat := hat.keep kbH21 (fun x hx => by have := ib x hx; omega)
    have rs := kbH21.rd rs (fun q => by have := ib _ q; omega)
    have rb := kbH21.rd rb (fun q => by have := ib _ q; omega)
    have rr := kbH21.rd rr (fun q => by have := ib _ q; omega)
    have c2 := kbH21.cl c2 (fun q => by have := ib _ q; omega)
    have c5 := kbH21.cl c5 (fun q => by have := ib _ q; omega)
    have c9 := kbH21.cl c9 (fun q => by have := ib _ q; omega)
    have c10 := kbH21.cl c10 (fun q => by have := ib _ q; omega)
    have c12 := kbH21.cl c12 (fun q => by have := ib _ q; omega)
    have c15 := kbH21.cl c15 (fun q => by have := ib _ q; omega)
    have c18 := kbH21.cl c18 (fun q => by have := ib _ q; omega)
    have hacc : Acc lo ff 52 H21 (.slice (some ⟨H20.next, 0, none⟩) (i + 1) (i + 1)) (i + 1) (flc (g.fs o i) ++ [iv (bi : Int), iv ((g.st o i).f1), iv ((g.st o i).f2), iv (((g.st o i).f1) + ((g.W bi).1)), iv (((g.st o i).f2) + ((g.W bi).2))]) := aH21
    have lacc := hacc.lt
    rw [← c_eq ebi, ← flc_app, ← Fh.fs_step] at hacc
    refine wN_mov (v := .slice (some ⟨H20.next, 0, none⟩) (i + 1) (i + 1)) rfl ?_
    refine wN_end ?_
    refine wN_seq ?_
    refine wN_addo (b := L1.next) (o := 0) rfl ?_
    refine wN_ld (b := L1.next) (o := 0) (v := iv ((g.B bi).need)) rfl c12.rd rfl ?_
    refine wN_addo (b := L1.next) (o := 0) rfl ?_
    refine wN_addo (b := L1.next) (o := 1) rfl ?_
    refine wN_ld (b := L1.next) (o := 1) (v := iv ((g.B bi).l1)) rfl c12.rd rfl ?_
    refine wN_addo (b := H14.next) (o := 0) rfl ?_
    refine wN_ld (b := H14.next) (o := 0) (v := iv ((g.W bi).1)) rfl c15.rd rfl ?_
    refine wN_mul (a := (g.B bi).l1) (b := (g.W bi).1) rfl rfl (show InR ((g.B bi).l1 * (g.W bi).1) from by rw [Int.mul_comm]; have q1 := bd.m1; have q2 := bd.m2; exact ⟨by omega, by omega⟩) ?_
    rw [Int.mul_comm ((g.B bi).l1) ((g.W bi).1)]
    refine wN_mm (a := (g.B bi).need) (b := (g.W bi).1 * (g.B bi).l1) rfl rfl ?_
    refine wN_addo (b := L1.next) (o := 0) rfl ?_
    refine wN_ld (b := L1.next) (o := 0) (v := iv ((g.B bi).need)) rfl c12.rd rfl ?_
    refine wN_addo (b := L1.next) (o := 0) rfl ?_
    refine wN_addo (b := L1.next) (o := 1) rfl ?_
    refine wN_ld (b := L1.next) (o := 2) (v := iv ((g.B bi).l2)) rfl c12.rd rfl ?_
    refine wN_addo (b := H14.next) (o := 0) rfl ?_
    refine wN_ld (b := H14.next) (o := 1) (v := iv ((g.W bi).2)) rfl c15.rd rfl ?_
    refine wN_mul (a := (g.B bi).l2) (b := (g.W bi).2) rfl rfl (show InR ((g.B bi).l2 * (g.W bi).2) from by rw [Int.mul_comm]; have q1 := bd.m1; have q2 := bd.m2; exact ⟨by omega, by omega⟩) ?_
    rw [Int.mul_comm ((g.B bi).l2) ((g.W bi).2)]
    refine wN_mm (a := (g.B bi).need) (b := (g.W bi).2 * (g.B bi).l2) rfl rfl ?_
    refine wN_pur (v := .agg #[iv (min ((g.B bi).need) ((g.W bi).1 * (g.B bi).l1)), iv (min ((g.B bi).need) ((g.W bi).2 * (g.B bi).l2))]) rfl (by kernel_rfl) ?_
    refine wN_alc ?_
    intro H22 kH22 nH22 c22
    have c22 : Cl H22 H21.next [iv 0, iv 0] := c22
    have mH22 := kH22.1
    have hk := hk.trans kH22
    have hat := hat.keep kH22 (by simp)
    have rs := kH22.rd rs (by simp)
    have rb := kH22.rd rb (by simp)
    have rr := kH22.rd rr (by simp)
    have c2 := kH22.cl c2 (by simp)
    have c5 := kH22.cl c5 (by simp)
    have c9 := kH22.cl c9 (by simp)
    have c10 := kH22.cl c10 (by simp)
    have c12 := kH22.cl c12 (by simp)
    have c15 := kH22.cl c15 (by simp)
    have c18 := kH22.cl c18 (by simp)
    have hacc := hacc.keep kH22
    refine wN_sta (b := H21.next) (o := 0) rfl rfl c22 (by omega) rfl rfl (by simp) ?_
    intro H23 kH23 nH23 sH23
    have mH23 := kH23.1
    have hk := hk.new kH23 (fun b hb => by simp at hb ⊢; omega)
    have hat := hat.keep kH23 (fun x hx => by first | (simp at hx; done) | (simp at hx; omega))
    have rs := kH23.rd rs (by first | (simp; done) | (simp; omega))
    have rb := kH23.rd rb (by first | (simp; done) | (simp; omega))
    have rr := kH23.rd rr (by first | (simp; done) | (simp; omega))
    have c2 := kH23.cl c2 (by first | (simp; done) | (simp; omega))
    have c5 := kH23.cl c5 (by first | (simp; done) | (simp; omega))
    have c9 := kH23.cl c9 (by first | (simp; done) | (simp; omega))
    have c10 := kH23.cl c10 (by first | (simp; done) | (simp; omega))
    have c12 := kH23.cl c12 (by first | (simp; done) | (simp; omega))
    have c15 := kH23.cl c15 (by first | (simp; done) | (simp; omega))
    have c18 := kH23.cl c18 (by first | (simp; done) | (simp; omega))
    have hacc := hacc.keepX kH23 (by omega)
    have c22 : Cl H23 H21.next [iv (min ((g.B bi).need) ((g.W bi).1 * (g.B bi).l1)), iv (min ((g.B bi).need) ((g.W bi).2 * (g.B bi).l2))] := sH23
    refine wN_end ?_
    refine wN_seq ?_
    refine wN_addo (b := L1.next) (o := 0) rfl ?_
    refine wN_ld (b := L1.next) (o := 0) (v := iv ((g.B bi).need)) rfl c12.rd rfl ?_
    refine wN_addo (b := H21.next) (o := 0) rfl ?_
    refine wN_ld (b := H21.next) (o := 1) (v := iv (min ((g.B bi).need) ((g.W bi).2 * (g.B bi).l2))) rfl c22.rd rfl ?_
    refine wN_sub (a := (g.B bi).need) (b := min ((g.B bi).need) ((g.W bi).2 * (g.B bi).l2)) rfl rfl ⟨by (have z1 := hin.f1; have z2 := hin.f2; have z3 := hin.t1; have z4 := hin.t2; have z5 := hin.s1; have z6 := hin.s2; have y1 := bd.w1; have y2 := bd.w2; have y4 := bd.m1; have y5 := bd.m2; have y6 := nb; have y7 := hlbi; omega), by (have z1 := hin.f1; have z2 := hin.f2; have z3 := hin.t1; have z4 := hin.t2; have z5 := hin.s1; have z6 := hin.s2; have y1 := bd.w1; have y2 := bd.w2; have y4 := bd.m1; have y5 := bd.m2; have y6 := nb; have y7 := hlbi; omega)⟩ ?_
    refine wN_addo (b := L1.next) (o := 0) rfl ?_
    refine wN_ld (b := L1.next) (o := 0) (v := iv ((g.B bi).need)) rfl c12.rd rfl ?_
    refine wN_addo (b := H21.next) (o := 0) rfl ?_
    refine wN_ld (b := H21.next) (o := 0) (v := iv (min ((g.B bi).need) ((g.W bi).1 * (g.B bi).l1))) rfl c22.rd rfl ?_
    refine wN_sub (a := (g.B bi).need) (b := min ((g.B bi).need) ((g.W bi).1 * (g.B bi).l1)) rfl rfl ⟨by (have z1 := hin.f1; have z2 := hin.f2; have z3 := hin.t1; have z4 := hin.t2; have z5 := hin.s1; have z6 := hin.s2; have y1 := bd.w1; have y2 := bd.w2; have y4 := bd.m1; have y5 := bd.m2; have y6 := nb; have y7 := hlbi; omega), by (have z1 := hin.f1; have z2 := hin.f2; have z3 := hin.t1; have z4 := hin.t2; have z5 := hin.s1; have z6 := hin.s2; have y1 := bd.w1; have y2 := bd.w2; have y4 := bd.m1; have y5 := bd.m2; have y6 := nb; have y7 := hlbi; omega)⟩ ?_
    refine wN_pur (v := .agg #[iv (((g.B bi).need) - (min ((g.B bi).need) ((g.W bi).2 * (g.B bi).l2))), iv (((g.B bi).need) - (min ((g.B bi).need) ((g.W bi).1 * (g.B bi).l1)))]) rfl (by kernel_rfl) ?_
    refine wN_alc ?_
    intro H24 kH24 nH24 c24
    have c24 : Cl H24 H23.next [iv 0, iv 0] := c24
    have mH24 := kH24.1
    have hk := hk.trans kH24
    have hat := hat.keep kH24 (by simp)
    have rs := kH24.rd rs (by simp)
    have rb := kH24.rd rb (by simp)
    have rr := kH24.rd rr (by simp)
    have c2 := kH24.cl c2 (by simp)
    have c5 := kH24.cl c5 (by simp)
    have c9 := kH24.cl c9 (by simp)
    have c10 := kH24.cl c10 (by simp)
    have c12 := kH24.cl c12 (by simp)
    have c15 := kH24.cl c15 (by simp)
    have c18 := kH24.cl c18 (by simp)
    have hacc := hacc.keep kH24
    have c22 := kH24.cl c22 (by simp)
    refine wN_sta (b := H23.next) (o := 0) rfl rfl c24 (by omega) rfl rfl (by simp) ?_
    intro H25 kH25 nH25 sH25
    have mH25 := kH25.1
    have hk := hk.new kH25 (fun b hb => by simp at hb ⊢; omega)
    have hat := hat.keep kH25 (fun x hx => by first | (simp at hx; done) | (simp at hx; omega))
    have rs := kH25.rd rs (by first | (simp; done) | (simp; omega))
    have rb := kH25.rd rb (by first | (simp; done) | (simp; omega))
    have rr := kH25.rd rr (by first | (simp; done) | (simp; omega))
    have c2 := kH25.cl c2 (by first | (simp; done) | (simp; omega))
    have c5 := kH25.cl c5 (by first | (simp; done) | (simp; omega))
    have c9 := kH25.cl c9 (by first | (simp; done) | (simp; omega))
    have c10 := kH25.cl c10 (by first | (simp; done) | (simp; omega))
    have c12 := kH25.cl c12 (by first | (simp; done) | (simp; omega))
    have c15 := kH25.cl c15 (by first | (simp; done) | (simp; omega))
    have c18 := kH25.cl c18 (by first | (simp; done) | (simp; omega))
    have hacc := hacc.keepX kH25 (by omega)
    have c22 := kH25.cl c22 (by first | (simp; done) | (simp; omega))
    have c24 : Cl H25 H23.next [iv (((g.B bi).need) - (min ((g.B bi).need) ((g.W bi).2 * (g.B bi).l2))), iv (((g.B bi).need) - (min ((g.B bi).need) ((g.W bi).1 * (g.B bi).l1)))] := sH25
    refine wN_end ?_
    refine wN_seq ?_
    refine wN_addo (b := z9) (o := 0) rfl ?_
    refine wN_lda (b := z9) (o := 2) rfl c9.rd (show row 2 _ _ = some [iv ((g.lb o i).1), iv ((g.lb o i).2)] from rfl) ?_
    refine wN_lda (b := H21.next) (o := 0) rfl c22.rd (show row 2 _ _ = some [iv (min ((g.B bi).need) ((g.W bi).1 * (g.B bi).l1)), iv (min ((g.B bi).need) ((g.W bi).2 * (g.B bi).l2))] from rfl) ?_
    obtain ⟨H26, fH26, kH26⟩ := plus56_ok (kn := kn) (lo := lo) (H := H25) (a := (g.lb o i).1) (b := (g.lb o i).2) (c := min ((g.B bi).need) ((g.W bi).1 * (g.B bi).l1)) (d := min ((g.B bi).need) ((g.W bi).2 * (g.B bi).l2)) ⟨by (have z1 := hin.f1; have z2 := hin.f2; have z3 := hin.t1; have z4 := hin.t2; have z5 := hin.s1; have z6 := hin.s2; have y1 := bd.w1; have y2 := bd.w2; have y4 := bd.m1; have y5 := bd.m2; have y6 := nb; have y7 := hlbi; omega), by (have z1 := hin.f1; have z2 := hin.f2; have z3 := hin.t1; have z4 := hin.t2; have z5 := hin.s1; have z6 := hin.s2; have y1 := bd.w1; have y2 := bd.w2; have y4 := bd.m1; have y5 := bd.m2; have y6 := nb; have y7 := hlbi; omega), by (have z1 := hin.f1; have z2 := hin.f2; have z3 := hin.t1; have z4 := hin.t2; have z5 := hin.s1; have z6 := hin.s2; have y1 := bd.w1; have y2 := bd.w2; have y4 := bd.m1; have y5 := bd.m2; have y6 := nb; have y7 := hlbi; omega), by (have z1 := hin.f1; have z2 := hin.f2; have z3 := hin.t1; have z4 := hin.t2; have z5 := hin.s1; have z6 := hin.s2; have y1 := bd.w1; have y2 := bd.w2; have y4 := bd.m1; have y5 := bd.m2; have y6 := nb; have y7 := hlbi; omega)⟩ (by omega)
    refine wN_callf (vs := [.agg #[iv ((g.lb o i).1), iv ((g.lb o i).2)], .agg #[iv (min ((g.B bi).need) ((g.W bi).1 * (g.B bi).l1)), iv (min ((g.B bi).need) ((g.W bi).2 * (g.B bi).l2))]]) rfl (callX_args fH26) ?_
    have mH26 := kH26.1
    have hk := hk.trans kH26
    have hat := hat.keep kH26 (by simp)
    have rs := kH26.rd rs (by simp)
    have rb := kH26.rd rb (by simp)
    have rr := kH26.rd rr (by simp)
    have c2 := kH26.cl c2 (by simp)
    have c5 := kH26.cl c5 (by simp)
    have c9 := kH26.cl c9 (by simp)
    have c10 := kH26.cl c10 (by simp)
    have c12 := kH26.cl c12 (by simp)
    have c15 := kH26.cl c15 (by simp)
    have c18 := kH26.cl c18 (by simp)
    have hacc := hacc.keep kH26
    have c22 := kH26.cl c22 (by simp)
    have c24 := kH26.cl c24 (by simp)
    refine wN_addo (b := z9) (o := 0) rfl ?_
    refine wN_sta (b := z9) (o := 2) rfl rfl c9 (by omega) rfl rfl (by simp) ?_
    intro H27 kH27 nH27 sH27
    have mH27 := kH27.1
    have hk := hk.new kH27 (fun b hb => by simp at hb ⊢; omega)
    have hat := hat.keep kH27 (fun x hx => by first | (simp at hx; done) | (simp at hx; omega))
    have rs := kH27.rd rs (by first | (simp; done) | (simp; omega))
    have rb := kH27.rd rb (by first | (simp; done) | (simp; omega))
    have rr := kH27.rd rr (by first | (simp; done) | (simp; omega))
    have c2 := kH27.cl c2 (by first | (simp; done) | (simp; omega))
    have c5 := kH27.cl c5 (by first | (simp; done) | (simp; omega))
    have c10 := kH27.cl c10 (by first | (simp; done) | (simp; omega))
    have c12 := kH27.cl c12 (by first | (simp; done) | (simp; omega))
    have c15 := kH27.cl c15 (by first | (simp; done) | (simp; omega))
    have c18 := kH27.cl c18 (by first | (simp; done) | (simp; omega))
    have hacc := hacc.keepX kH27 (by omega)
    have c22 := kH27.cl c22 (by first | (simp; done) | (simp; omega))
    have c24 := kH27.cl c24 (by first | (simp; done) | (simp; omega))
    have c9 : Cl H27 z9 [iv ((g.st o i).t1), iv ((g.st o i).t2), iv (((g.lb o i).1) + (min ((g.B bi).need) ((g.W bi).1 * (g.B bi).l1))), iv (((g.lb o i).2) + (min ((g.B bi).need) ((g.W bi).2 * (g.B bi).l2))), iv ((g.st o i).s1), iv ((g.st o i).s2), iv 0, iv 0] := sH27
    refine wN_end ?_
    refine wN_seq ?_
    refine wN_mov (v := iv (i : Int)) rfl ?_
    refine wN_mov (v := .slice (some ⟨sb, 0, none⟩) g.bn cap) rfl ?_
    refine wN_len (m := g.bn) rfl ?_
    refine wN_sub (a := (g.bn : Int)) (b := 1) rfl rfl ⟨by omega, by omega⟩ ?_
    refine wN_c_eql (a := (i : Int)) (b := (g.bn : Int) - 1) rfl rfl ?_
    refine wN_end ?_
    refine And.intro (fun q2 => ?_) (fun q2 => ?_)
    · have q2 : (i : Int) = ((g.bn : Int) - 1) := by simpa using q2
      have hil : i = g.bn - 1 := by omega
      refine wN_seq ?_
      refine wN_lda (b := H23.next) (o := 0) rfl c24.rd (show row 2 _ _ = some [iv (((g.B bi).need) - (min ((g.B bi).need) ((g.W bi).2 * (g.B bi).l2))), iv (((g.B bi).need) - (min ((g.B bi).need) ((g.W bi).1 * (g.B bi).l1)))] from rfl) ?_
      refine wN_addo (b := z9) (o := 0) rfl ?_
      refine wN_sta (b := z9) (o := 6) rfl rfl c9 (by omega) rfl rfl (by simp) ?_
      intro H28 kH28 nH28 sH28
      have mH28 := kH28.1
      have hk := hk.new kH28 (fun b hb => by simp at hb ⊢; omega)
      have hat := hat.keep kH28 (fun x hx => by first | (simp at hx; done) | (simp at hx; omega))
      have rs := kH28.rd rs (by first | (simp; done) | (simp; omega))
      have rb := kH28.rd rb (by first | (simp; done) | (simp; omega))
      have rr := kH28.rd rr (by first | (simp; done) | (simp; omega))
      have c2 := kH28.cl c2 (by first | (simp; done) | (simp; omega))
      have c5 := kH28.cl c5 (by first | (simp; done) | (simp; omega))
      have c10 := kH28.cl c10 (by first | (simp; done) | (simp; omega))
      have c12 := kH28.cl c12 (by first | (simp; done) | (simp; omega))
      have c15 := kH28.cl c15 (by first | (simp; done) | (simp; omega))
      have c18 := kH28.cl c18 (by first | (simp; done) | (simp; omega))
      have hacc := hacc.keepX kH28 (by omega)
      have c22 := kH28.cl c22 (by first | (simp; done) | (simp; omega))
      have c24 := kH28.cl c24 (by first | (simp; done) | (simp; omega))
      have c9 : Cl H28 z9 [iv ((g.st o i).t1), iv ((g.st o i).t2), iv (((g.lb o i).1) + (min ((g.B bi).need) ((g.W bi).1 * (g.B bi).l1))), iv (((g.lb o i).2) + (min ((g.B bi).need) ((g.W bi).2 * (g.B bi).l2))), iv ((g.st o i).s1), iv ((g.st o i).s2), iv (((g.B bi).need) - (min ((g.B bi).need) ((g.W bi).2 * (g.B bi).l2))), iv (((g.B bi).need) - (min ((g.B bi).need) ((g.W bi).1 * (g.B bi).l1)))] := sH28
      refine wN_end ?_
      refine wD_seq ?_
      refine wD_mov (v := .slice (some ⟨H20.next, 0, none⟩) (i + 1) (i + 1)) rfl ?_
      refine wD_lda (b := z9) (o := 0) rfl c9.rd (show row 8 _ _ = some [iv ((g.st o i).t1), iv ((g.st o i).t2), iv (((g.lb o i).1) + (min ((g.B bi).need) ((g.W bi).1 * (g.B bi).l1))), iv (((g.lb o i).2) + (min ((g.B bi).need) ((g.W bi).2 * (g.B bi).l2))), iv ((g.st o i).s1), iv ((g.st o i).s2), iv (((g.B bi).need) - (min ((g.B bi).need) ((g.W bi).2 * (g.B bi).l2))), iv (((g.B bi).need) - (min ((g.B bi).need) ((g.W bi).1 * (g.B bi).l1)))] from rfl) ?_
      refine wD_mov (v := .slice (some ⟨H20.next, 0, none⟩) (i + 1) (i + 1)) rfl ?_
      refine wD_sta (b := z5) (o := 0) rfl rfl c5 (by omega) rfl rfl (by simp) ?_
      intro H29 kH29 nH29 sH29
      have mH29 := kH29.1
      have hk := hk.new kH29 (fun b hb => by simp at hb ⊢; omega)
      have hat := hat.keep kH29 (fun x hx => by first | (simp at hx; done) | (simp at hx; omega))
      have rs := kH29.rd rs (by first | (simp; done) | (simp; omega))
      have rb := kH29.rd rb (by first | (simp; done) | (simp; omega))
      have rr := kH29.rd rr (by first | (simp; done) | (simp; omega))
      have c2 := kH29.cl c2 (by first | (simp; done) | (simp; omega))
      have c10 := kH29.cl c10 (by first | (simp; done) | (simp; omega))
      have c12 := kH29.cl c12 (by first | (simp; done) | (simp; omega))
      have c15 := kH29.cl c15 (by first | (simp; done) | (simp; omega))
      have c18 := kH29.cl c18 (by first | (simp; done) | (simp; omega))
      have hacc := hacc.keepX kH29 (by omega)
      have c22 := kH29.cl c22 (by first | (simp; done) | (simp; omega))
      have c24 := kH29.cl c24 (by first | (simp; done) | (simp; omega))
      have c9 := kH29.cl c9 (by first | (simp; done) | (simp; omega))
      have c5 : Cl H29 z5 [iv ((g.st o i).t1), iv ((g.st o i).t2), iv (((g.lb o i).1) + (min ((g.B bi).need) ((g.W bi).1 * (g.B bi).l1))), iv (((g.lb o i).2) + (min ((g.B bi).need) ((g.W bi).2 * (g.B bi).l2))), iv ((g.st o i).s1), iv ((g.st o i).s2), iv (((g.B bi).need) - (min ((g.B bi).need) ((g.W bi).2 * (g.B bi).l2))), iv (((g.B bi).need) - (min ((g.B bi).need) ((g.W bi).1 * (g.B bi).l1)))] := sH29
      refine wD_mov (v := .bool true) rfl ?_
      refine wD_end (by repeat' first | exact True.intro | exact (fun h => h) | refine And.intro ?_ ?_ | (intro h; have h : (_ : Nat) = _ := h; omega)) ?_
      have cz : Cl H29 z5 (g.st o i).u := by rw [u_eq ebi]; exact c5
      obtain ⟨la, lc, elv, hls, hlf3⟩ := hacc.sl
      have hb1 : i + 1 = g.bn := by omega
      rw [hb1] at hls elv
      have ib1 : g.bn - 1 = i := by omega
      refine And.intro trivial (Exists.intro _ (And.intro (res_tct (cs := (g.st o i).u) rfl rfl a36 i36s rfl cz rfl) ⟨hk, .inl ⟨by rw [ib1]; exact hcan, la, lc, ?_, hls, fun x e => by have := hlf3 x e; omega⟩⟩))
      rw [ib1, hb1, elv]; rfl
    · have q2 : ¬ ((i : Int) = ((g.bn : Int) - 1)) := by simpa using q2
      have hi1 : i + 1 < g.bn := by omega
      obtain ⟨bj, ebj⟩ : ∃ z, o.getD (i + 1) 0 = z := ⟨_, rfl⟩
      have ho1 := (ho hi1).2; rw [ebj] at ho1
      have huj := (ho hi1).1; rw [ebj] at huj
      obtain ⟨hr, hrl, hrf⟩ := hat.row (i := bi) (by omega)
      have hrn := (v.r _ hoi).1
      rcases hr with ⟨_, h0, _⟩ | ⟨xi, ei, ri, _⟩
      · omega
      have li := hrf xi ei; have li2 := ri.lt
      have hrj : (g.R bi).l[bj]? = some (g.rate bi bj) := getI (by omega)
      have hrr := (v.r _ hoi).2 _ (List.mem_of_getElem? hrj)
      refine wD_seq ?_
      refine wD_addo (b := z2) (o := 0) rfl ?_
      refine wD_ld (b := z2) (o := 1) (v := .slice (some ⟨xr, 0, none⟩) g.rn g.rcap) rfl c2.rd (show _ = some (Value.slice (some ⟨xr, 0, none⟩) g.rn g.rcap) from by rw [← er]; rfl) ?_
      refine wD_mov (v := iv (bi : Int)) rfl ?_
      refine wD_idx (b := xr) (o := 0) (k := bi) (j := (bi : Int)) rfl rfl rfl (by omega) ?_
      refine wD_ld (b := xr) (o := 0 + bi * 1) (v := .slice (some ⟨xi, 0, none⟩) ((g.R bi).n) ((g.R bi).cap)) rfl rr (show _ = some (Value.slice (some ⟨xi, 0, none⟩) ((g.R bi).n) ((g.R bi).cap)) from by rw [← ei]; exact (rwc_row (getR (g := g) (i := bi) (by rw [hat.rl]; omega)))) ?_
      refine wD_mov (v := .slice (some ⟨sb, 0, none⟩) g.bn cap) rfl ?_
      refine wD_mov (v := iv (i : Int)) rfl ?_
      refine wD_add (a := (i : Int)) (b := 1) rfl rfl ⟨by omega, by omega⟩ ?_
      refine wD_idx (b := sb) (o := 0) (k := (i + 1)) (j := (i : Int) + 1) rfl rfl (by omega) hi1 ?_
      refine wD_ld (b := sb) (o := 0 + (i + 1) * 1) (v := iv (bj : Int)) rfl rs (ints_at huj) ?_
      refine wD_idx (b := xi) (o := 0) (k := bj) (j := (bj : Int)) rfl rfl rfl (by omega) ?_
      refine wD_ld (b := xi) (o := 0 + bj * 1) (v := iv (g.rate bi bj)) rfl ri (ints_at hrj) ?_
      refine wD_mov (v := iv (g.rate bi bj)) rfl ?_
      refine wD_end (by repeat' first | exact True.intro | exact (fun h => h) | refine And.intro ?_ ?_ | (intro h; have h : (_ : Nat) = _ := h; omega)) ?_
      refine wN_seq ?_
      refine wN_mov (v := iv (g.rate bi bj)) rfl ?_
      refine wN_c_eql (a := (g.rate bi bj)) (b := 0) rfl rfl ?_
      refine wN_end ?_
      refine And.intro (fun q3 => ?_) (fun q3 => ?_)
      · have q3 : (g.rate bi bj) = 0 := by simpa using q3
        refine wN_seq ?_
        refine wN_pur (v := .agg #[iv 0, iv 0, iv 0, iv 0, iv 0, iv 0, iv 0, iv 0]) rfl (by kernel_rfl) ?_
        refine wN_mov (v := .slice none 0 0) rfl ?_
        refine wN_sta (b := z5) (o := 0) rfl rfl c5 (by omega) rfl rfl (by simp) ?_
        intro H30 kH30 nH30 sH30
        have mH30 := kH30.1
        have hk := hk.new kH30 (fun b hb => by simp at hb ⊢; omega)
        have hat := hat.keep kH30 (fun x hx => by first | (simp at hx; done) | (simp at hx; omega))
        have rs := kH30.rd rs (by first | (simp; done) | (simp; omega))
        have rb := kH30.rd rb (by first | (simp; done) | (simp; omega))
        have rr := kH30.rd rr (by first | (simp; done) | (simp; omega))
        have c2 := kH30.cl c2 (by first | (simp; done) | (simp; omega))
        have c10 := kH30.cl c10 (by first | (simp; done) | (simp; omega))
        have c12 := kH30.cl c12 (by first | (simp; done) | (simp; omega))
        have c15 := kH30.cl c15 (by first | (simp; done) | (simp; omega))
        have c18 := kH30.cl c18 (by first | (simp; done) | (simp; omega))
        have hacc := hacc.keepX kH30 (by omega)
        have c22 := kH30.cl c22 (by first | (simp; done) | (simp; omega))
        have c24 := kH30.cl c24 (by first | (simp; done) | (simp; omega))
        have c9 := kH30.cl c9 (by first | (simp; done) | (simp; omega))
        have ri := kH30.rd ri (by first | (simp; done) | (simp; omega))
        have c5 : Cl H30 z5 [iv 0, iv 0, iv 0, iv 0, iv 0, iv 0, iv 0, iv 0] := sH30
        refine wN_mov (v := .bool false) rfl ?_
        refine wN_end ?_
        exact And.intro trivial (Exists.intro _ (And.intro (res_tct rfl rfl a36 i36s rfl c5 rfl) ⟨hk, .inr ⟨can_false (show i < g.bn - 1 by omega) (by rw [ebi, ebj]; omega), rfl⟩⟩))
      · have q3 : ¬ ((g.rate bi bj) = 0) := by simpa using q3
        have hr1 : 1 ≤ g.rate bi bj := (by omega); have bd2 := Fh.bd v hat ho1; have nb2 : 1 ≤ (g.B bj).need ∧ (g.B bj).need ≤ 68719476736 := bd2.need
        have hup := upq_in (a := (g.B bj).need) (b := g.rate bi bj) ⟨by omega, by omega⟩ hr1
        have hcn : g.can o (i + 1) = true := by rw [Fh.can_step, hcan, ebi, ebj, decide_eq_true (show g.rate bi bj ≠ 0 by omega)]; rfl
        refine wD_seq ?_
        refine wD_addo (b := z2) (o := 0) rfl ?_
        refine wD_ld (b := z2) (o := 0) (v := .slice (some ⟨xb, 0, none⟩) g.bn g.bcap) rfl c2.rd (show _ = some (Value.slice (some ⟨xb, 0, none⟩) g.bn g.bcap) from by rw [← eb]; rfl) ?_
        refine wD_mov (v := .slice (some ⟨sb, 0, none⟩) g.bn cap) rfl ?_
        refine wD_mov (v := iv (i : Int)) rfl ?_
        refine wD_add (a := (i : Int)) (b := 1) rfl rfl ⟨by omega, by omega⟩ ?_
        refine wD_idx (b := sb) (o := 0) (k := (i + 1)) (j := (i : Int) + 1) rfl rfl (by omega) hi1 ?_
        refine wD_ld (b := sb) (o := 0 + (i + 1) * 1) (v := iv (bj : Int)) rfl rs (ints_at huj) ?_
        refine wD_idx (b := xb) (o := 0) (k := bj) (j := (bj : Int)) rfl rfl rfl ho1 ?_
        refine wD_addo (b := xb) (o := 0 + bj * 4) rfl ?_
        refine wD_ld (b := xb) (o := 0 + bj * 4) (v := iv ((g.B bj).need)) rfl rb (bgc_at (j := 0) (getB (g := g) (i := bj) (by rw [hat.bl]; omega)) rfl) ?_
        refine wD_mov (v := iv ((g.B bj).need)) rfl ?_
        refine wD_end (by repeat' first | exact True.intro | exact (fun h => h) | refine And.intro ?_ ?_ | (intro h; have h : (_ : Nat) = _ := h; omega)) ?_
        refine wD_seq ?_
        refine wD_addo (b := z9) (o := 0) rfl ?_
        refine wD_lda (b := z9) (o := 0) rfl c9.rd (show row 2 _ _ = some [iv ((g.st o i).t1), iv ((g.st o i).t2)] from rfl) ?_
        refine wD_mov (v := iv ((g.B bj).need)) rfl ?_
        obtain ⟨H31, fH31, kH31⟩ := one54_ok (kn := kn) (lo := H27.next) (H := H27) (a := (g.B bj).need) (by omega)
        refine wD_callh (vs := [iv ((g.B bj).need)]) rfl (by kernel_rfl) (callX_args fH31) ?_
        have mH31 := kH31.1
        have hk := hk.trans kH31
        have hat := hat.keep kH31 (by simp)
        have rs := kH31.rd rs (by simp)
        have rb := kH31.rd rb (by simp)
        have rr := kH31.rd rr (by simp)
        have c2 := kH31.cl c2 (by simp)
        have c5 := kH31.cl c5 (by simp)
        have c10 := kH31.cl c10 (by simp)
        have c12 := kH31.cl c12 (by simp)
        have c15 := kH31.cl c15 (by simp)
        have c18 := kH31.cl c18 (by simp)
        have hacc := hacc.keep kH31
        have c22 := kH31.cl c22 (by simp)
        have c24 := kH31.cl c24 (by simp)
        have c9 := kH31.cl c9 (by simp)
        have ri := kH31.rd ri (by simp)
        refine wD_lda (b := H23.next) (o := 0) rfl c24.rd (show row 2 _ _ = some [iv (((g.B bi).need) - (min ((g.B bi).need) ((g.W bi).2 * (g.B bi).l2))), iv (((g.B bi).need) - (min ((g.B bi).need) ((g.W bi).1 * (g.B bi).l1)))] from rfl) ?_
        obtain ⟨H32, fH32, kH32⟩ := over57_ok (kn := kn) (lo := H31.next) (H := H31) (a := (g.B bj).need) (b := (g.B bj).need) (c := ((g.B bi).need) - (min ((g.B bi).need) ((g.W bi).2 * (g.B bi).l2))) (d := ((g.B bi).need) - (min ((g.B bi).need) ((g.W bi).1 * (g.B bi).l1))) ⟨by (have z1 := hin.f1; have z2 := hin.f2; have z3 := hin.t1; have z4 := hin.t2; have z5 := hin.s1; have z6 := hin.s2; have y1 := bd.w1; have y2 := bd.w2; have y4 := bd.m1; have y5 := bd.m2; have y6 := nb; have y7 := hlbi; omega), by (have z1 := hin.f1; have z2 := hin.f2; have z3 := hin.t1; have z4 := hin.t2; have z5 := hin.s1; have z6 := hin.s2; have y1 := bd.w1; have y2 := bd.w2; have y4 := bd.m1; have y5 := bd.m2; have y6 := nb; have y7 := hlbi; omega), by (have z1 := hin.f1; have z2 := hin.f2; have z3 := hin.t1; have z4 := hin.t2; have z5 := hin.s1; have z6 := hin.s2; have y1 := bd.w1; have y2 := bd.w2; have y4 := bd.m1; have y5 := bd.m2; have y6 := nb; have y7 := hlbi; omega), by (have z1 := hin.f1; have z2 := hin.f2; have z3 := hin.t1; have z4 := hin.t2; have z5 := hin.s1; have z6 := hin.s2; have y1 := bd.w1; have y2 := bd.w2; have y4 := bd.m1; have y5 := bd.m2; have y6 := nb; have y7 := hlbi; omega)⟩ (by omega)
        refine wD_callh (vs := [.agg #[iv ((g.B bj).need), iv ((g.B bj).need)], .agg #[iv (((g.B bi).need) - (min ((g.B bi).need) ((g.W bi).2 * (g.B bi).l2))), iv (((g.B bi).need) - (min ((g.B bi).need) ((g.W bi).1 * (g.B bi).l1)))]]) rfl (by kernel_rfl) (callX_args fH32) ?_
        have mH32 := kH32.1
        have hk := hk.trans kH32
        have hat := hat.keep kH32 (by simp)
        have rs := kH32.rd rs (by simp)
        have rb := kH32.rd rb (by simp)
        have rr := kH32.rd rr (by simp)
        have c2 := kH32.cl c2 (by simp)
        have c5 := kH32.cl c5 (by simp)
        have c10 := kH32.cl c10 (by simp)
        have c12 := kH32.cl c12 (by simp)
        have c15 := kH32.cl c15 (by simp)
        have c18 := kH32.cl c18 (by simp)
        have hacc := hacc.keep kH32
        have c22 := kH32.cl c22 (by simp)
        have c24 := kH32.cl c24 (by simp)
        have c9 := kH32.cl c9 (by simp)
        have ri := kH32.rd ri (by simp)
        obtain ⟨H33, fH33, kH33⟩ := plus56_ok (kn := kn) (lo := lo) (H := H32) (a := (g.st o i).t1) (b := (g.st o i).t2) (c := max 0 ((g.B bj).need - (((g.B bi).need) - (min ((g.B bi).need) ((g.W bi).1 * (g.B bi).l1))))) (d := max 0 ((g.B bj).need - (((g.B bi).need) - (min ((g.B bi).need) ((g.W bi).2 * (g.B bi).l2))))) ⟨by (have z1 := hin.f1; have z2 := hin.f2; have z3 := hin.t1; have z4 := hin.t2; have z5 := hin.s1; have z6 := hin.s2; have y1 := bd.w1; have y2 := bd.w2; have y4 := bd.m1; have y5 := bd.m2; have y6 := nb; have y7 := hlbi; omega), by (have z1 := hin.f1; have z2 := hin.f2; have z3 := hin.t1; have z4 := hin.t2; have z5 := hin.s1; have z6 := hin.s2; have y1 := bd.w1; have y2 := bd.w2; have y4 := bd.m1; have y5 := bd.m2; have y6 := nb; have y7 := hlbi; omega), by (have z1 := hin.f1; have z2 := hin.f2; have z3 := hin.t1; have z4 := hin.t2; have z5 := hin.s1; have z6 := hin.s2; have y1 := bd.w1; have y2 := bd.w2; have y4 := bd.m1; have y5 := bd.m2; have y6 := nb; have y7 := hlbi; omega), by (have z1 := hin.f1; have z2 := hin.f2; have z3 := hin.t1; have z4 := hin.t2; have z5 := hin.s1; have z6 := hin.s2; have y1 := bd.w1; have y2 := bd.w2; have y4 := bd.m1; have y5 := bd.m2; have y6 := nb; have y7 := hlbi; omega)⟩ (by omega)
        refine wD_callf (vs := [.agg #[iv ((g.st o i).t1), iv ((g.st o i).t2)], .agg #[iv (max 0 ((g.B bj).need - (((g.B bi).need) - (min ((g.B bi).need) ((g.W bi).1 * (g.B bi).l1))))), iv (max 0 ((g.B bj).need - (((g.B bi).need) - (min ((g.B bi).need) ((g.W bi).2 * (g.B bi).l2)))))]]) rfl (callX_args fH33) ?_
        have mH33 := kH33.1
        have hk := hk.trans kH33
        have hat := hat.keep kH33 (by simp)
        have rs := kH33.rd rs (by simp)
        have rb := kH33.rd rb (by simp)
        have rr := kH33.rd rr (by simp)
        have c2 := kH33.cl c2 (by simp)
        have c5 := kH33.cl c5 (by simp)
        have c10 := kH33.cl c10 (by simp)
        have c12 := kH33.cl c12 (by simp)
        have c15 := kH33.cl c15 (by simp)
        have c18 := kH33.cl c18 (by simp)
        have hacc := hacc.keep kH33
        have c22 := kH33.cl c22 (by simp)
        have c24 := kH33.cl c24 (by simp)
        have c9 := kH33.cl c9 (by simp)
        have ri := kH33.rd ri (by simp)
        refine wD_addo (b := z9) (o := 0) rfl ?_
        refine wD_sta (b := z9) (o := 0) rfl rfl c9 (by omega) rfl rfl (by simp) ?_
        intro H34 kH34 nH34 sH34
        have mH34 := kH34.1
        have hk := hk.new kH34 (fun b hb => by simp at hb ⊢; omega)
        have hat := hat.keep kH34 (fun x hx => by first | (simp at hx; done) | (simp at hx; omega))
        have rs := kH34.rd rs (by first | (simp; done) | (simp; omega))
        have rb := kH34.rd rb (by first | (simp; done) | (simp; omega))
        have rr := kH34.rd rr (by first | (simp; done) | (simp; omega))
        have c2 := kH34.cl c2 (by first | (simp; done) | (simp; omega))
        have c5 := kH34.cl c5 (by first | (simp; done) | (simp; omega))
        have c10 := kH34.cl c10 (by first | (simp; done) | (simp; omega))
        have c12 := kH34.cl c12 (by first | (simp; done) | (simp; omega))
        have c15 := kH34.cl c15 (by first | (simp; done) | (simp; omega))
        have c18 := kH34.cl c18 (by first | (simp; done) | (simp; omega))
        have hacc := hacc.keepX kH34 (by omega)
        have c22 := kH34.cl c22 (by first | (simp; done) | (simp; omega))
        have c24 := kH34.cl c24 (by first | (simp; done) | (simp; omega))
        have ri := kH34.rd ri (by first | (simp; done) | (simp; omega))
        have c9 : Cl H34 z9 [iv (((g.st o i).t1) + (max 0 ((g.B bj).need - (((g.B bi).need) - (min ((g.B bi).need) ((g.W bi).1 * (g.B bi).l1)))))), iv (((g.st o i).t2) + (max 0 ((g.B bj).need - (((g.B bi).need) - (min ((g.B bi).need) ((g.W bi).2 * (g.B bi).l2)))))), iv (((g.lb o i).1) + (min ((g.B bi).need) ((g.W bi).1 * (g.B bi).l1))), iv (((g.lb o i).2) + (min ((g.B bi).need) ((g.W bi).2 * (g.B bi).l2))), iv ((g.st o i).s1), iv ((g.st o i).s2), iv 0, iv 0] := sH34
        refine wD_end (by repeat' first | exact True.intro | exact (fun h => h) | refine And.intro ?_ ?_ | (intro h; have h : (_ : Nat) = _ := h; omega)) ?_
        refine wD_seq ?_
        refine wD_addo (b := z9) (o := 0) rfl ?_
        refine wD_lda (b := z9) (o := 4) rfl c9.rd (show row 2 _ _ = some [iv ((g.st o i).s1), iv ((g.st o i).s2)] from rfl) ?_
        refine wD_lda (b := H23.next) (o := 0) rfl c24.rd (show row 2 _ _ = some [iv (((g.B bi).need) - (min ((g.B bi).need) ((g.W bi).2 * (g.B bi).l2))), iv (((g.B bi).need) - (min ((g.B bi).need) ((g.W bi).1 * (g.B bi).l1)))] from rfl) ?_
        refine wD_mov (v := iv ((g.B bj).need)) rfl ?_
        obtain ⟨H35, fH35, kH35⟩ := one54_ok (kn := kn) (lo := H34.next) (H := H34) (a := (g.B bj).need) (by omega)
        refine wD_callh (vs := [iv ((g.B bj).need)]) rfl (by kernel_rfl) (callX_args fH35) ?_
        have mH35 := kH35.1
        have hk := hk.trans kH35
        have hat := hat.keep kH35 (by simp)
        have rs := kH35.rd rs (by simp)
        have rb := kH35.rd rb (by simp)
        have rr := kH35.rd rr (by simp)
        have c2 := kH35.cl c2 (by simp)
        have c5 := kH35.cl c5 (by simp)
        have c10 := kH35.cl c10 (by simp)
        have c12 := kH35.cl c12 (by simp)
        have c15 := kH35.cl c15 (by simp)
        have c18 := kH35.cl c18 (by simp)
        have hacc := hacc.keep kH35
        have c22 := kH35.cl c22 (by simp)
        have c24 := kH35.cl c24 (by simp)
        have ri := kH35.rd ri (by simp)
        have c9 := kH35.cl c9 (by simp)
        obtain ⟨H36, fH36, kH36⟩ := over57_ok (kn := kn) (lo := H35.next) (H := H35) (a := ((g.B bi).need) - (min ((g.B bi).need) ((g.W bi).2 * (g.B bi).l2))) (b := ((g.B bi).need) - (min ((g.B bi).need) ((g.W bi).1 * (g.B bi).l1))) (c := (g.B bj).need) (d := (g.B bj).need) ⟨by (have z1 := hin.f1; have z2 := hin.f2; have z3 := hin.t1; have z4 := hin.t2; have z5 := hin.s1; have z6 := hin.s2; have y1 := bd.w1; have y2 := bd.w2; have y4 := bd.m1; have y5 := bd.m2; have y6 := nb; have y7 := hlbi; omega), by (have z1 := hin.f1; have z2 := hin.f2; have z3 := hin.t1; have z4 := hin.t2; have z5 := hin.s1; have z6 := hin.s2; have y1 := bd.w1; have y2 := bd.w2; have y4 := bd.m1; have y5 := bd.m2; have y6 := nb; have y7 := hlbi; omega), by (have z1 := hin.f1; have z2 := hin.f2; have z3 := hin.t1; have z4 := hin.t2; have z5 := hin.s1; have z6 := hin.s2; have y1 := bd.w1; have y2 := bd.w2; have y4 := bd.m1; have y5 := bd.m2; have y6 := nb; have y7 := hlbi; omega), by (have z1 := hin.f1; have z2 := hin.f2; have z3 := hin.t1; have z4 := hin.t2; have z5 := hin.s1; have z6 := hin.s2; have y1 := bd.w1; have y2 := bd.w2; have y4 := bd.m1; have y5 := bd.m2; have y6 := nb; have y7 := hlbi; omega)⟩ (by omega)
        refine wD_callh (vs := [.agg #[iv (((g.B bi).need) - (min ((g.B bi).need) ((g.W bi).2 * (g.B bi).l2))), iv (((g.B bi).need) - (min ((g.B bi).need) ((g.W bi).1 * (g.B bi).l1)))], .agg #[iv ((g.B bj).need), iv ((g.B bj).need)]]) rfl (by kernel_rfl) (callX_args fH36) ?_
        have mH36 := kH36.1
        have hk := hk.trans kH36
        have hat := hat.keep kH36 (by simp)
        have rs := kH36.rd rs (by simp)
        have rb := kH36.rd rb (by simp)
        have rr := kH36.rd rr (by simp)
        have c2 := kH36.cl c2 (by simp)
        have c5 := kH36.cl c5 (by simp)
        have c10 := kH36.cl c10 (by simp)
        have c12 := kH36.cl c12 (by simp)
        have c15 := kH36.cl c15 (by simp)
        have c18 := kH36.cl c18 (by simp)
        have hacc := hacc.keep kH36
        have c22 := kH36.cl c22 (by simp)
        have c24 := kH36.cl c24 (by simp)
        have ri := kH36.rd ri (by simp)
        have c9 := kH36.cl c9 (by simp)
        obtain ⟨H37, fH37, kH37⟩ := plus56_ok (kn := kn) (lo := lo) (H := H36) (a := (g.st o i).s1) (b := (g.st o i).s2) (c := max 0 (((g.B bi).need) - (min ((g.B bi).need) ((g.W bi).2 * (g.B bi).l2)) - ((g.B bj).need))) (d := max 0 (((g.B bi).need) - (min ((g.B bi).need) ((g.W bi).1 * (g.B bi).l1)) - ((g.B bj).need))) ⟨by (have z1 := hin.f1; have z2 := hin.f2; have z3 := hin.t1; have z4 := hin.t2; have z5 := hin.s1; have z6 := hin.s2; have y1 := bd.w1; have y2 := bd.w2; have y4 := bd.m1; have y5 := bd.m2; have y6 := nb; have y7 := hlbi; omega), by (have z1 := hin.f1; have z2 := hin.f2; have z3 := hin.t1; have z4 := hin.t2; have z5 := hin.s1; have z6 := hin.s2; have y1 := bd.w1; have y2 := bd.w2; have y4 := bd.m1; have y5 := bd.m2; have y6 := nb; have y7 := hlbi; omega), by (have z1 := hin.f1; have z2 := hin.f2; have z3 := hin.t1; have z4 := hin.t2; have z5 := hin.s1; have z6 := hin.s2; have y1 := bd.w1; have y2 := bd.w2; have y4 := bd.m1; have y5 := bd.m2; have y6 := nb; have y7 := hlbi; omega), by (have z1 := hin.f1; have z2 := hin.f2; have z3 := hin.t1; have z4 := hin.t2; have z5 := hin.s1; have z6 := hin.s2; have y1 := bd.w1; have y2 := bd.w2; have y4 := bd.m1; have y5 := bd.m2; have y6 := nb; have y7 := hlbi; omega)⟩ (by omega)
        refine wD_callf (vs := [.agg #[iv ((g.st o i).s1), iv ((g.st o i).s2)], .agg #[iv (max 0 (((g.B bi).need) - (min ((g.B bi).need) ((g.W bi).2 * (g.B bi).l2)) - ((g.B bj).need))), iv (max 0 (((g.B bi).need) - (min ((g.B bi).need) ((g.W bi).1 * (g.B bi).l1)) - ((g.B bj).need)))]]) rfl (callX_args fH37) ?_
        have mH37 := kH37.1
        have hk := hk.trans kH37
        have hat := hat.keep kH37 (by simp)
        have rs := kH37.rd rs (by simp)
        have rb := kH37.rd rb (by simp)
        have rr := kH37.rd rr (by simp)
        have c2 := kH37.cl c2 (by simp)
        have c5 := kH37.cl c5 (by simp)
        have c10 := kH37.cl c10 (by simp)
        have c12 := kH37.cl c12 (by simp)
        have c15 := kH37.cl c15 (by simp)
        have c18 := kH37.cl c18 (by simp)
        have hacc := hacc.keep kH37
        have c22 := kH37.cl c22 (by simp)
        have c24 := kH37.cl c24 (by simp)
        have ri := kH37.rd ri (by simp)
        have c9 := kH37.cl c9 (by simp)
        refine wD_addo (b := z9) (o := 0) rfl ?_
        refine wD_sta (b := z9) (o := 4) rfl rfl c9 (by omega) rfl rfl (by simp) ?_
        intro H38 kH38 nH38 sH38
        have mH38 := kH38.1
        have hk := hk.new kH38 (fun b hb => by simp at hb ⊢; omega)
        have hat := hat.keep kH38 (fun x hx => by first | (simp at hx; done) | (simp at hx; omega))
        have rs := kH38.rd rs (by first | (simp; done) | (simp; omega))
        have rb := kH38.rd rb (by first | (simp; done) | (simp; omega))
        have rr := kH38.rd rr (by first | (simp; done) | (simp; omega))
        have c2 := kH38.cl c2 (by first | (simp; done) | (simp; omega))
        have c5 := kH38.cl c5 (by first | (simp; done) | (simp; omega))
        have c10 := kH38.cl c10 (by first | (simp; done) | (simp; omega))
        have c12 := kH38.cl c12 (by first | (simp; done) | (simp; omega))
        have c15 := kH38.cl c15 (by first | (simp; done) | (simp; omega))
        have c18 := kH38.cl c18 (by first | (simp; done) | (simp; omega))
        have hacc := hacc.keepX kH38 (by omega)
        have c22 := kH38.cl c22 (by first | (simp; done) | (simp; omega))
        have c24 := kH38.cl c24 (by first | (simp; done) | (simp; omega))
        have ri := kH38.rd ri (by first | (simp; done) | (simp; omega))
        have c9 : Cl H38 z9 [iv (((g.st o i).t1) + (max 0 ((g.B bj).need - (((g.B bi).need) - (min ((g.B bi).need) ((g.W bi).1 * (g.B bi).l1)))))), iv (((g.st o i).t2) + (max 0 ((g.B bj).need - (((g.B bi).need) - (min ((g.B bi).need) ((g.W bi).2 * (g.B bi).l2)))))), iv (((g.lb o i).1) + (min ((g.B bi).need) ((g.W bi).1 * (g.B bi).l1))), iv (((g.lb o i).2) + (min ((g.B bi).need) ((g.W bi).2 * (g.B bi).l2))), iv (((g.st o i).s1) + (max 0 (((g.B bi).need) - (min ((g.B bi).need) ((g.W bi).2 * (g.B bi).l2)) - ((g.B bj).need)))), iv (((g.st o i).s2) + (max 0 (((g.B bi).need) - (min ((g.B bi).need) ((g.W bi).1 * (g.B bi).l1)) - ((g.B bj).need)))), iv 0, iv 0] := sH38
        refine wD_end (by repeat' first | exact True.intro | exact (fun h => h) | refine And.intro ?_ ?_ | (intro h; have h : (_ : Nat) = _ := h; omega)) ?_
        first | refine wD_dreg ?_ | (refine wOps_nil ?_; refine wD_dreg ?_)
        refine wD_lda (b := H17.next) (o := 0) rfl c18.rd (show row 2 _ _ = some [iv (((g.st o i).f1) + ((g.W bi).1)), iv (((g.st o i).f2) + ((g.W bi).2))] from rfl) ?_
        refine wD_mov (v := iv ((g.B bj).need)) rfl ?_
        refine wD_mov (v := iv (g.rate bi bj)) rfl ?_
        obtain ⟨H39, fH39, kH39⟩ := up55_ok (kn := kn) (lo := H38.next) (H := H38) (a := (g.B bj).need) (b := (g.rate bi bj)) (by omega) (by omega)
        refine wD_callh (vs := [iv ((g.B bj).need), iv (g.rate bi bj)]) rfl (by kernel_rfl) (callX_args fH39) ?_
        have mH39 := kH39.1
        have hk := hk.trans kH39
        have hat := hat.keep kH39 (by simp)
        have rs := kH39.rd rs (by simp)
        have rb := kH39.rd rb (by simp)
        have rr := kH39.rd rr (by simp)
        have c2 := kH39.cl c2 (by simp)
        have c5 := kH39.cl c5 (by simp)
        have c10 := kH39.cl c10 (by simp)
        have c12 := kH39.cl c12 (by simp)
        have c15 := kH39.cl c15 (by simp)
        have c18 := kH39.cl c18 (by simp)
        have hacc := hacc.keep kH39
        have c22 := kH39.cl c22 (by simp)
        have c24 := kH39.cl c24 (by simp)
        have ri := kH39.rd ri (by simp)
        have c9 := kH39.cl c9 (by simp)
        obtain ⟨H40, fH40, kH40⟩ := one54_ok (kn := kn) (lo := H39.next) (H := H39) (a := upq ((g.B bj).need) (g.rate bi bj)) (by omega)
        refine wD_callh (vs := [iv (upq ((g.B bj).need) (g.rate bi bj))]) rfl (by kernel_rfl) (callX_args fH40) ?_
        have mH40 := kH40.1
        have hk := hk.trans kH40
        have hat := hat.keep kH40 (by simp)
        have rs := kH40.rd rs (by simp)
        have rb := kH40.rd rb (by simp)
        have rr := kH40.rd rr (by simp)
        have c2 := kH40.cl c2 (by simp)
        have c5 := kH40.cl c5 (by simp)
        have c10 := kH40.cl c10 (by simp)
        have c12 := kH40.cl c12 (by simp)
        have c15 := kH40.cl c15 (by simp)
        have c18 := kH40.cl c18 (by simp)
        have hacc := hacc.keep kH40
        have c22 := kH40.cl c22 (by simp)
        have c24 := kH40.cl c24 (by simp)
        have ri := kH40.rd ri (by simp)
        have c9 := kH40.cl c9 (by simp)
        obtain ⟨H41, fH41, kH41⟩ := plus56_ok (kn := kn) (lo := lo) (H := H40) (a := ((g.st o i).f1) + ((g.W bi).1)) (b := ((g.st o i).f2) + ((g.W bi).2)) (c := upq ((g.B bj).need) (g.rate bi bj)) (d := upq ((g.B bj).need) (g.rate bi bj)) ⟨by (have z1 := hin.f1; have z2 := hin.f2; have z3 := hin.t1; have z4 := hin.t2; have z5 := hin.s1; have z6 := hin.s2; have y1 := bd.w1; have y2 := bd.w2; have y4 := bd.m1; have y5 := bd.m2; have y6 := nb; have y7 := hlbi; omega), by (have z1 := hin.f1; have z2 := hin.f2; have z3 := hin.t1; have z4 := hin.t2; have z5 := hin.s1; have z6 := hin.s2; have y1 := bd.w1; have y2 := bd.w2; have y4 := bd.m1; have y5 := bd.m2; have y6 := nb; have y7 := hlbi; omega), by (have z1 := hin.f1; have z2 := hin.f2; have z3 := hin.t1; have z4 := hin.t2; have z5 := hin.s1; have z6 := hin.s2; have y1 := bd.w1; have y2 := bd.w2; have y4 := bd.m1; have y5 := bd.m2; have y6 := nb; have y7 := hlbi; omega), by (have z1 := hin.f1; have z2 := hin.f2; have z3 := hin.t1; have z4 := hin.t2; have z5 := hin.s1; have z6 := hin.s2; have y1 := bd.w1; have y2 := bd.w2; have y4 := bd.m1; have y5 := bd.m2; have y6 := nb; have y7 := hlbi; omega)⟩ (by omega)
        refine wD_callf (vs := [.agg #[iv (((g.st o i).f1) + ((g.W bi).1)), iv (((g.st o i).f2) + ((g.W bi).2))], .agg #[iv (upq ((g.B bj).need) (g.rate bi bj)), iv (upq ((g.B bj).need) (g.rate bi bj))]]) rfl (callX_args fH41) ?_
        have mH41 := kH41.1
        have hk := hk.trans kH41
        have hat := hat.keep kH41 (by simp)
        have rs := kH41.rd rs (by simp)
        have rb := kH41.rd rb (by simp)
        have rr := kH41.rd rr (by simp)
        have c2 := kH41.cl c2 (by simp)
        have c5 := kH41.cl c5 (by simp)
        have c10 := kH41.cl c10 (by simp)
        have c12 := kH41.cl c12 (by simp)
        have c15 := kH41.cl c15 (by simp)
        have c18 := kH41.cl c18 (by simp)
        have hacc := hacc.keep kH41
        have c22 := kH41.cl c22 (by simp)
        have c24 := kH41.cl c24 (by simp)
        have ri := kH41.rd ri (by simp)
        have c9 := kH41.cl c9 (by simp)
        refine wD_sta (b := z10) (o := 0) rfl rfl c10 (by omega) rfl rfl (by simp) ?_
        intro H42 kH42 nH42 sH42
        have mH42 := kH42.1
        have hk := hk.new kH42 (fun b hb => by simp at hb ⊢; omega)
        have hat := hat.keep kH42 (fun x hx => by first | (simp at hx; done) | (simp at hx; omega))
        have rs := kH42.rd rs (by first | (simp; done) | (simp; omega))
        have rb := kH42.rd rb (by first | (simp; done) | (simp; omega))
        have rr := kH42.rd rr (by first | (simp; done) | (simp; omega))
        have c2 := kH42.cl c2 (by first | (simp; done) | (simp; omega))
        have c5 := kH42.cl c5 (by first | (simp; done) | (simp; omega))
        have c12 := kH42.cl c12 (by first | (simp; done) | (simp; omega))
        have c15 := kH42.cl c15 (by first | (simp; done) | (simp; omega))
        have c18 := kH42.cl c18 (by first | (simp; done) | (simp; omega))
        have hacc := hacc.keepX kH42 (by omega)
        have c22 := kH42.cl c22 (by first | (simp; done) | (simp; omega))
        have c24 := kH42.cl c24 (by first | (simp; done) | (simp; omega))
        have ri := kH42.rd ri (by first | (simp; done) | (simp; omega))
        have c9 := kH42.cl c9 (by first | (simp; done) | (simp; omega))
        have c10 : Cl H42 z10 [iv ((((g.st o i).f1) + ((g.W bi).1)) + (upq ((g.B bj).need) (g.rate bi bj))), iv ((((g.st o i).f2) + ((g.W bi).2)) + (upq ((g.B bj).need) (g.rate bi bj)))] := sH42
        refine wD_end (by repeat' first | exact True.intro | exact (fun h => h) | refine And.intro ?_ ?_ | (intro h; have h : (_ : Nat) = _ := h; omega)) ?_
        first | refine wN_reg ?_ | (refine wOps_nil ?_; refine wN_reg ?_)
        refine wN_mov (v := iv (i : Int)) rfl ?_
        refine wN_add (a := (i : Int)) (b := 1) rfl rfl ⟨by omega, by omega⟩ ?_
        refine wN_mov (v := iv ((i : Int) + 1)) rfl ?_
        refine wN_end ?_
        obtain ⟨x1, x2, x3, x4, x5, x6, x7, x8⟩ := nx_eq (g := g) ebi ebj
        refine ⟨q - 1, (_, i + 1), by omega, ⟨by show i + 1 + (q - 1) = g.bn; omega, by show i + 1 < g.bn; omega, hk, hat, rs, rb, rr, c2, c5, ?_, ?_, ?_, by omega, hcn⟩, rfl, rfl, rfl, rfl, rfl, rfl, rfl, trivial⟩
        · show Cl _ _ [iv (g.st o (i + 1)).t1, iv (g.st o (i + 1)).t2, iv (g.lb o (i + 1)).1, iv (g.lb o (i + 1)).2, iv (g.st o (i + 1)).s1, iv (g.st o (i + 1)).s2, iv 0, iv 0]
          rw [x1, x2, x3, x4, x7, x8]; exact c9
        · show Cl _ _ [iv (g.st o (i + 1)).f1, iv (g.st o (i + 1)).f2]
          rw [x5, x6]; exact c10
        · exact hacc
  · have q1 : ¬ ((i : Int) < (g.bn : Int)) := of_decide_eq_false q1
    omega
end
end Go.Ax

/-! What 'low' makes of functions of flood (written by program). -/
namespace Go.Ax
open Go Go.RowKit Go.Proofs
theorem N3 : Try.f3.ntmps = 107 := by kernel_rfl
theorem Z3 : Try.f3.results.toList = ((List.toArray [(.tmp 8)]) : Array ResultVar).toList := by kernel_rfl
theorem B3 : Try.f3.body = some (at_ Try.f3 []) := by kernel_rfl
noncomputable def R3 : RC := (.seq (.reg [⟨(some 4), none, (.box 25 (.tmp 0))⟩, ⟨(some 8), none, (.mov (.const (.bool false)))⟩])
  (.seq (.seq (.reg [⟨(some 23), none, (.lda (.tmp 4) 5)⟩, ⟨(some 24), none, (.call ⟨(.value (.func 12)), (List.toArray [(.tmp 23), (.const (.int .i64 7))]), (List.toArray [25, 3])⟩ true)⟩, ⟨(some 25), none, (.mov (.tmp 24))⟩, ⟨(some 26), (some (25, false)), (.mov (.tmp 2))⟩, ⟨(some 27), (some (25, false)), (.len (.tmp 26))⟩, ⟨(some 28), (some (25, false)), (.cmpb .gtr (.tmp 27) (.const (.int .i64 12)))⟩, ⟨(some 29), none, (.pur ⟨(some 29), (.pick (.tmp 25) (.const (.bool true)) (.tmp 28)), 4, "", (List.toArray []), none⟩)⟩])
  (.cond (.tmp 29) (.seq (.reg [⟨(some 30), none, (.call ⟨(.value (.func 13)), (List.toArray []), (List.toArray [])⟩ true)⟩, ⟨(some 8), none, (.mov (.tmp 30))⟩])
  .ret)
  .skip))
  (.seq (.reg [⟨(some 32), none, (.lda (.tmp 4) 5)⟩, ⟨(some 33), none, (.mov (.tmp 1))⟩, ⟨(some 34), none, (.call ⟨(.value (.func 14)), (List.toArray [(.tmp 32), (.tmp 33)]), (List.toArray [25, 3])⟩ true)⟩, ⟨(some 31), none, (.mov (.tmp 34))⟩, ⟨(some 35), none, (.pur ⟨(some 35), (.extract (.tmp 31) 0), 30, "", (List.toArray []), none⟩)⟩, ⟨(some 36), none, (.pur ⟨(some 36), (.extract (.tmp 31) 1), 31, "", (List.toArray []), none⟩)⟩, ⟨(some 9), none, (.alc 30 [(.int .i64 0), (.int .i64 0)])⟩, ⟨none, none, (.sta (.tmp 9) (.tmp 35) 2)⟩, ⟨(some 10), none, (.mov (.tmp 36))⟩])
  (.seq (.reg [⟨(some 38), none, (.lda (.tmp 4) 5)⟩, ⟨(some 39), none, (.mov (.tmp 1))⟩, ⟨(some 40), none, (.call ⟨(.value (.func 15)), (List.toArray [(.tmp 38), (.tmp 39)]), (List.toArray [25, 3])⟩ true)⟩, ⟨(some 37), none, (.mov (.tmp 40))⟩, ⟨(some 41), none, (.pur ⟨(some 41), (.extract (.tmp 37) 0), 30, "", (List.toArray []), none⟩)⟩, ⟨(some 42), none, (.pur ⟨(some 42), (.extract (.tmp 37) 1), 31, "", (List.toArray []), none⟩)⟩, ⟨(some 11), none, (.alc 30 [(.int .i64 0), (.int .i64 0)])⟩, ⟨none, none, (.sta (.tmp 11) (.tmp 41) 2)⟩, ⟨(some 12), none, (.mov (.tmp 42))⟩])
  (.seq (.reg [⟨(some 44), none, (.lda (.tmp 4) 5)⟩, ⟨(some 45), none, (.mov (.tmp 2))⟩, ⟨(some 46), none, (.call ⟨(.value (.func 16)), (List.toArray [(.tmp 44), (.tmp 45)]), (List.toArray [25, 26])⟩ true)⟩, ⟨(some 43), none, (.mov (.tmp 46))⟩, ⟨(some 47), none, (.pur ⟨(some 47), (.extract (.tmp 43) 0), 34, "", (List.toArray []), none⟩)⟩, ⟨(some 48), none, (.pur ⟨(some 48), (.extract (.tmp 43) 1), 36, "", (List.toArray []), none⟩)⟩, ⟨(some 49), none, (.pur ⟨(some 49), (.extract (.tmp 43) 2), 31, "", (List.toArray []), none⟩)⟩, ⟨(some 14), none, (.alc 36 [(.int .i64 0), (.int .i64 0), (.int .i64 0), (.int .i64 0), (.int .i64 0), (.int .i64 0), (.int .i64 0), (.int .i64 0)])⟩, ⟨(some 13), none, (.mov (.tmp 47))⟩, ⟨none, none, (.sta (.tmp 14) (.tmp 48) 8)⟩, ⟨(some 15), none, (.mov (.tmp 49))⟩])
  (.seq (.reg [⟨(some 51), none, (.lda (.tmp 4) 5)⟩, ⟨(some 52), none, (.mov (.tmp 2))⟩, ⟨(some 53), none, (.call ⟨(.value (.func 17)), (List.toArray [(.tmp 51), (.tmp 52)]), (List.toArray [25, 26])⟩ true)⟩, ⟨(some 50), none, (.mov (.tmp 53))⟩, ⟨(some 54), none, (.pur ⟨(some 54), (.extract (.tmp 50) 0), 34, "", (List.toArray []), none⟩)⟩, ⟨(some 55), none, (.pur ⟨(some 55), (.extract (.tmp 50) 1), 36, "", (List.toArray []), none⟩)⟩, ⟨(some 56), none, (.pur ⟨(some 56), (.extract (.tmp 50) 2), 31, "", (List.toArray []), none⟩)⟩, ⟨(some 17), none, (.alc 36 [(.int .i64 0), (.int .i64 0), (.int .i64 0), (.int .i64 0), (.int .i64 0), (.int .i64 0), (.int .i64 0), (.int .i64 0)])⟩, ⟨(some 16), none, (.mov (.tmp 54))⟩, ⟨none, none, (.sta (.tmp 17) (.tmp 55) 8)⟩, ⟨(some 18), none, (.mov (.tmp 56))⟩])
  (.seq (.reg [⟨(some 58), none, (.lda (.tmp 4) 5)⟩, ⟨(some 59), none, (.mov (.tmp 2))⟩, ⟨(some 60), none, (.mov (.tmp 3))⟩, ⟨(some 61), none, (.call ⟨(.value (.func 18)), (List.toArray [(.tmp 58), (.tmp 59), (.tmp 60)]), (List.toArray [25, 26, 3])⟩ true)⟩, ⟨(some 57), none, (.mov (.tmp 61))⟩, ⟨(some 62), none, (.pur ⟨(some 62), (.extract (.tmp 57) 0), 3, "", (List.toArray []), none⟩)⟩, ⟨(some 63), none, (.pur ⟨(some 63), (.extract (.tmp 57) 1), 31, "", (List.toArray []), none⟩)⟩, ⟨(some 19), none, (.mov (.tmp 62))⟩, ⟨(some 20), none, (.mov (.tmp 63))⟩])
  (.seq (.reg [⟨(some 65), none, (.lda (.tmp 4) 5)⟩, ⟨(some 66), none, (.mov (.tmp 2))⟩, ⟨(some 67), none, (.mov (.tmp 3))⟩, ⟨(some 68), none, (.call ⟨(.value (.func 19)), (List.toArray [(.tmp 65), (.tmp 66), (.tmp 67)]), (List.toArray [25, 26, 3])⟩ true)⟩, ⟨(some 64), none, (.mov (.tmp 68))⟩, ⟨(some 69), none, (.pur ⟨(some 69), (.extract (.tmp 64) 0), 3, "", (List.toArray []), none⟩)⟩, ⟨(some 70), none, (.pur ⟨(some 70), (.extract (.tmp 64) 1), 31, "", (List.toArray []), none⟩)⟩, ⟨(some 21), none, (.mov (.tmp 69))⟩, ⟨(some 22), none, (.mov (.tmp 70))⟩])
  (.seq (.reg [⟨(some 71), none, (.lda (.tmp 9) 2)⟩, ⟨(some 72), none, (.lda (.tmp 11) 2)⟩, ⟨(some 73), none, (.pur ⟨(some 73), (.binOp .eql 30 (.tmp 71) (.tmp 72) 30), 4, "", (List.toArray []), none⟩)⟩, ⟨(some 74), none, (.mov (.tmp 73))⟩, ⟨(some 75), (some (74, true)), (.mov (.tmp 10))⟩, ⟨(some 76), (some (74, true)), (.mov (.tmp 12))⟩, ⟨(some 77), (some (74, true)), (.cmpb .eql (.tmp 75) (.tmp 76))⟩, ⟨(some 78), none, (.pur ⟨(some 78), (.pick (.tmp 74) (.tmp 77) (.const (.bool false))), 4, "", (List.toArray []), none⟩)⟩, ⟨(some 79), none, (.mov (.tmp 78))⟩, ⟨(some 80), (some (79, true)), (.mov (.tmp 13))⟩, ⟨(some 81), (some (79, true)), (.mov (.tmp 16))⟩, ⟨(some 82), (some (79, true)), (.call ⟨(.value (.func 20)), (List.toArray [(.tmp 80), (.tmp 81)]), (List.toArray [34, 34])⟩ true)⟩, ⟨(some 83), none, (.pur ⟨(some 83), (.pick (.tmp 79) (.tmp 82) (.const (.bool false))), 4, "", (List.toArray []), none⟩)⟩, ⟨(some 84), none, (.mov (.tmp 83))⟩, ⟨(some 85), (some (84, true)), (.lda (.tmp 14) 8)⟩, ⟨(some 86), (some (84, true)), (.lda (.tmp 17) 8)⟩, ⟨(some 87), (some (84, true)), (.pur ⟨(some 87), (.binOp .eql 36 (.tmp 85) (.tmp 86) 36), 4, "", (List.toArray []), none⟩)⟩, ⟨(some 88), none, (.pur ⟨(some 88), (.pick (.tmp 84) (.tmp 87) (.const (.bool false))), 4, "", (List.toArray []), none⟩)⟩, ⟨(some 89), none, (.mov (.tmp 88))⟩, ⟨(some 90), (some (89, true)), (.mov (.tmp 15))⟩, ⟨(some 91), (some (89, true)), (.mov (.tmp 18))⟩, ⟨(some 92), (some (89, true)), (.cmpb .eql (.tmp 90) (.tmp 91))⟩, ⟨(some 93), none, (.pur ⟨(some 93), (.pick (.tmp 89) (.tmp 92) (.const (.bool false))), 4, "", (List.toArray []), none⟩)⟩, ⟨(some 94), none, (.mov (.tmp 93))⟩, ⟨(some 95), (some (94, true)), (.mov (.tmp 19))⟩, ⟨(some 96), (some (94, true)), (.mov (.tmp 21))⟩, ⟨(some 97), (some (94, true)), (.cmpb .eql (.tmp 95) (.tmp 96))⟩, ⟨(some 98), none, (.pur ⟨(some 98), (.pick (.tmp 94) (.tmp 97) (.const (.bool false))), 4, "", (List.toArray []), none⟩)⟩, ⟨(some 99), none, (.mov (.tmp 98))⟩, ⟨(some 100), (some (99, true)), (.mov (.tmp 20))⟩, ⟨(some 101), (some (99, true)), (.mov (.tmp 22))⟩, ⟨(some 102), (some (99, true)), (.cmpb .eql (.tmp 100) (.tmp 101))⟩, ⟨(some 103), none, (.pur ⟨(some 103), (.pick (.tmp 99) (.tmp 102) (.const (.bool false))), 4, "", (List.toArray []), none⟩)⟩, ⟨(some 104), none, (.mov (.tmp 103))⟩, ⟨(some 105), (some (104, true)), (.call ⟨(.value (.func 13)), (List.toArray []), (List.toArray [])⟩ true)⟩, ⟨(some 106), none, (.pur ⟨(some 106), (.pick (.tmp 104) (.tmp 105) (.const (.bool false))), 4, "", (List.toArray []), none⟩)⟩, ⟨(some 8), none, (.mov (.tmp 106))⟩])
  .ret)))))))))
theorem L3 : low Try.prog Try.f3.ntmps (at_ Try.f3 []) = some R3 := by kernel_rfl
theorem N12 : Try.f12.ntmps = 55 := by kernel_rfl
theorem Z12 : Try.f12.results.toList = ((List.toArray [(.tmp 4)]) : Array ResultVar).toList := by kernel_rfl
theorem B12 : Try.f12.body = some (at_ Try.f12 []) := by kernel_rfl
noncomputable def R12 : RC := (.seq (.reg [⟨(some 2), none, (.box 25 (.tmp 0))⟩, ⟨(some 4), none, (.mov (.const (.bool false)))⟩])
  (.seq (.seq (.reg [⟨(some 9), none, (.addo (.tmp 2) 0)⟩, ⟨(some 10), none, (.ld (.tmp 9) 1)⟩, ⟨(some 11), none, (.len (.tmp 10))⟩, ⟨(some 12), none, (.mov (.tmp 1))⟩, ⟨(some 13), none, (.cmpb .gtr (.tmp 11) (.tmp 12))⟩, ⟨(some 14), none, (.mov (.tmp 13))⟩, ⟨(some 15), (some (14, true)), (.addo (.tmp 2) 0)⟩, ⟨(some 16), (some (14, true)), (.ld (.tmp 15) 1)⟩, ⟨(some 17), (some (14, true)), (.len (.tmp 16))⟩, ⟨(some 18), (some (14, true)), (.cmpb .leq (.tmp 17) (.const (.int .i64 7)))⟩, ⟨(some 19), none, (.pur ⟨(some 19), (.pick (.tmp 14) (.tmp 18) (.const (.bool false))), 4, "", (List.toArray []), none⟩)⟩, ⟨(some 20), none, (.mov (.tmp 19))⟩, ⟨(some 21), (some (20, false)), (.addo (.tmp 2) 0)⟩, ⟨(some 22), (some (20, false)), (.ld (.tmp 21) 1)⟩, ⟨(some 23), (some (20, false)), (.len (.tmp 22))⟩, ⟨(some 24), (some (20, false)), (.cmpb .gtr (.tmp 23) (.const (.int .i64 10)))⟩, ⟨(some 25), none, (.pur ⟨(some 25), (.pick (.tmp 20) (.const (.bool true)) (.tmp 24)), 4, "", (List.toArray []), none⟩)⟩, ⟨(some 26), none, (.mov (.tmp 25))⟩, ⟨(some 27), (some (26, false)), (.addo (.tmp 2) 1)⟩, ⟨(some 28), (some (26, false)), (.ld (.tmp 27) 1)⟩, ⟨(some 29), (some (26, false)), (.len (.tmp 28))⟩, ⟨(some 30), (some (26, false)), (.cmpb .gtr (.tmp 29) (.const (.int .i64 10)))⟩, ⟨(some 31), none, (.pur ⟨(some 31), (.pick (.tmp 26) (.const (.bool true)) (.tmp 30)), 4, "", (List.toArray []), none⟩)⟩])
  (.cond (.tmp 31) (.seq (.reg [⟨(some 4), none, (.mov (.const (.bool true)))⟩])
  .ret)
  .skip))
  (.seq (.seq (.reg [⟨(some 32), none, (.addo (.tmp 2) 0)⟩, ⟨(some 33), none, (.ld (.tmp 32) 1)⟩, ⟨(some 34), none, (.len (.tmp 33))⟩, ⟨(some 35), none, (.mov (.const (.int .i64 0)))⟩])
  (.block 0 (.other (at_ Try.f12 [1, 1, 0, 1, 0]))))
  (.seq (.seq (.reg [⟨(some 44), none, (.addo (.tmp 2) 1)⟩, ⟨(some 45), none, (.ld (.tmp 44) 1)⟩, ⟨(some 46), none, (.len (.tmp 45))⟩, ⟨(some 47), none, (.mov (.const (.int .i64 0)))⟩])
  (.block 2 (.other (at_ Try.f12 [1, 1, 1, 0, 1, 0]))))
  (.seq (.reg [⟨(some 4), none, (.mov (.const (.bool false)))⟩])
  .ret)))))
theorem L12 : low Try.prog Try.f12.ntmps (at_ Try.f12 []) = some R12 := by kernel_rfl
theorem E12_1 : at_ Try.f12 [1, 1, 0, 1, 0] = .loop (at_ Try.f12 [1, 1, 0, 1, 0, 0]) := by kernel_rfl
noncomputable def R12x1 : RC := (.seq (.reg [⟨(some 36), none, (.cmp .lss (.tmp 35) (.tmp 34))⟩])
  (.seq (.cond (.tmp 36) .skip
  (.exit 0))
  (.seq (.block 1 (.seq (.reg [⟨(some 37), none, (.idx (.tmp 33) (.tmp 35) 4)⟩, ⟨(some 38), none, (.lda (.tmp 37) 4)⟩, ⟨(some 6), none, (.alc 57 [(.int .i64 0), (.int .i64 0), (.int .i64 0), (.slice none 0 0)])⟩, ⟨none, none, (.sta (.tmp 6) (.tmp 38) 4)⟩])
  (.seq (.reg [⟨(some 39), none, (.addo (.tmp 6) 3)⟩, ⟨(some 40), none, (.ld (.tmp 39) 1)⟩, ⟨(some 41), none, (.len (.tmp 40))⟩, ⟨(some 42), none, (.cmp .gtr (.tmp 41) (.const (.int .i64 8)))⟩])
  (.cond (.tmp 42) (.seq (.reg [⟨(some 4), none, (.mov (.const (.bool true)))⟩])
  .ret)
  .skip))))
  (.reg [⟨(some 43), none, (.ari .add (.tmp 35) (.const (.int .i64 1)))⟩, ⟨(some 35), none, (.mov (.tmp 43))⟩]))))
theorem L12x1 : low Try.prog Try.f12.ntmps (at_ Try.f12 [1, 1, 0, 1, 0, 0]) = some R12x1 := by kernel_rfl
theorem E12_2 : at_ Try.f12 [1, 1, 1, 0, 1, 0] = .loop (at_ Try.f12 [1, 1, 1, 0, 1, 0, 0]) := by kernel_rfl
noncomputable def R12x2 : RC := (.seq (.reg [⟨(some 48), none, (.cmp .lss (.tmp 47) (.tmp 46))⟩])
  (.seq (.cond (.tmp 48) .skip
  (.exit 2))
  (.seq (.block 3 (.seq (.reg [⟨(some 49), none, (.idx (.tmp 45) (.tmp 47) 1)⟩, ⟨(some 50), none, (.ld (.tmp 49) 1)⟩, ⟨(some 8), none, (.mov (.tmp 50))⟩])
  (.seq (.reg [⟨(some 51), none, (.mov (.tmp 8))⟩, ⟨(some 52), none, (.len (.tmp 51))⟩, ⟨(some 53), none, (.cmp .gtr (.tmp 52) (.const (.int .i64 10)))⟩])
  (.cond (.tmp 53) (.seq (.reg [⟨(some 4), none, (.mov (.const (.bool true)))⟩])
  .ret)
  .skip))))
  (.reg [⟨(some 54), none, (.ari .add (.tmp 47) (.const (.int .i64 1)))⟩, ⟨(some 47), none, (.mov (.tmp 54))⟩]))))
theorem L12x2 : low Try.prog Try.f12.ntmps (at_ Try.f12 [1, 1, 1, 0, 1, 0, 0]) = some R12x2 := by kernel_rfl
end Go.Ax

/-
  Flood: the document's errors (40), Times (17), Through (19), Same (20); great (12) (written by program).
-/
namespace Go.Ax
open Go Go.RowKit Go.Proofs

theorem prun_bind {α β : Type} {P : Program} (m : Sem α) (f : α → Sem β) : prun P (m >>= f) = (prun P m).bind (fun a => prun P (f a)) := by
  show prun P (m.bind f) = _
  induction m with
  | pure a => rfl
  | program k ih => exact ih P
  | _ => rfl
theorem prun_pure {α : Type} {P : Program} (a : α) : prun P (pure a : Sem α) = some a := rfl
theorem prun_ite {α : Type} {P : Program} {c : Prop} [Decidable c] (a b : Sem α) : prun P (if c then a else b) = if c then prun P a else prun P b := by split <;> rfl
theorem same_struct {P : Program} {d : Nat} {t : TypeId} {xs : Array Value} {fs : Array Field} (hu : prun P (underlying t) = some (.struct fs)) (hp : P.stoodInHeld t = false)
    (hf : ∀ f ∈ fs.toList, ∃ v, prun P (part f.type xs f.offset) = some v ∧ prun P (Op.equalIn d f.type v v) = some true) :
    prun P (Op.equalIn (d + 1) t (.agg xs) (.agg xs)) = some true := by
  simp only [Op.equalIn, prun_bind, hu, Option.bind_some, show prun P program = some P from rfl, hp, Bool.false_eq_true, if_false]
  rw [← Array.forIn_toList]
  generalize fs.toList = l at hf
  induction l with
  | nil => rfl
  | cons f l ih =>
    obtain ⟨v, h1, h2⟩ := hf f (by simp)
    have ih := ih (fun g hg => hf g (by simp [hg]))
    simp only [List.forIn_cons, prun_bind, prun_ite]
    split
    · simp only [h1, h2, Option.bind_some, Bool.not_true, Bool.false_eq_true, if_false, prun_pure]
      exact ih
    · simp only [prun_pure, Option.bind_some]
      exact ih
theorem same_int {d : Nat} {x : Int} : prun Try.prog (Op.equalIn (d + 1) 3 (iv x) (iv x)) = some true := by
  have h : prun Try.prog (Op.equalIn (d + 1) 3 (iv x) (iv x)) = some (x == x) := by kernel_rfl
  rw [h]; simp
def fldsIn (P : Program) (t : TypeId) : Array Field :=
  match P.underlying t with
  | some (.struct fs) => fs
  | _ => #[]
theorem un30 : prun Try.prog (underlying 30) = some (.struct (fldsIn Try.prog 30)) := by kernel_rfl
theorem fs30 : (fldsIn Try.prog 30).toList.map (fun f => (f.type, f.offset)) = [(3, 0), (3, 1)] := by kernel_rfl
theorem st30 : Program.stoodInHeld Try.prog 30 = false := by kernel_rfl
theorem un36 : prun Try.prog (underlying 36) = some (.struct (fldsIn Try.prog 36)) := by kernel_rfl
theorem fs36 : (fldsIn Try.prog 36).toList.map (fun f => (f.type, f.offset)) = [(30, 0), (30, 2), (30, 4), (30, 6)] := by kernel_rfl
theorem st36 : Program.stoodInHeld Try.prog 36 = false := by kernel_rfl
theorem un52 : prun Try.prog (underlying 52) = some (.struct (fldsIn Try.prog 52)) := by kernel_rfl
theorem fs52 : (fldsIn Try.prog 52).toList.map (fun f => (f.type, f.offset)) = [(3, 0), (30, 1), (30, 3)] := by kernel_rfl
theorem st52 : Program.stoodInHeld Try.prog 52 = false := by kernel_rfl
theorem same_sp {d : Nat} {a b : Int} : prun Try.prog (Op.equalIn (d + 2) 30 (.agg #[iv a, iv b]) (.agg #[iv a, iv b])) = some true := by
  refine same_struct (xs := #[iv a, iv b]) un30 st30 ?_
  intro f hf
  have h : (f.type, f.offset) ∈ [(3, 0), (3, 1)] := by rw [← fs30]; exact List.mem_map.mpr ⟨f, hf, rfl⟩
  simp only [List.mem_cons, List.not_mem_nil, or_false, Prod.mk.injEq] at h
  rcases h with ⟨h1, h2⟩ | ⟨h1, h2⟩ <;> rw [h1, h2]
  · exact ⟨iv a, by kernel_rfl, same_int⟩
  · exact ⟨iv b, by kernel_rfl, same_int⟩
theorem same_us {d : Nat} {x1 x2 x3 x4 x5 x6 x7 x8 : Int} : prun Try.prog (Op.equalIn (d + 3) 36 (.agg #[iv x1, iv x2, iv x3, iv x4, iv x5, iv x6, iv x7, iv x8]) (.agg #[iv x1, iv x2, iv x3, iv x4, iv x5, iv x6, iv x7, iv x8])) = some true := by
  refine same_struct (xs := #[iv x1, iv x2, iv x3, iv x4, iv x5, iv x6, iv x7, iv x8]) un36 st36 ?_
  intro f hf
  have h : (f.type, f.offset) ∈ [(30, 0), (30, 2), (30, 4), (30, 6)] := by rw [← fs36]; exact List.mem_map.mpr ⟨f, hf, rfl⟩
  simp only [List.mem_cons, List.not_mem_nil, or_false, Prod.mk.injEq] at h
  rcases h with ⟨h1, h2⟩ | ⟨h1, h2⟩ | ⟨h1, h2⟩ | ⟨h1, h2⟩ <;> rw [h1, h2]
  · exact ⟨spv x1 x2, by kernel_rfl, same_sp⟩
  · exact ⟨spv x3 x4, by kernel_rfl, same_sp⟩
  · exact ⟨spv x5 x6, by kernel_rfl, same_sp⟩
  · exact ⟨spv x7 x8, by kernel_rfl, same_sp⟩
theorem same_fl {d : Nat} {a b c e z : Int} : prun Try.prog (Op.equalIn (d + 3) 52 (.agg #[iv a, iv b, iv c, iv e, iv z]) (.agg #[iv a, iv b, iv c, iv e, iv z])) = some true := by
  refine same_struct (xs := #[iv a, iv b, iv c, iv e, iv z]) un52 st52 ?_
  intro f hf
  have h : (f.type, f.offset) ∈ [(3, 0), (30, 1), (30, 3)] := by rw [← fs52]; exact List.mem_map.mpr ⟨f, hf, rfl⟩
  simp only [List.mem_cons, List.not_mem_nil, or_false, Prod.mk.injEq] at h
  rcases h with ⟨h1, h2⟩ | ⟨h1, h2⟩ | ⟨h1, h2⟩ <;> rw [h1, h2]
  · exact ⟨iv a, by kernel_rfl, same_int⟩
  · exact ⟨spv b c, by kernel_rfl, same_sp⟩
  · exact ⟨spv e z, by kernel_rfl, same_sp⟩
theorem eql30 {n : Nat} {S : Rg} {d : Option Tmp} {x y : Operand} {p : String} {a b : Int} (hx : evS S x = some (.agg #[iv a, iv b])) (hy : evS S y = some (.agg #[iv a, iv b])) : pureOp Try.prog (frS n S) ⟨d, .binOp .eql 30 x y 30, 4, p, #[], none⟩ = some (.bool true) := by
  have key : prun Try.prog (do eqGuard .eql 30 x y (.agg #[iv a, iv b]) (.agg #[iv a, iv b]); binOp .eql 30 (.agg #[iv a, iv b]) (.agg #[iv a, iv b])) = some (.bool true) := by
    rw [prun_bind, show prun Try.prog (eqGuard .eql 30 x y (.agg #[iv a, iv b]) (.agg #[iv a, iv b])) = some () from by kernel_rfl, Option.bind_some]
    show prun Try.prog (do pure (Value.bool ((← Op.equalIn (9998 + 2) 30 (.agg #[iv a, iv b]) (.agg #[iv a, iv b]))))) = _
    rw [prun_bind, same_sp]; rfl
  unfold pureOp
  simp only [ev_frS, hx, hy]
  rw [show (flat (.agg #[iv a, iv b]) && flat (.agg #[iv a, iv b])) = true from rfl, cond_true, key]
  rfl
theorem eql36 {n : Nat} {S : Rg} {d : Option Tmp} {x y : Operand} {p : String} {x1 x2 x3 x4 x5 x6 x7 x8 : Int} (hx : evS S x = some (.agg #[iv x1, iv x2, iv x3, iv x4, iv x5, iv x6, iv x7, iv x8])) (hy : evS S y = some (.agg #[iv x1, iv x2, iv x3, iv x4, iv x5, iv x6, iv x7, iv x8])) : pureOp Try.prog (frS n S) ⟨d, .binOp .eql 36 x y 36, 4, p, #[], none⟩ = some (.bool true) := by
  have key : prun Try.prog (do eqGuard .eql 36 x y (.agg #[iv x1, iv x2, iv x3, iv x4, iv x5, iv x6, iv x7, iv x8]) (.agg #[iv x1, iv x2, iv x3, iv x4, iv x5, iv x6, iv x7, iv x8]); binOp .eql 36 (.agg #[iv x1, iv x2, iv x3, iv x4, iv x5, iv x6, iv x7, iv x8]) (.agg #[iv x1, iv x2, iv x3, iv x4, iv x5, iv x6, iv x7, iv x8])) = some (.bool true) := by
    rw [prun_bind, show prun Try.prog (eqGuard .eql 36 x y (.agg #[iv x1, iv x2, iv x3, iv x4, iv x5, iv x6, iv x7, iv x8]) (.agg #[iv x1, iv x2, iv x3, iv x4, iv x5, iv x6, iv x7, iv x8])) = some () from by kernel_rfl, Option.bind_some]
    show prun Try.prog (do pure (Value.bool ((← Op.equalIn (9997 + 3) 36 (.agg #[iv x1, iv x2, iv x3, iv x4, iv x5, iv x6, iv x7, iv x8]) (.agg #[iv x1, iv x2, iv x3, iv x4, iv x5, iv x6, iv x7, iv x8]))))) = _
    rw [prun_bind, same_us]; rfl
  unfold pureOp
  simp only [ev_frS, hx, hy]
  rw [show (flat (.agg #[iv x1, iv x2, iv x3, iv x4, iv x5, iv x6, iv x7, iv x8]) && flat (.agg #[iv x1, iv x2, iv x3, iv x4, iv x5, iv x6, iv x7, iv x8])) = true from rfl, cond_true, key]
  rfl
theorem neq52 {n : Nat} {S : Rg} {d : Option Tmp} {x y : Operand} {p : String} {a b c e z : Int} (hx : evS S x = some (.agg #[iv a, iv b, iv c, iv e, iv z])) (hy : evS S y = some (.agg #[iv a, iv b, iv c, iv e, iv z])) : pureOp Try.prog (frS n S) ⟨d, .binOp .neq 52 x y 52, 4, p, #[], none⟩ = some (.bool false) := by
  have key : prun Try.prog (do eqGuard .neq 52 x y (.agg #[iv a, iv b, iv c, iv e, iv z]) (.agg #[iv a, iv b, iv c, iv e, iv z]); binOp .neq 52 (.agg #[iv a, iv b, iv c, iv e, iv z]) (.agg #[iv a, iv b, iv c, iv e, iv z])) = some (.bool false) := by
    rw [prun_bind, show prun Try.prog (eqGuard .neq 52 x y (.agg #[iv a, iv b, iv c, iv e, iv z]) (.agg #[iv a, iv b, iv c, iv e, iv z])) = some () from by kernel_rfl, Option.bind_some]
    show prun Try.prog (do pure (Value.bool (!(← Op.equalIn (9997 + 3) 52 (.agg #[iv a, iv b, iv c, iv e, iv z]) (.agg #[iv a, iv b, iv c, iv e, iv z]))))) = _
    rw [prun_bind, same_fl]; rfl
  unfold pureOp
  simp only [ev_frS, hx, hy]
  rw [show (flat (.agg #[iv a, iv b, iv c, iv e, iv z]) && flat (.agg #[iv a, iv b, iv c, iv e, iv z])) = true from rfl, cond_true, key]
  rfl
/-- what Times, Through and Work answer -/
noncomputable def Fh.tl (g : Fh) (us : List Int) : List Fs := bif decide (g.er us = 0) then g.fs (no us) g.bn else []
noncomputable def Fh.tu (g : Fh) (us : List Int) : Fs := bif decide (g.er us = 0) then g.la us else Fs.z
noncomputable def Fh.th (g : Fh) (us : List Int) (e : Int) : Int × Int := bif decide (g.er us = 0) then (bif inB e 0 1099511627776 then ((cntD (g.fs (no us) g.bn) e : Int), 0) else (0, 2)) else (0, g.er us)
def Fh.wv (g : Fh) (e : Int) : Int × Int × Int := bif g.ok then (bif inB e 0 (g.bn - 1) then ((g.W e.toNat).1, (g.W e.toNat).2, 0) else (0, 0, 2)) else (0, 0, 1)
section
variable {kn : FuncId → Option Bool} {lo : Nat} {H : Hp}
theorem errors_ok {g : Fh} {f m cap : Nat} {sa : Option Addr} {us : List Int} (hat : g.At f H) (hlf : Lf H sa m cap us) (hlo : lo ≤ H.next) (hm1 : m ≤ 1000) : ∃ H', FnX Try.prog kn lo 40 [.agg g.v.toArray, .slice sa m cap] H (iv (g.er us)) H' ∧ Keep H H' [] := by
  have key := fnX_low (kn := kn) (lo := lo) (H := H) (args := [.agg g.v.toArray, .slice sa m cap]) (Q := fun w H' => w = iv (g.er us) ∧ Keep H H' []) Try.func40 B40 N40 Z40 L40 (by simp) ?_
  · obtain ⟨w, H', h, rfl, q⟩ := key; exact ⟨H', h, q⟩
  have hk := Keep.refl H []
  have hfl := hat.le
  have flf : ∀ b, sa = some ⟨b, 0, none⟩ → b < H.next := hlf.old
  refine wN_seq ?_
  refine wN_box (v := .agg g.v.toArray) rfl ?_
  intro H1 kH1 nH1 c1
  have c1 : Cl H1 H.next [.slice g.ba g.bn g.bcap, .slice g.ra g.rn g.rcap, iv g.inlet, iv g.reserve, iv g.winds] := c1
  have mH1 := kH1.1
  have hk := hk.trans kH1
  have hat := hat.keep kH1 (by simp)
  have hlf := kH1.lf hlf (fun _ _ => by simp)
  refine wN_mov (v := iv 0) rfl ?_
  refine wN_end ?_
  refine wN_seq ?_
  refine wN_lda (b := H.next) (o := 0) rfl c1.rd (show row 5 _ _ = some [.slice g.ba g.bn g.bcap, .slice g.ra g.rn g.rcap, iv g.inlet, iv g.reserve, iv g.winds] from rfl) ?_
  refine wN_callB rfl (Harvest_ok (lo := lo) hat (by omega)) ?_
  intro tH2 H2 hH2 kH2
  have mH2 := kH2.1
  have hk := hk.trans kH2
  have hat := hat.keep kH2 (by simp)
  have hlf := kH2.lf hlf (fun _ _ => by simp)
  have c1 := kH2.cl c1 (by simp)
  cases tH2
  · have hok := hH2
    refine wN_pur (v := .bool true) rfl rfl ?_
    refine wN_end ?_
    refine condT ?_
    refine wN_seq ?_
    refine wN_mov (v := iv 1) rfl ?_
    refine wN_end ?_
    exact And.intro trivial (Exists.intro _ (And.intro rfl ⟨by rw [Fh.er1 hok]; rfl, hk⟩))
  · have hok := hH2; have v := Fh.vd hok hat; have vn := v.n
    refine wN_pur (v := .bool false) rfl rfl ?_
    refine wN_end ?_
    refine condF ?_
    first | refine wN_skip ?_ | skip
    refine wN_seq ?_
    refine wN_addo (b := H.next) (o := 0) rfl ?_
    refine wN_ld (b := H.next) (o := 0) (v := .slice g.ba g.bn g.bcap) rfl c1.rd rfl ?_
    refine wN_len (m := g.bn) rfl ?_
    refine wN_mov (v := .slice sa m cap) rfl ?_
    refine wN_callB rfl (Order_ok hlf.sl hlf.len hm1 (by omega)) ?_
    intro tH3 H3 hH3 kH3
    have mH3 := kH3.1
    have hk := hk.trans kH3
    have hat := hat.keep kH3 (by simp)
    have hlf := kH3.lf hlf (fun _ _ => by simp)
    have c1 := kH3.cl c1 (by simp)
    cases tH3
    · have hord := hH3
      refine wN_pur (v := .bool true) rfl rfl ?_
      refine wN_end ?_
      refine condT ?_
      refine wN_seq ?_
      refine wN_mov (v := iv 2) rfl ?_
      refine wN_end ?_
      exact And.intro trivial (Exists.intro _ (And.intro rfl ⟨by rw [Fh.er2 hok hord]; rfl, hk⟩))
    · have hord := hH3
      have ho := ordB_t hord
      obtain ⟨sb, rfl, rfl, hcap, hfx⟩ := hlf.at ho vn.1
      have lsb := hfx.lt
      refine wN_pur (v := .bool false) rfl rfl ?_
      refine wN_end ?_
      refine condF ?_
      first | refine wN_skip ?_ | skip
      refine wN_seq ?_
      refine wN_lda (b := H.next) (o := 0) rfl c1.rd (show row 5 _ _ = some [.slice g.ba g.bn g.bcap, .slice g.ra g.rn g.rcap, iv g.inlet, iv g.reserve, iv g.winds] from rfl) ?_
      refine wN_mov (v := .slice (some ⟨sb, 0, none⟩) g.bn cap) rfl ?_
      obtain ⟨wH4, H4, fH4, kH4, hc⟩ := times_ok (kn := kn) (lo := lo) (H := H3) (cap := cap) hat v ho rfl (hlf.fx sb rfl).rd (by omega)
      have mH4 := kH4.1
      have hk := hk.trans kH4
      have hat := hat.keep kH4 (by simp)
      have hlf := kH4.lf hlf (fun _ _ => by simp)
      have c1 := kH4.cl c1 (by simp)
      rcases hc with ⟨hcan, la, lc, rfl, hls, hlnew⟩ | ⟨hcan, rfl⟩
      · have fls : ∀ b, la = some ⟨b, 0, none⟩ → H3.next ≤ b ∧ b < H4.next := fun b e => ⟨hlnew b e, hls.old b e⟩
        refine wN_callf rfl (callX_args fH4) ?_
        refine wN_mov (v := .tuple #[.slice la g.bn lc, .agg #[iv ((g.la us).t1), iv ((g.la us).t2), iv ((g.la us).l1), iv ((g.la us).l2), iv ((g.la us).s1), iv ((g.la us).s2), iv ((g.la us).r1), iv ((g.la us).r2)], .bool true]) rfl ?_
        refine wN_pur (v := .slice la g.bn lc) rfl (by kernel_rfl) ?_
        refine wN_pur (v := .agg #[iv ((g.la us).t1), iv ((g.la us).t2), iv ((g.la us).l1), iv ((g.la us).l2), iv ((g.la us).s1), iv ((g.la us).s2), iv ((g.la us).r1), iv ((g.la us).r2)]) rfl (by kernel_rfl) ?_
        refine wN_pur (v := .bool true) rfl (by kernel_rfl) ?_
        refine wN_alc ?_
        intro H5 kH5 nH5 c5
        have c5 : Cl H5 H4.next [iv 0, iv 0, iv 0, iv 0, iv 0, iv 0, iv 0, iv 0] := c5
        have mH5 := kH5.1
        have hk := hk.trans kH5
        have hat := hat.keep kH5 (by simp)
        have hlf := kH5.lf hlf (fun _ _ => by simp)
        have c1 := kH5.cl c1 (by simp)
        have hls := kH5.sl0 hls
        refine wN_mov (v := .slice la g.bn lc) rfl ?_
        refine wN_sta (b := H4.next) (o := 0) rfl rfl c5 (by omega) rfl rfl (by simp) ?_
        intro H6 kH6 nH6 sH6
        have mH6 := kH6.1
        have hk := hk.new kH6 (fun b hb => by simp at hb ⊢; omega)
        have hat := hat.keep kH6 (fun x hx => by first | (simp at hx; done) | (simp at hx; omega))
        have hlf := kH6.lf hlf (fun b e => by have := flf b e; first | (simp; done) | (simp; omega))
        have c1 := kH6.cl c1 (by first | (simp; done) | (simp; omega))
        have hls := kH6.sl hls (fun b e => by have := fls b e; first | (simp; done) | (simp; omega))
        have c5 : Cl H6 H4.next [iv ((g.la us).t1), iv ((g.la us).t2), iv ((g.la us).l1), iv ((g.la us).l2), iv ((g.la us).s1), iv ((g.la us).s2), iv ((g.la us).r1), iv ((g.la us).r2)] := sH6
        refine wN_mov (v := .bool true) rfl ?_
        refine wN_end ?_
        refine wN_seq ?_
        refine wN_mov (v := .bool true) rfl ?_
        refine wN_pur (v := .bool false) rfl rfl ?_
        refine wN_end ?_
        refine condF ?_
        first | refine wN_skip ?_ | skip
        refine wN_seq ?_
        refine wN_addo (b := H4.next) (o := 0) rfl ?_
        refine wN_addo (b := H4.next) (o := 0) rfl ?_
        refine wN_ld (b := H4.next) (o := 1) (v := iv ((g.la us).t2)) rfl c5.rd rfl ?_
        refine wN_addo (b := H.next) (o := 0) rfl ?_
        refine wN_ld (b := H.next) (o := 3) (v := iv g.reserve) rfl c1.rd rfl ?_
        refine wN_c_gtr (a := (g.la us).t2) (b := g.reserve) rfl rfl ?_
        refine wN_end ?_
        refine And.intro (fun q1 => ?_) (fun q1 => ?_)
        · have q1 : ((g.la us).t2) > g.reserve := of_decide_eq_true q1
          have hen := q1
          refine wN_seq ?_
          refine wN_mov (v := iv 10) rfl ?_
          refine wN_end ?_
          exact And.intro trivial (Exists.intro _ (And.intro rfl ⟨by rw [Fh.er10 hok hord hcan (by omega)]; rfl, hk⟩))
        · have q1 : ¬ (((g.la us).t2) > g.reserve) := of_decide_eq_false q1
          have hen := q1
          first | refine wN_skip ?_ | skip
          refine wN_seq ?_
          refine wN_mov (v := iv 0) rfl ?_
          refine wN_end ?_
          exact And.intro trivial (Exists.intro _ (And.intro rfl ⟨by rw [Fh.er0 ⟨hok, ho, hcan, by omega⟩]; rfl, hk⟩))
      · refine wN_callf rfl (callX_args fH4) ?_
        refine wN_mov (v := .tuple #[.slice none 0 0, .agg #[iv 0, iv 0, iv 0, iv 0, iv 0, iv 0, iv 0, iv 0], .bool false]) rfl ?_
        refine wN_pur (v := .slice none 0 0) rfl (by kernel_rfl) ?_
        refine wN_pur (v := .agg #[iv 0, iv 0, iv 0, iv 0, iv 0, iv 0, iv 0, iv 0]) rfl (by kernel_rfl) ?_
        refine wN_pur (v := .bool false) rfl (by kernel_rfl) ?_
        refine wN_alc ?_
        intro H7 kH7 nH7 c7
        have c7 : Cl H7 H4.next [iv 0, iv 0, iv 0, iv 0, iv 0, iv 0, iv 0, iv 0] := c7
        have mH7 := kH7.1
        have hk := hk.trans kH7
        have hat := hat.keep kH7 (by simp)
        have hlf := kH7.lf hlf (fun _ _ => by simp)
        have c1 := kH7.cl c1 (by simp)
        refine wN_mov (v := .slice none 0 0) rfl ?_
        refine wN_sta (b := H4.next) (o := 0) rfl rfl c7 (by omega) rfl rfl (by simp) ?_
        intro H8 kH8 nH8 sH8
        have mH8 := kH8.1
        have hk := hk.new kH8 (fun b hb => by simp at hb ⊢; omega)
        have hat := hat.keep kH8 (fun x hx => by first | (simp at hx; done) | (simp at hx; omega))
        have hlf := kH8.lf hlf (fun b e => by have := flf b e; first | (simp; done) | (simp; omega))
        have c1 := kH8.cl c1 (by first | (simp; done) | (simp; omega))
        have c7 : Cl H8 H4.next [iv 0, iv 0, iv 0, iv 0, iv 0, iv 0, iv 0, iv 0] := sH8
        refine wN_mov (v := .bool false) rfl ?_
        refine wN_end ?_
        refine wN_seq ?_
        refine wN_mov (v := .bool false) rfl ?_
        refine wN_pur (v := .bool true) rfl rfl ?_
        refine wN_end ?_
        refine condT ?_
        refine wN_seq ?_
        refine wN_mov (v := iv 4) rfl ?_
        refine wN_end ?_
        exact And.intro trivial (Exists.intro _ (And.intro rfl ⟨by rw [Fh.er4 hok hord hcan]; rfl, hk⟩))
theorem RefTimes_ok {g : Fh} {f m cap : Nat} {sa : Option Addr} {us : List Int} (hat : g.At f H) (hlf : Lf H sa m cap us) (hlo : lo ≤ H.next) (hm1 : m ≤ 1000) : ∃ w H', FnX Try.prog kn lo 17 [.agg g.v.toArray, .slice sa m cap] H w H' ∧ Keep H H' [] ∧ ∃ la lc, w = .tuple #[.slice la (g.tl us).length lc, .agg (g.tu us).u.toArray, iv (g.er us)] ∧ Sl H' la (g.tl us).length lc (flc (g.tl us)) := by
  refine fnX_low (kn := kn) (lo := lo) (H := H) (args := [.agg g.v.toArray, .slice sa m cap]) (Q := fun w H' => Keep H H' [] ∧ ∃ la lc, w = .tuple #[.slice la (g.tl us).length lc, .agg (g.tu us).u.toArray, iv (g.er us)] ∧ Sl H' la (g.tl us).length lc (flc (g.tl us))) Try.func17 B17 N17 Z17 L17 (by simp) ?_
  have hk := Keep.refl H []
  have hfl := hat.le
  have flf : ∀ b, sa = some ⟨b, 0, none⟩ → b < H.next := hlf.old
  refine wN_seq ?_
  refine wN_box (v := .agg g.v.toArray) rfl ?_
  intro H1 kH1 nH1 c1
  have c1 : Cl H1 H.next [.slice g.ba g.bn g.bcap, .slice g.ra g.rn g.rcap, iv g.inlet, iv g.reserve, iv g.winds] := c1
  have mH1 := kH1.1
  have hk := hk.trans kH1
  have hat := hat.keep kH1 (by simp)
  have hlf := kH1.lf hlf (fun _ _ => by simp)
  refine wN_mov (v := .slice none 0 0) rfl ?_
  refine wN_alc ?_
  intro H2 kH2 nH2 c2
  have c2 : Cl H2 H1.next [iv 0, iv 0, iv 0, iv 0, iv 0, iv 0, iv 0, iv 0] := c2
  have mH2 := kH2.1
  have hk := hk.trans kH2
  have hat := hat.keep kH2 (by simp)
  have hlf := kH2.lf hlf (fun _ _ => by simp)
  have c1 := kH2.cl c1 (by simp)
  refine wN_mov (v := iv 0) rfl ?_
  refine wN_end ?_
  refine wN_seq ?_
  refine wN_lda (b := H.next) (o := 0) rfl c1.rd (show row 5 _ _ = some [.slice g.ba g.bn g.bcap, .slice g.ra g.rn g.rcap, iv g.inlet, iv g.reserve, iv g.winds] from rfl) ?_
  refine wN_mov (v := .slice sa m cap) rfl ?_
  obtain ⟨H3, fH3, kH3⟩ := errors_ok (kn := kn) (lo := lo) (H := H2) hat hlf (by omega) hm1
  refine wN_callf (vs := [.agg #[.slice g.ba g.bn g.bcap, .slice g.ra g.rn g.rcap, iv g.inlet, iv g.reserve, iv g.winds], .slice sa m cap]) rfl (callX_args fH3) ?_
  have mH3 := kH3.1
  have hk := hk.trans kH3
  have hat := hat.keep kH3 (by simp)
  have hlf := kH3.lf hlf (fun _ _ => by simp)
  have c1 := kH3.cl c1 (by simp)
  have c2 := kH3.cl c2 (by simp)
  refine wN_mov (v := iv (g.er us)) rfl ?_
  refine wN_end ?_
  refine wN_seq ?_
  refine wN_mov (v := iv (g.er us)) rfl ?_
  refine wN_c_neq (a := (g.er us)) (b := 0) rfl rfl ?_
  refine wN_end ?_
  refine And.intro (fun q1 => ?_) (fun q1 => ?_)
  · have q1 : (g.er us) ≠ 0 := by simpa using q1
    have her := q1
    refine wN_seq ?_
    refine wN_pur (v := .agg #[iv 0, iv 0, iv 0, iv 0, iv 0, iv 0, iv 0, iv 0]) rfl (by kernel_rfl) ?_
    refine wN_mov (v := iv (g.er us)) rfl ?_
    refine wN_mov (v := .slice none 0 0) rfl ?_
    refine wN_sta (b := H1.next) (o := 0) rfl rfl c2 (by omega) rfl rfl (by simp) ?_
    intro H4 kH4 nH4 sH4
    have mH4 := kH4.1
    have hk := hk.new kH4 (fun b hb => by simp at hb ⊢; omega)
    have hat := hat.keep kH4 (fun x hx => by first | (simp at hx; done) | (simp at hx; omega))
    have hlf := kH4.lf hlf (fun b e => by have := flf b e; first | (simp; done) | (simp; omega))
    have c1 := kH4.cl c1 (by first | (simp; done) | (simp; omega))
    have c2 : Cl H4 H1.next [iv 0, iv 0, iv 0, iv 0, iv 0, iv 0, iv 0, iv 0] := sH4
    refine wN_mov (v := iv (g.er us)) rfl ?_
    refine wN_end ?_
    refine And.intro trivial (Exists.intro _ (And.intro (res_tct rfl rfl a36 i36s rfl c2 rfl) ⟨hk, none, 0, ?_, ?_⟩))
    · unfold Fh.tl Fh.tu; rw [decide_eq_false her]; rfl
    · unfold Fh.tl; rw [decide_eq_false her]; exact .inl ⟨.inl rfl, rfl, rfl, rfl⟩
  · have q1 : ¬ ((g.er us) ≠ 0) := by simpa using q1
    have hgood := Fh.good_of (g := g) (us := us) (by omega)
    have hok := hgood.ok; have ho := hgood.ord; have v := Fh.vd hok hat; have vn := v.n
    obtain ⟨sb, rfl, rfl, hcap, hfx⟩ := hlf.at ho vn.1
    have lsb := hfx.lt
    first | refine wN_skip ?_ | skip
    refine wN_seq ?_
    refine wN_lda (b := H.next) (o := 0) rfl c1.rd (show row 5 _ _ = some [.slice g.ba g.bn g.bcap, .slice g.ra g.rn g.rcap, iv g.inlet, iv g.reserve, iv g.winds] from rfl) ?_
    refine wN_mov (v := .slice (some ⟨sb, 0, none⟩) g.bn cap) rfl ?_
    obtain ⟨wH5, H5, fH5, kH5, hc⟩ := times_ok (kn := kn) (lo := lo) (H := H3) (cap := cap) hat v ho rfl (hlf.fx sb rfl).rd (by omega)
    have mH5 := kH5.1
    have hk := hk.trans kH5
    have hat := hat.keep kH5 (by simp)
    have hlf := kH5.lf hlf (fun _ _ => by simp)
    have c1 := kH5.cl c1 (by simp)
    have c2 := kH5.cl c2 (by simp)
    rcases hc with ⟨_, la, lc, rfl, hls, hlnew⟩ | ⟨hcan, _⟩
    rotate_left 1
    · rw [hgood.can] at hcan; cases hcan
    have fls : ∀ b, la = some ⟨b, 0, none⟩ → H3.next ≤ b ∧ b < H5.next := fun b e => ⟨hlnew b e, hls.old b e⟩
    refine wN_callf rfl (callX_args fH5) ?_
    refine wN_mov (v := .tuple #[.slice la g.bn lc, .agg #[iv ((g.la us).t1), iv ((g.la us).t2), iv ((g.la us).l1), iv ((g.la us).l2), iv ((g.la us).s1), iv ((g.la us).s2), iv ((g.la us).r1), iv ((g.la us).r2)], .bool true]) rfl ?_
    refine wN_pur (v := .slice la g.bn lc) rfl (by kernel_rfl) ?_
    refine wN_pur (v := .agg #[iv ((g.la us).t1), iv ((g.la us).t2), iv ((g.la us).l1), iv ((g.la us).l2), iv ((g.la us).s1), iv ((g.la us).s2), iv ((g.la us).r1), iv ((g.la us).r2)]) rfl (by kernel_rfl) ?_
    refine wN_pur (v := .bool true) rfl (by kernel_rfl) ?_
    refine wN_alc ?_
    intro H6 kH6 nH6 c6
    have c6 : Cl H6 H5.next [iv 0, iv 0, iv 0, iv 0, iv 0, iv 0, iv 0, iv 0] := c6
    have mH6 := kH6.1
    have hk := hk.trans kH6
    have hat := hat.keep kH6 (by simp)
    have hlf := kH6.lf hlf (fun _ _ => by simp)
    have c1 := kH6.cl c1 (by simp)
    have c2 := kH6.cl c2 (by simp)
    have hls := kH6.sl0 hls
    refine wN_mov (v := .slice la g.bn lc) rfl ?_
    refine wN_sta (b := H5.next) (o := 0) rfl rfl c6 (by omega) rfl rfl (by simp) ?_
    intro H7 kH7 nH7 sH7
    have mH7 := kH7.1
    have hk := hk.new kH7 (fun b hb => by simp at hb ⊢; omega)
    have hat := hat.keep kH7 (fun x hx => by first | (simp at hx; done) | (simp at hx; omega))
    have hlf := kH7.lf hlf (fun b e => by have := flf b e; first | (simp; done) | (simp; omega))
    have c1 := kH7.cl c1 (by first | (simp; done) | (simp; omega))
    have c2 := kH7.cl c2 (by first | (simp; done) | (simp; omega))
    have hls := kH7.sl hls (fun b e => by have := fls b e; first | (simp; done) | (simp; omega))
    have c6 : Cl H7 H5.next [iv ((g.la us).t1), iv ((g.la us).t2), iv ((g.la us).l1), iv ((g.la us).l2), iv ((g.la us).s1), iv ((g.la us).s2), iv ((g.la us).r1), iv ((g.la us).r2)] := sH7
    refine wN_mov (v := .bool true) rfl ?_
    refine wN_end ?_
    refine wD_seq ?_
    refine wD_mov (v := .slice la g.bn lc) rfl ?_
    refine wD_lda (b := H5.next) (o := 0) rfl c6.rd (show row 8 _ _ = some [iv ((g.la us).t1), iv ((g.la us).t2), iv ((g.la us).l1), iv ((g.la us).l2), iv ((g.la us).s1), iv ((g.la us).s2), iv ((g.la us).r1), iv ((g.la us).r2)] from rfl) ?_
    refine wD_mov (v := .slice la g.bn lc) rfl ?_
    refine wD_sta (b := H1.next) (o := 0) rfl rfl c2 (by omega) rfl rfl (by simp) ?_
    intro H8 kH8 nH8 sH8
    have mH8 := kH8.1
    have hk := hk.new kH8 (fun b hb => by simp at hb ⊢; omega)
    have hat := hat.keep kH8 (fun x hx => by first | (simp at hx; done) | (simp at hx; omega))
    have hlf := kH8.lf hlf (fun b e => by have := flf b e; first | (simp; done) | (simp; omega))
    have c1 := kH8.cl c1 (by first | (simp; done) | (simp; omega))
    have hls := kH8.sl hls (fun b e => by have := fls b e; first | (simp; done) | (simp; omega))
    have c6 := kH8.cl c6 (by first | (simp; done) | (simp; omega))
    have c2 : Cl H8 H1.next [iv ((g.la us).t1), iv ((g.la us).t2), iv ((g.la us).l1), iv ((g.la us).l2), iv ((g.la us).s1), iv ((g.la us).s2), iv ((g.la us).r1), iv ((g.la us).r2)] := sH8
    refine wD_mov (v := iv 0) rfl ?_
    refine wD_end (by repeat' first | exact True.intro | exact (fun h => h) | refine And.intro ?_ ?_ | (intro h; have h : (_ : Nat) = _ := h; omega)) ?_
    have e0 := Fh.er0 hgood
    refine And.intro trivial (Exists.intro _ (And.intro (res_tct rfl rfl a36 i36s rfl c2 rfl) ⟨hk, la, lc, ?_, ?_⟩))
    · rw [e0]; unfold Fh.tl Fh.tu; rw [e0]; simp only [decide_true, cond_true, Fh.fs_len]; rfl
    · unfold Fh.tl; rw [e0]; simp only [decide_true, cond_true, Fh.fs_len]; exact hls
theorem Times_v {g : Fh} {f m cap : Nat} {sa : Option Addr} {us : List Int} (hat : g.At f H) (hlf : Lf H sa m cap us) (hlo : lo ≤ H.next) : ∃ w H', FnX Try.prog kn lo 16 [.agg g.v.toArray, .slice sa m cap] H w H' ∧ Keep H H' [] ∧ ∃ la lc, w = .tuple #[.slice la (g.tl us).length lc, .agg (g.tu us).u.toArray, iv (g.er us)] ∧ Sl H' la (g.tl us).length lc (flc (g.tl us)) := by
  obtain ⟨w, H', hf, hk, hc⟩ := Times_ok (kn := kn) hat hlf hlo
  refine ⟨w, H', hf, hk, ?_⟩
  rcases hc with ⟨her, rfl⟩ | ⟨hgood, bb, rfl, hbb, hsc⟩
  · refine ⟨none, 0, ?_, ?_⟩
    · unfold Fh.tl Fh.tu; rw [decide_eq_false her]; rfl
    · unfold Fh.tl; rw [decide_eq_false her]; exact .inl ⟨.inl rfl, rfl, rfl, rfl⟩
  · have e0 := Fh.er0 hgood
    refine ⟨some ⟨bb, 0, none⟩, g.bn, ?_, ?_⟩
    · rw [e0]; unfold Fh.tl Fh.tu; rw [e0]; simp only [decide_true, cond_true, Fh.fs_len]
    · unfold Fh.tl; rw [e0]; simp only [decide_true, cond_true, Fh.fs_len]; exact hsc.cl.sl (Nat.le_refl _)
theorem RefThrough_ok {e : Int} {g : Fh} {f m cap : Nat} {sa : Option Addr} {us : List Int} (hat : g.At f H) (hlf : Lf H sa m cap us) (hlo : lo ≤ H.next) (hm1 : m ≤ 1000) : ∃ H', FnX Try.prog kn lo 19 [.agg g.v.toArray, .slice sa m cap, iv e] H (.tuple #[iv (g.th us e).1, iv (g.th us e).2]) H' ∧ Keep H H' [] := by
  have key := fnX_low (kn := kn) (lo := lo) (H := H) (args := [.agg g.v.toArray, .slice sa m cap, iv e]) (Q := fun w H' => w = .tuple #[iv (g.th us e).1, iv (g.th us e).2] ∧ Keep H H' []) Try.func19 B19 N19 Z19 L19 (by simp) ?_
  · obtain ⟨w, H', h, rfl, q⟩ := key; exact ⟨H', h, q⟩
  have hk := Keep.refl H []
  have hfl := hat.le
  have flf : ∀ b, sa = some ⟨b, 0, none⟩ → b < H.next := hlf.old
  refine wN_seq ?_
  refine wN_box (v := .agg g.v.toArray) rfl ?_
  intro H1 kH1 nH1 c1
  have c1 : Cl H1 H.next [.slice g.ba g.bn g.bcap, .slice g.ra g.rn g.rcap, iv g.inlet, iv g.reserve, iv g.winds] := c1
  have mH1 := kH1.1
  have hk := hk.trans kH1
  have hat := hat.keep kH1 (by simp)
  have hlf := kH1.lf hlf (fun _ _ => by simp)
  refine wN_mov (v := iv 0) rfl ?_
  refine wN_mov (v := iv 0) rfl ?_
  refine wN_end ?_
  refine wN_seq ?_
  refine wN_lda (b := H.next) (o := 0) rfl c1.rd (show row 5 _ _ = some [.slice g.ba g.bn g.bcap, .slice g.ra g.rn g.rcap, iv g.inlet, iv g.reserve, iv g.winds] from rfl) ?_
  refine wN_mov (v := .slice sa m cap) rfl ?_
  obtain ⟨H2, fH2, kH2⟩ := errors_ok (kn := kn) (lo := lo) (H := H1) hat hlf (by omega) hm1
  refine wN_callf (vs := [.agg #[.slice g.ba g.bn g.bcap, .slice g.ra g.rn g.rcap, iv g.inlet, iv g.reserve, iv g.winds], .slice sa m cap]) rfl (callX_args fH2) ?_
  have mH2 := kH2.1
  have hk := hk.trans kH2
  have hat := hat.keep kH2 (by simp)
  have hlf := kH2.lf hlf (fun _ _ => by simp)
  have c1 := kH2.cl c1 (by simp)
  refine wN_mov (v := iv (g.er us)) rfl ?_
  refine wN_end ?_
  refine wN_seq ?_
  refine wN_mov (v := iv (g.er us)) rfl ?_
  refine wN_c_neq (a := (g.er us)) (b := 0) rfl rfl ?_
  refine wN_end ?_
  refine And.intro (fun q1 => ?_) (fun q1 => ?_)
  · have q1 : (g.er us) ≠ 0 := by simpa using q1
    have her := q1
    refine wN_seq ?_
    refine wN_mov (v := iv (g.er us)) rfl ?_
    refine wN_mov (v := iv 0) rfl ?_
    refine wN_mov (v := iv (g.er us)) rfl ?_
    refine wN_end ?_
    exact And.intro trivial (Exists.intro _ (And.intro rfl ⟨by unfold Fh.th; rw [decide_eq_false her]; rfl, hk⟩))
  · have q1 : ¬ ((g.er us) ≠ 0) := by simpa using q1
    have e0 : g.er us = 0 := by omega
    first | refine wN_skip ?_ | skip
    refine wN_seq ?_
    refine wN_mov (v := iv e) rfl ?_
    refine wN_callB rfl (in37_ok) ?_
    intro tH3 H3 hH3 kH3
    have mH3 := kH3.1
    have hk := hk.trans kH3
    have hat := hat.keep kH3 (by simp)
    have hlf := kH3.lf hlf (fun _ _ => by simp)
    have c1 := kH3.cl c1 (by simp)
    cases tH3
    · have hin := hH3
      refine wN_pur (v := .bool true) rfl rfl ?_
      refine wN_end ?_
      refine condT ?_
      refine wN_seq ?_
      refine wN_mov (v := iv 0) rfl ?_
      refine wN_mov (v := iv 2) rfl ?_
      refine wN_end ?_
      exact And.intro trivial (Exists.intro _ (And.intro rfl ⟨by unfold Fh.th; rw [e0, hin]; simp only [decide_true, cond_true, cond_false]; rfl, hk⟩))
    · have hin := hH3
      have hgood := Fh.good_of (g := g) (us := us) (by omega)
      have hok := hgood.ok; have ho := hgood.ord; have v := Fh.vd hok hat; have vn := v.n
      obtain ⟨sb, rfl, rfl, hcap, hfx⟩ := hlf.at ho vn.1
      have lsb := hfx.lt
      refine wN_pur (v := .bool false) rfl rfl ?_
      refine wN_end ?_
      refine condF ?_
      first | refine wN_skip ?_ | skip
      refine wN_seq ?_
      refine wN_lda (b := H.next) (o := 0) rfl c1.rd (show row 5 _ _ = some [.slice g.ba g.bn g.bcap, .slice g.ra g.rn g.rcap, iv g.inlet, iv g.reserve, iv g.winds] from rfl) ?_
      refine wN_mov (v := .slice (some ⟨sb, 0, none⟩) g.bn cap) rfl ?_
      obtain ⟨wH4, H4, fH4, kH4, hc⟩ := times_ok (kn := kn) (lo := lo) (H := H3) (cap := cap) hat v ho rfl (hlf.fx sb rfl).rd (by omega)
      have mH4 := kH4.1
      have hk := hk.trans kH4
      have hat := hat.keep kH4 (by simp)
      have hlf := kH4.lf hlf (fun _ _ => by simp)
      have c1 := kH4.cl c1 (by simp)
      rcases hc with ⟨_, la, lc, rfl, hls, hlnew⟩ | ⟨hcan, _⟩
      rotate_left 1
      · rw [hgood.can] at hcan; cases hcan
      have fls : ∀ b, la = some ⟨b, 0, none⟩ → H3.next ≤ b ∧ b < H4.next := fun b e => ⟨hlnew b e, hls.old b e⟩
      refine wN_callf rfl (callX_args fH4) ?_
      refine wN_mov (v := .tuple #[.slice la g.bn lc, .agg #[iv ((g.la us).t1), iv ((g.la us).t2), iv ((g.la us).l1), iv ((g.la us).l2), iv ((g.la us).s1), iv ((g.la us).s2), iv ((g.la us).r1), iv ((g.la us).r2)], .bool true]) rfl ?_
      refine wN_pur (v := .slice la g.bn lc) rfl (by kernel_rfl) ?_
      refine wN_pur (v := .agg #[iv ((g.la us).t1), iv ((g.la us).t2), iv ((g.la us).l1), iv ((g.la us).l2), iv ((g.la us).s1), iv ((g.la us).s2), iv ((g.la us).r1), iv ((g.la us).r2)]) rfl (by kernel_rfl) ?_
      refine wN_pur (v := .bool true) rfl (by kernel_rfl) ?_
      refine wN_alc ?_
      intro H5 kH5 nH5 c5
      have c5 : Cl H5 H4.next [iv 0, iv 0, iv 0, iv 0, iv 0, iv 0, iv 0, iv 0] := c5
      have mH5 := kH5.1
      have hk := hk.trans kH5
      have hat := hat.keep kH5 (by simp)
      have hlf := kH5.lf hlf (fun _ _ => by simp)
      have c1 := kH5.cl c1 (by simp)
      have hls := kH5.sl0 hls
      refine wN_mov (v := .slice la g.bn lc) rfl ?_
      refine wN_sta (b := H4.next) (o := 0) rfl rfl c5 (by omega) rfl rfl (by simp) ?_
      intro H6 kH6 nH6 sH6
      have mH6 := kH6.1
      have hk := hk.new kH6 (fun b hb => by simp at hb ⊢; omega)
      have hat := hat.keep kH6 (fun x hx => by first | (simp at hx; done) | (simp at hx; omega))
      have hlf := kH6.lf hlf (fun b e => by have := flf b e; first | (simp; done) | (simp; omega))
      have c1 := kH6.cl c1 (by first | (simp; done) | (simp; omega))
      have hls := kH6.sl hls (fun b e => by have := fls b e; first | (simp; done) | (simp; omega))
      have c5 : Cl H6 H4.next [iv ((g.la us).t1), iv ((g.la us).t2), iv ((g.la us).l1), iv ((g.la us).l2), iv ((g.la us).s1), iv ((g.la us).s2), iv ((g.la us).r1), iv ((g.la us).r2)] := sH6
      refine wN_mov (v := .bool true) rfl ?_
      refine wN_end ?_
      refine wN_seq ?_
      refine wN_mov (v := iv 0) rfl ?_
      refine wN_end ?_
      refine wN_seq ?_
      refine wN_mov (v := iv 0) rfl ?_
      refine wN_end ?_
      rcases hls with ⟨_, h0, _⟩ | ⟨lb, rfl, rl, _⟩
      · omega
      have llb := rl.lt
      refine loop_low (fn := Try.f19) E19_1 N19 L19x1 (fun i : Nat => [(2, iv e), (9, .slice (some ⟨lb, 0, none⟩) g.bn lc), (12, iv ((cntD ((g.fs (no us) g.bn).take i) e : Nat) : Int)), (13, iv (i : Int))])
        (fun k i H' => i + k = g.bn ∧ Keep H6 H' []) g.bn 0 ⟨by omega, Keep.refl _ _⟩ ⟨rfl, rfl, rfl, rfl, trivial⟩ ?_
      rintro k i L1 ⟨hik, hki⟩
      have hk := hk.trans hki
      have hat := hat.keep hki (by simp)
      have hlf := hki.lf hlf (fun _ _ => by simp)
      have c1 := hki.cl c1 (by simp)
      have c5 := hki.cl c5 (by simp)
      have rl := hki.rd rl (by simp)
      have kb := hki
      have mi := hki.1
      refine wN_seq ?_
      refine wN_mov (v := iv (i : Int)) rfl ?_
      refine wN_mov (v := .slice (some ⟨lb, 0, none⟩) g.bn lc) rfl ?_
      refine wN_len (m := g.bn) rfl ?_
      refine wN_c_lss (a := (i : Int)) (b := (g.bn : Int)) rfl rfl ?_
      refine wN_end ?_
      refine And.intro (fun q2 => ?_) (fun q2 => ?_)
      · have q2 : (i : Int) < (g.bn : Int) := of_decide_eq_true q2
        have hi : i < g.bn := (by omega); have hcl := cntD_le ((g.fs (no us) g.bn).take i) e; have hcl2 : ((g.fs (no us) g.bn).take i).length ≤ i := List.length_take_le _ _
        first | refine wN_skip ?_ | skip
        refine wN_seq ?_
        refine wN_mov (v := .slice (some ⟨lb, 0, none⟩) g.bn lc) rfl ?_
        refine wN_mov (v := iv (i : Int)) rfl ?_
        refine wN_idx (b := lb) (o := 0) (k := i) (j := (i : Int)) rfl rfl rfl hi ?_
        refine wN_addo (b := lb) (o := 0 + i * 5) rfl ?_
        refine wN_addo (b := lb) (o := 0 + i * 5 + 3) rfl ?_
        refine wN_ld (b := lb) (o := 0 + i * 5 + 4) (v := iv ((g.st (no us) i).d2)) rfl rl (flc_at (j := 4) (Fh.fs_at (g := g) (o := no us) (k := g.bn) (i := i) (by omega)) rfl) ?_
        refine wN_mov (v := iv e) rfl ?_
        refine wN_c_leq (a := (g.st (no us) i).d2) (b := e) rfl rfl ?_
        refine wN_end ?_
        refine And.intro (fun q3 => ?_) (fun q3 => ?_)
        · have q3 : ((g.st (no us) i).d2) ≤ e := of_decide_eq_true q3
          have hd := q3
          first | refine wN_reg ?_ | (refine wOps_nil ?_; refine wN_reg ?_)
          refine wN_mov (v := iv ((cntD ((g.fs (no us) g.bn).take i) e : Nat) : Int)) rfl ?_
          refine wN_add (a := ((cntD ((g.fs (no us) g.bn).take i) e : Nat) : Int)) (b := 1) rfl rfl ⟨by omega, by omega⟩ ?_
          refine wN_mov (v := iv (((cntD ((g.fs (no us) g.bn).take i) e : Nat) : Int) + 1)) rfl ?_
          refine wN_end ?_
          first | refine wN_reg ?_ | (refine wOps_nil ?_; refine wN_reg ?_)
          refine wN_mov (v := iv (i : Int)) rfl ?_
          refine wN_add (a := (i : Int)) (b := 1) rfl rfl ⟨by omega, by omega⟩ ?_
          refine wN_mov (v := iv ((i : Int) + 1)) rfl ?_
          refine wN_end ?_
          exact ⟨k - 1, i + 1, by omega, ⟨by omega, kb⟩, rfl, rfl, by show some (iv _) = some (iv _); congr 2; rw [cntD_step (Fh.fs_at (g := g) (o := no us) (k := g.bn) (i := i) (by omega)), decide_eq_true hd]; rfl, rfl, trivial⟩
        · have q3 : ¬ (((g.st (no us) i).d2) ≤ e) := of_decide_eq_false q3
          have hd := q3
          first | refine wN_skip ?_ | skip
          first | refine wN_reg ?_ | (refine wOps_nil ?_; refine wN_reg ?_)
          refine wN_mov (v := iv (i : Int)) rfl ?_
          refine wN_add (a := (i : Int)) (b := 1) rfl rfl ⟨by omega, by omega⟩ ?_
          refine wN_mov (v := iv ((i : Int) + 1)) rfl ?_
          refine wN_end ?_
          exact ⟨k - 1, i + 1, by omega, ⟨by omega, kb⟩, rfl, rfl, by show some (iv _) = some (iv _); congr 2; rw [cntD_step (Fh.fs_at (g := g) (o := no us) (k := g.bn) (i := i) (by omega)), decide_eq_false hd]; rfl, rfl, trivial⟩
      · have q2 : ¬ ((i : Int) < (g.bn : Int)) := of_decide_eq_false q2
        refine wN_seq ?_
        refine wN_mov (v := iv ((cntD ((g.fs (no us) g.bn).take i) e : Nat) : Int)) rfl ?_
        refine wN_mov (v := iv ((cntD ((g.fs (no us) g.bn).take i) e : Nat) : Int)) rfl ?_
        refine wN_mov (v := iv 0) rfl ?_
        refine wN_end ?_
        have ei : i = g.bn := by omega
        refine And.intro trivial (Exists.intro _ (And.intro rfl ⟨?_, hk⟩))
        unfold Fh.th; rw [e0, hin]; simp only [decide_true, cond_true]
        rw [List.take_of_length_le (by rw [Fh.fs_len]; omega)]; rfl
theorem Through_v {e : Int} {g : Fh} {f m cap : Nat} {sa : Option Addr} {us : List Int} (hat : g.At f H) (hlf : Lf H sa m cap us) (hlo : lo ≤ H.next) : ∃ H', FnX Try.prog kn lo 18 [.agg g.v.toArray, .slice sa m cap, iv e] H (.tuple #[iv (g.th us e).1, iv (g.th us e).2]) H' ∧ Keep H H' [] := by
  obtain ⟨w, H', hf, hk, hc⟩ := Through_ok (kn := kn) (e := e) hat hlf hlo
  obtain rfl : w = .tuple #[iv (g.th us e).1, iv (g.th us e).2] := by
    rcases hc with ⟨her, rfl⟩ | ⟨hgood, hin, rfl⟩ | ⟨hgood, hin, rfl⟩
    · unfold Fh.th; rw [decide_eq_false her]; rfl
    · unfold Fh.th; rw [Fh.er0 hgood, hin]; simp only [decide_true, cond_true, cond_false]
    · unfold Fh.th; rw [Fh.er0 hgood, hin]; simp only [decide_true, cond_true]
  exact ⟨H', hf, hk⟩
theorem Work_v {g : Fh} {f : Nat} {e : Int} (hat : g.At f H) (hlo : lo ≤ H.next) : ∃ H', FnX Try.prog kn lo 14 [.agg g.v.toArray, iv e] H (.tuple #[spv (g.wv e).1 (g.wv e).2.1, iv (g.wv e).2.2]) H' ∧ Keep H H' [] := by
  obtain ⟨w, H', hf, hk, hc⟩ := Work_ok (kn := kn) (e := e) hat hlo
  obtain rfl : w = .tuple #[spv (g.wv e).1 (g.wv e).2.1, iv (g.wv e).2.2] := by
    rcases hc with ⟨hok, rfl⟩ | ⟨hok, hin, rfl⟩ | ⟨hok, i, hi, rfl, rfl⟩
    · unfold Fh.wv; rw [hok]; rfl
    · unfold Fh.wv; rw [hok, hin]; rfl
    · unfold Fh.wv; rw [hok, inB_is ⟨by omega, by omega⟩]; rfl
  exact ⟨H', hf, hk⟩
theorem RefWork_v {g : Fh} {f : Nat} {e : Int} (hat : g.At f H) (hlo : lo ≤ H.next) : ∃ H', FnX Try.prog kn lo 15 [.agg g.v.toArray, iv e] H (.tuple #[spv (g.wv e).1 (g.wv e).2.1, iv (g.wv e).2.2]) H' ∧ Keep H H' [] := by
  obtain ⟨w, H', hf, hk, hc⟩ := RefWork_ok (kn := kn) (e := e) hat hlo
  obtain rfl : w = .tuple #[spv (g.wv e).1 (g.wv e).2.1, iv (g.wv e).2.2] := by
    rcases hc with ⟨hok, rfl⟩ | ⟨hok, hin, rfl⟩ | ⟨hok, i, hi, rfl, rfl⟩
    · unfold Fh.wv; rw [hok]; rfl
    · unfold Fh.wv; rw [hok, hin]; rfl
    · unfold Fh.wv; rw [hok, inB_is ⟨by omega, by omega⟩]; rfl
  exact ⟨H', hf, hk⟩
theorem Same_ok {a1 a2 : Option Addr} {n c1 c2 : Nat} {L : List Fs} (h1 : Sl H a1 n c1 (flc L)) (h2 : Sl H a2 n c2 (flc L)) (hL : L.length = n) (hn : n ≤ 1000) : ∃ H', FnX Try.prog kn lo 20 [.slice a1 n c1, .slice a2 n c2] H (.bool true) H' ∧ Keep H H' [] := by
  have key := fnX_low (kn := kn) (lo := lo) (H := H) (args := [.slice a1 n c1, .slice a2 n c2]) (Q := fun w H' => w = .bool true ∧ Keep H H' []) Try.func20 B20 N20 Z20 L20 (by simp) ?_
  · obtain ⟨w, H', h, rfl, q⟩ := key; exact ⟨H', h, q⟩
  have hk := Keep.refl H []
  have f1 : ∀ b, a1 = some ⟨b, 0, none⟩ → b < H.next := h1.old
  have f2 : ∀ b, a2 = some ⟨b, 0, none⟩ → b < H.next := h2.old
  refine wN_seq ?_
  refine wN_mov (v := .bool false) rfl ?_
  refine wN_end ?_
  refine wN_seq ?_
  refine wN_mov (v := .slice a1 n c1) rfl ?_
  refine wN_len (m := n) rfl ?_
  refine wN_mov (v := .slice a2 n c2) rfl ?_
  refine wN_len (m := n) rfl ?_
  refine wN_c_neq (a := (n : Int)) (b := (n : Int)) rfl rfl ?_
  refine wN_end ?_
  refine And.intro (fun q1 => ?_) (fun q1 => ?_)
  · have q1 : (n : Int) ≠ (n : Int) := by simpa using q1
    exact absurd rfl q1
  · have q1 : ¬ ((n : Int) ≠ (n : Int)) := by simpa using q1
    first | refine wN_skip ?_ | skip
    refine wN_seq ?_
    refine wN_mov (v := iv 0) rfl ?_
    refine wN_end ?_
    refine loop_low (fn := Try.f20) E20_1 N20 L20x1 (fun i : Nat => [(0, .slice a1 n c1), (1, .slice a2 n c2), (5, iv (i : Int))])
      (fun k i H' => i + k = n ∧ Keep H H' []) n 0 ⟨by omega, Keep.refl _ _⟩ ⟨rfl, rfl, rfl, trivial⟩ ?_
    rintro k i L1 ⟨hik, hki⟩
    have hk := hk.trans hki
    have h1 := hki.sl0 h1
    have h2 := hki.sl0 h2
    have kb := hki
    refine wN_seq ?_
    refine wN_mov (v := iv (i : Int)) rfl ?_
    refine wN_mov (v := .slice a1 n c1) rfl ?_
    refine wN_len (m := n) rfl ?_
    refine wN_c_lss (a := (i : Int)) (b := (n : Int)) rfl rfl ?_
    refine wN_end ?_
    refine And.intro (fun q2 => ?_) (fun q2 => ?_)
    · have q2 : (i : Int) < (n : Int) := of_decide_eq_true q2
      have hi : i < n := by omega
      obtain ⟨x, hx⟩ := get_some (l := L) (i := i) (by omega)
      rcases h1 with ⟨_, h0, _⟩ | ⟨b1, rfl, rb1, _⟩
      · omega
      rcases h2 with ⟨_, h0, _⟩ | ⟨b2, rfl, rb2, _⟩
      · omega
      first | refine wN_skip ?_ | skip
      refine wD_seq ?_
      refine wD_mov (v := .slice (some ⟨b1, 0, none⟩) n c1) rfl ?_
      refine wD_mov (v := iv (i : Int)) rfl ?_
      refine wD_idx (b := b1) (o := 0) (k := i) (j := (i : Int)) rfl rfl rfl hi ?_
      refine wD_lda (b := b1) (o := 0 + i * 5) rfl rb1 (flc_row hx) ?_
      refine wD_mov (v := .slice (some ⟨b2, 0, none⟩) n c2) rfl ?_
      refine wD_mov (v := iv (i : Int)) rfl ?_
      refine wD_idx (b := b2) (o := 0) (k := i) (j := (i : Int)) rfl rfl rfl hi ?_
      refine wD_lda (b := b2) (o := 0 + i * 5) rfl rb2 (flc_row hx) ?_
      refine wD_pur (v := .bool false) rfl (neq52 rfl rfl) ?_
      refine wD_end (by repeat' first | exact True.intro | exact (fun h => h) | refine And.intro ?_ ?_ | (intro h; have h : (_ : Nat) = _ := h; omega)) ?_
      refine condF ?_
      first | refine wN_skip ?_ | skip
      first | refine wN_reg ?_ | (refine wOps_nil ?_; refine wN_reg ?_)
      refine wN_mov (v := iv (i : Int)) rfl ?_
      refine wN_add (a := (i : Int)) (b := 1) rfl rfl ⟨by omega, by omega⟩ ?_
      refine wN_mov (v := iv ((i : Int) + 1)) rfl ?_
      refine wN_end ?_
      exact ⟨k - 1, i + 1, by omega, ⟨by omega, kb⟩, rfl, rfl, rfl, trivial⟩
    · have q2 : ¬ ((i : Int) < (n : Int)) := of_decide_eq_false q2
      refine wN_seq ?_
      refine wN_mov (v := .bool true) rfl ?_
      refine wN_end ?_
      exact And.intro trivial (Exists.intro _ (And.intro rfl ⟨rfl, hk⟩))
set_option maxRecDepth 100000 in
theorem great_ok {g : Fh} {f q : Nat} (hat : g.At f H) (hlo : lo ≤ H.next) : ∃ w H', FnX Try.prog kn lo 12 [.agg g.v.toArray, iv (q : Int)] H w H' ∧ ∃ t, w = .bool t ∧ Keep H H' [] ∧ (t = false → g.bn ≤ 10 ∧ g.rn ≤ 10 ∧ (g.bn ≤ 7 → g.bn ≤ q)) := by
  refine fnX_low (kn := kn) (lo := lo) (H := H) (args := [.agg g.v.toArray, iv (q : Int)]) (Q := fun w H' => ∃ t, w = .bool t ∧ Keep H H' [] ∧ (t = false → g.bn ≤ 10 ∧ g.rn ≤ 10 ∧ (g.bn ≤ 7 → g.bn ≤ q))) Try.func12 B12 N12 Z12 L12 (by simp) ?_
  have hk := Keep.refl H []
  have hfl := hat.le
  refine wN_seq ?_
  refine wN_box (v := .agg g.v.toArray) rfl ?_
  intro H1 kH1 nH1 c1
  have c1 : Cl H1 H.next [.slice g.ba g.bn g.bcap, .slice g.ra g.rn g.rcap, iv g.inlet, iv g.reserve, iv g.winds] := c1
  have mH1 := kH1.1
  have hk := hk.trans kH1
  have hat := hat.keep kH1 (by simp)
  refine wN_mov (v := .bool false) rfl ?_
  refine wN_end ?_
  refine wN_seq ?_
  refine wN_addo (b := H.next) (o := 0) rfl ?_
  refine wN_ld (b := H.next) (o := 0) (v := .slice g.ba g.bn g.bcap) rfl c1.rd rfl ?_
  refine wN_len (m := g.bn) rfl ?_
  refine wN_mov (v := iv (q : Int)) rfl ?_
  refine wN_b_gtr (a := (g.bn : Int)) (b := (q : Int)) rfl rfl ?_
  intro t1 g1; cases t1
  · have g1 : ¬ ((g.bn : Int) > (q : Int)) := of_decide_eq_false g1
    refine wN_mov (v := .bool false) rfl ?_
    refine wN_gs rfl ?_
    refine wN_gs rfl ?_
    refine wN_gs rfl ?_
    refine wN_gs rfl ?_
    refine wN_pur (v := .bool false) rfl rfl ?_
    refine wN_mov (v := .bool false) rfl ?_
    refine wN_g rfl (wN_addo (b := H.next) (o := 0) rfl ?_)
    refine wN_g rfl (wN_ld (b := H.next) (o := 0) (v := .slice g.ba g.bn g.bcap) rfl c1.rd rfl ?_)
    refine wN_g rfl (wN_len (m := g.bn) rfl ?_)
    refine wN_g rfl (wN_b_gtr (a := (g.bn : Int)) (b := 10) rfl rfl ?_)
    intro t2 g2; cases t2
    · have g2 : ¬ ((g.bn : Int) > 10) := of_decide_eq_false g2
      refine wN_pur (v := .bool false) rfl rfl ?_
      refine wN_mov (v := .bool false) rfl ?_
      refine wN_g rfl (wN_addo (b := H.next) (o := 0) rfl ?_)
      refine wN_g rfl (wN_ld (b := H.next) (o := 1) (v := .slice g.ra g.rn g.rcap) rfl c1.rd rfl ?_)
      refine wN_g rfl (wN_len (m := g.rn) rfl ?_)
      refine wN_g rfl (wN_b_gtr (a := (g.rn : Int)) (b := 10) rfl rfl ?_)
      intro t3 g3; cases t3
      · have g3 : ¬ ((g.rn : Int) > 10) := of_decide_eq_false g3
        refine wN_pur (v := .bool false) rfl rfl ?_
        refine wN_end ?_
        refine condF ?_
        first | refine wN_skip ?_ | skip
        refine wN_seq ?_
        refine wN_addo (b := H.next) (o := 0) rfl ?_
        refine wN_ld (b := H.next) (o := 0) (v := .slice g.ba g.bn g.bcap) rfl c1.rd rfl ?_
        refine wN_len (m := g.bn) rfl ?_
        refine wN_mov (v := iv 0) rfl ?_
        refine wN_end ?_
        refine loop_low (fn := Try.f12) E12_1 N12 L12x1 (fun i : Nat => [(2, pt H.next), (33, .slice g.ba g.bn g.bcap), (34, iv (g.bn : Int)), (35, iv (i : Int))])
          (fun k i H' => i + k = g.bn ∧ Keep H1 H' []) g.bn 0 ⟨by omega, Keep.refl _ _⟩ ⟨rfl, rfl, rfl, rfl, trivial⟩ ?_
        rintro k i L1 ⟨hik, hki⟩
        have hk := hk.trans hki
        have hat := hat.keep hki (by simp)
        have c1 := hki.cl c1 (by simp)
        have kb := hki
        have mi := hki.1
        refine wN_seq ?_
        refine wN_c_lss (a := (i : Int)) (b := (g.bn : Int)) rfl rfl ?_
        refine wN_end ?_
        refine And.intro (fun q4 => ?_) (fun q4 => ?_)
        · have q4 : (i : Int) < (g.bn : Int) := of_decide_eq_true q4
          have hi : i < g.bn := by omega
          have hbi := getB (g := g) (i := i) (by rw [hat.bl]; exact hi)
          obtain ⟨xb, eb, rb, lb⟩ := hat.bog (by omega)
          rw [eb]
          first | refine wN_skip ?_ | skip
          refine wN_seq ?_
          refine wN_idx (b := xb) (o := 0) (k := i) (j := (i : Int)) rfl rfl rfl hi ?_
          refine wN_lda (b := xb) (o := 0 + i * 4) rfl rb (bgc_row hbi) ?_
          refine wN_alc ?_
          intro H2 kH2 nH2 c2
          have c2 : Cl H2 L1.next [iv 0, iv 0, iv 0, .slice none 0 0] := c2
          have mH2 := kH2.1
          have hk := hk.trans kH2
          have hat := hat.keep kH2 (by simp)
          have c1 := kH2.cl c1 (by simp)
          have kb := kb.trans kH2
          have rb := kH2.rd rb (by simp)
          refine wN_sta (b := L1.next) (o := 0) rfl rfl c2 (by omega) rfl rfl (by simp) ?_
          intro H3 kH3 nH3 sH3
          have mH3 := kH3.1
          have hk := hk.new kH3 (fun b hb => by simp at hb ⊢; omega)
          have hat := hat.keep kH3 (fun x hx => by first | (simp at hx; done) | (simp at hx; omega))
          have c1 := kH3.cl c1 (by first | (simp; done) | (simp; omega))
          have kb := kb.new kH3 (fun b hb => by simp at hb ⊢; omega)
          have rb := kH3.rd rb (by first | (simp; done) | (simp; omega))
          have c2 : Cl H3 L1.next [iv ((g.B i).need), iv ((g.B i).l1), iv ((g.B i).l2), .slice ((g.B i).wa) ((g.B i).wn) ((g.B i).wcap)] := sH3
          refine wN_end ?_
          refine wN_seq ?_
          refine wN_addo (b := L1.next) (o := 0) rfl ?_
          refine wN_ld (b := L1.next) (o := 3) (v := .slice ((g.B i).wa) ((g.B i).wn) ((g.B i).wcap)) rfl c2.rd rfl ?_
          refine wN_len (m := (g.B i).wn) rfl ?_
          refine wN_c_gtr (a := ((g.B i).wn : Int)) (b := 8) rfl rfl ?_
          refine wN_end ?_
          refine And.intro (fun q5 => ?_) (fun q5 => ?_)
          · have q5 : ((g.B i).wn : Int) > 8 := of_decide_eq_true q5
            refine wN_seq ?_
            refine wN_mov (v := .bool true) rfl ?_
            refine wN_end ?_
            exact And.intro trivial (Exists.intro _ (And.intro rfl ⟨true, rfl, hk, fun e => by cases e⟩))
          · have q5 : ¬ (((g.B i).wn : Int) > 8) := of_decide_eq_false q5
            first | refine wN_skip ?_ | skip
            first | refine wN_reg ?_ | (refine wOps_nil ?_; refine wN_reg ?_)
            refine wN_add (a := (i : Int)) (b := 1) rfl rfl ⟨by omega, by omega⟩ ?_
            refine wN_mov (v := iv ((i : Int) + 1)) rfl ?_
            refine wN_end ?_
            exact ⟨k - 1, i + 1, by omega, ⟨by omega, kb⟩, rfl, by first | rfl | (rw [eb]; rfl), rfl, rfl, trivial⟩
        · have q4 : ¬ ((i : Int) < (g.bn : Int)) := of_decide_eq_false q4
          refine wN_seq ?_
          refine wN_addo (b := H.next) (o := 0) rfl ?_
          refine wN_ld (b := H.next) (o := 1) (v := .slice g.ra g.rn g.rcap) rfl c1.rd rfl ?_
          refine wN_len (m := g.rn) rfl ?_
          refine wN_mov (v := iv 0) rfl ?_
          refine wN_end ?_
          refine loop_low (fn := Try.f12) E12_2 N12 L12x2 (fun j : Nat => [(2, pt H.next), (45, .slice g.ra g.rn g.rcap), (46, iv (g.rn : Int)), (47, iv (j : Int))])
            (fun k j H' => j + k = g.rn ∧ Keep L1 H' []) g.rn 0 ⟨by omega, Keep.refl _ _⟩ ⟨rfl, rfl, rfl, rfl, trivial⟩ ?_
          rintro k2 j L2 ⟨hjk, hkj⟩
          have hk := hk.trans hkj
          have hat := hat.keep hkj (by simp)
          have c1 := hkj.cl c1 (by simp)
          have kc := hkj
          have mj := hkj.1
          refine wN_seq ?_
          refine wN_c_lss (a := (j : Int)) (b := (g.rn : Int)) rfl rfl ?_
          refine wN_end ?_
          refine And.intro (fun q6 => ?_) (fun q6 => ?_)
          · have q6 : (j : Int) < (g.rn : Int) := of_decide_eq_true q6
            have hj : j < g.rn := by omega
            have hrj := getR (g := g) (i := j) (by rw [hat.rl]; exact hj)
            obtain ⟨xr, er, rr, lr⟩ := hat.rts (by omega)
            rw [er]
            first | refine wN_skip ?_ | skip
            refine wN_seq ?_
            refine wN_idx (b := xr) (o := 0) (k := j) (j := (j : Int)) rfl rfl rfl hj ?_
            refine wN_ld (b := xr) (o := 0 + j * 1) (v := .slice ((g.R j).ra) ((g.R j).n) ((g.R j).cap)) rfl rr (rwc_row hrj) ?_
            refine wN_mov (v := .slice ((g.R j).ra) ((g.R j).n) ((g.R j).cap)) rfl ?_
            refine wN_end ?_
            refine wN_seq ?_
            refine wN_mov (v := .slice ((g.R j).ra) ((g.R j).n) ((g.R j).cap)) rfl ?_
            refine wN_len (m := (g.R j).n) rfl ?_
            refine wN_c_gtr (a := ((g.R j).n : Int)) (b := 10) rfl rfl ?_
            refine wN_end ?_
            refine And.intro (fun q7 => ?_) (fun q7 => ?_)
            · have q7 : ((g.R j).n : Int) > 10 := of_decide_eq_true q7
              refine wN_seq ?_
              refine wN_mov (v := .bool true) rfl ?_
              refine wN_end ?_
              exact And.intro trivial (Exists.intro _ (And.intro rfl ⟨true, rfl, hk, fun e => by cases e⟩))
            · have q7 : ¬ (((g.R j).n : Int) > 10) := of_decide_eq_false q7
              first | refine wN_skip ?_ | skip
              first | refine wN_reg ?_ | (refine wOps_nil ?_; refine wN_reg ?_)
              refine wN_add (a := (j : Int)) (b := 1) rfl rfl ⟨by omega, by omega⟩ ?_
              refine wN_mov (v := iv ((j : Int) + 1)) rfl ?_
              refine wN_end ?_
              exact ⟨k2 - 1, j + 1, by omega, ⟨by omega, kc⟩, rfl, by first | rfl | (rw [er]; rfl), rfl, rfl, trivial⟩
          · have q6 : ¬ ((j : Int) < (g.rn : Int)) := of_decide_eq_false q6
            refine wN_seq ?_
            refine wN_mov (v := .bool false) rfl ?_
            refine wN_end ?_
            exact And.intro trivial (Exists.intro _ (And.intro rfl ⟨false, rfl, hk, fun _ => ⟨by omega, by omega, fun h => by omega⟩⟩))
      · have g3 : (g.rn : Int) > 10 := of_decide_eq_true g3
        refine wN_pur (v := .bool true) rfl rfl ?_
        refine wN_end ?_
        refine condT ?_
        refine wN_seq ?_
        refine wN_mov (v := .bool true) rfl ?_
        refine wN_end ?_
        exact And.intro trivial (Exists.intro _ (And.intro rfl ⟨true, rfl, hk, fun e => by cases e⟩))
    · have g2 : (g.bn : Int) > 10 := of_decide_eq_true g2
      refine wN_pur (v := .bool true) rfl rfl ?_
      refine wN_mov (v := .bool true) rfl ?_
      refine wN_gs rfl ?_
      refine wN_gs rfl ?_
      refine wN_gs rfl ?_
      refine wN_gs rfl ?_
      refine wN_pur (v := .bool true) rfl rfl ?_
      refine wN_end ?_
      refine condT ?_
      refine wN_seq ?_
      refine wN_mov (v := .bool true) rfl ?_
      refine wN_end ?_
      exact And.intro trivial (Exists.intro _ (And.intro rfl ⟨true, rfl, hk, fun e => by cases e⟩))
  · have g1 : (g.bn : Int) > (q : Int) := of_decide_eq_true g1
    refine wN_mov (v := .bool true) rfl ?_
    refine wN_g rfl (wN_addo (b := H.next) (o := 0) rfl ?_)
    refine wN_g rfl (wN_ld (b := H.next) (o := 0) (v := .slice g.ba g.bn g.bcap) rfl c1.rd rfl ?_)
    refine wN_g rfl (wN_len (m := g.bn) rfl ?_)
    refine wN_g rfl (wN_b_leq (a := (g.bn : Int)) (b := 7) rfl rfl ?_)
    intro t8 g8; cases t8
    · have g8 : ¬ ((g.bn : Int) ≤ 7) := of_decide_eq_false g8
      refine wN_pur (v := .bool false) rfl rfl ?_
      refine wN_mov (v := .bool false) rfl ?_
      refine wN_g rfl (wN_addo (b := H.next) (o := 0) rfl ?_)
      refine wN_g rfl (wN_ld (b := H.next) (o := 0) (v := .slice g.ba g.bn g.bcap) rfl c1.rd rfl ?_)
      refine wN_g rfl (wN_len (m := g.bn) rfl ?_)
      refine wN_g rfl (wN_b_gtr (a := (g.bn : Int)) (b := 10) rfl rfl ?_)
      intro t9 g9; cases t9
      · have g9 : ¬ ((g.bn : Int) > 10) := of_decide_eq_false g9
        refine wN_pur (v := .bool false) rfl rfl ?_
        refine wN_mov (v := .bool false) rfl ?_
        refine wN_g rfl (wN_addo (b := H.next) (o := 0) rfl ?_)
        refine wN_g rfl (wN_ld (b := H.next) (o := 1) (v := .slice g.ra g.rn g.rcap) rfl c1.rd rfl ?_)
        refine wN_g rfl (wN_len (m := g.rn) rfl ?_)
        refine wN_g rfl (wN_b_gtr (a := (g.rn : Int)) (b := 10) rfl rfl ?_)
        intro t10 g10; cases t10
        · have g10 : ¬ ((g.rn : Int) > 10) := of_decide_eq_false g10
          refine wN_pur (v := .bool false) rfl rfl ?_
          refine wN_end ?_
          refine condF ?_
          first | refine wN_skip ?_ | skip
          refine wN_seq ?_
          refine wN_addo (b := H.next) (o := 0) rfl ?_
          refine wN_ld (b := H.next) (o := 0) (v := .slice g.ba g.bn g.bcap) rfl c1.rd rfl ?_
          refine wN_len (m := g.bn) rfl ?_
          refine wN_mov (v := iv 0) rfl ?_
          refine wN_end ?_
          refine loop_low (fn := Try.f12) E12_1 N12 L12x1 (fun i : Nat => [(2, pt H.next), (33, .slice g.ba g.bn g.bcap), (34, iv (g.bn : Int)), (35, iv (i : Int))])
            (fun k i H' => i + k = g.bn ∧ Keep H1 H' []) g.bn 0 ⟨by omega, Keep.refl _ _⟩ ⟨rfl, rfl, rfl, rfl, trivial⟩ ?_
          rintro k i L1 ⟨hik, hki⟩
          have hk := hk.trans hki
          have hat := hat.keep hki (by simp)
          have c1 := hki.cl c1 (by simp)
          have kb := hki
          have mi := hki.1
          refine wN_seq ?_
          refine wN_c_lss (a := (i : Int)) (b := (g.bn : Int)) rfl rfl ?_
          refine wN_end ?_
          refine And.intro (fun q11 => ?_) (fun q11 => ?_)
          · have q11 : (i : Int) < (g.bn : Int) := of_decide_eq_true q11
            have hi : i < g.bn := by omega
            have hbi := getB (g := g) (i := i) (by rw [hat.bl]; exact hi)
            obtain ⟨xb, eb, rb, lb⟩ := hat.bog (by omega)
            rw [eb]
            first | refine wN_skip ?_ | skip
            refine wN_seq ?_
            refine wN_idx (b := xb) (o := 0) (k := i) (j := (i : Int)) rfl rfl rfl hi ?_
            refine wN_lda (b := xb) (o := 0 + i * 4) rfl rb (bgc_row hbi) ?_
            refine wN_alc ?_
            intro H4 kH4 nH4 c4
            have c4 : Cl H4 L1.next [iv 0, iv 0, iv 0, .slice none 0 0] := c4
            have mH4 := kH4.1
            have hk := hk.trans kH4
            have hat := hat.keep kH4 (by simp)
            have c1 := kH4.cl c1 (by simp)
            have kb := kb.trans kH4
            have rb := kH4.rd rb (by simp)
            refine wN_sta (b := L1.next) (o := 0) rfl rfl c4 (by omega) rfl rfl (by simp) ?_
            intro H5 kH5 nH5 sH5
            have mH5 := kH5.1
            have hk := hk.new kH5 (fun b hb => by simp at hb ⊢; omega)
            have hat := hat.keep kH5 (fun x hx => by first | (simp at hx; done) | (simp at hx; omega))
            have c1 := kH5.cl c1 (by first | (simp; done) | (simp; omega))
            have kb := kb.new kH5 (fun b hb => by simp at hb ⊢; omega)
            have rb := kH5.rd rb (by first | (simp; done) | (simp; omega))
            have c4 : Cl H5 L1.next [iv ((g.B i).need), iv ((g.B i).l1), iv ((g.B i).l2), .slice ((g.B i).wa) ((g.B i).wn) ((g.B i).wcap)] := sH5
            refine wN_end ?_
            refine wN_seq ?_
            refine wN_addo (b := L1.next) (o := 0) rfl ?_
            refine wN_ld (b := L1.next) (o := 3) (v := .slice ((g.B i).wa) ((g.B i).wn) ((g.B i).wcap)) rfl c4.rd rfl ?_
            refine wN_len (m := (g.B i).wn) rfl ?_
            refine wN_c_gtr (a := ((g.B i).wn : Int)) (b := 8) rfl rfl ?_
            refine wN_end ?_
            refine And.intro (fun q12 => ?_) (fun q12 => ?_)
            · have q12 : ((g.B i).wn : Int) > 8 := of_decide_eq_true q12
              refine wN_seq ?_
              refine wN_mov (v := .bool true) rfl ?_
              refine wN_end ?_
              exact And.intro trivial (Exists.intro _ (And.intro rfl ⟨true, rfl, hk, fun e => by cases e⟩))
            · have q12 : ¬ (((g.B i).wn : Int) > 8) := of_decide_eq_false q12
              first | refine wN_skip ?_ | skip
              first | refine wN_reg ?_ | (refine wOps_nil ?_; refine wN_reg ?_)
              refine wN_add (a := (i : Int)) (b := 1) rfl rfl ⟨by omega, by omega⟩ ?_
              refine wN_mov (v := iv ((i : Int) + 1)) rfl ?_
              refine wN_end ?_
              exact ⟨k - 1, i + 1, by omega, ⟨by omega, kb⟩, rfl, by first | rfl | (rw [eb]; rfl), rfl, rfl, trivial⟩
          · have q11 : ¬ ((i : Int) < (g.bn : Int)) := of_decide_eq_false q11
            refine wN_seq ?_
            refine wN_addo (b := H.next) (o := 0) rfl ?_
            refine wN_ld (b := H.next) (o := 1) (v := .slice g.ra g.rn g.rcap) rfl c1.rd rfl ?_
            refine wN_len (m := g.rn) rfl ?_
            refine wN_mov (v := iv 0) rfl ?_
            refine wN_end ?_
            refine loop_low (fn := Try.f12) E12_2 N12 L12x2 (fun j : Nat => [(2, pt H.next), (45, .slice g.ra g.rn g.rcap), (46, iv (g.rn : Int)), (47, iv (j : Int))])
              (fun k j H' => j + k = g.rn ∧ Keep L1 H' []) g.rn 0 ⟨by omega, Keep.refl _ _⟩ ⟨rfl, rfl, rfl, rfl, trivial⟩ ?_
            rintro k2 j L2 ⟨hjk, hkj⟩
            have hk := hk.trans hkj
            have hat := hat.keep hkj (by simp)
            have c1 := hkj.cl c1 (by simp)
            have kc := hkj
            have mj := hkj.1
            refine wN_seq ?_
            refine wN_c_lss (a := (j : Int)) (b := (g.rn : Int)) rfl rfl ?_
            refine wN_end ?_
            refine And.intro (fun q13 => ?_) (fun q13 => ?_)
            · have q13 : (j : Int) < (g.rn : Int) := of_decide_eq_true q13
              have hj : j < g.rn := by omega
              have hrj := getR (g := g) (i := j) (by rw [hat.rl]; exact hj)
              obtain ⟨xr, er, rr, lr⟩ := hat.rts (by omega)
              rw [er]
              first | refine wN_skip ?_ | skip
              refine wN_seq ?_
              refine wN_idx (b := xr) (o := 0) (k := j) (j := (j : Int)) rfl rfl rfl hj ?_
              refine wN_ld (b := xr) (o := 0 + j * 1) (v := .slice ((g.R j).ra) ((g.R j).n) ((g.R j).cap)) rfl rr (rwc_row hrj) ?_
              refine wN_mov (v := .slice ((g.R j).ra) ((g.R j).n) ((g.R j).cap)) rfl ?_
              refine wN_end ?_
              refine wN_seq ?_
              refine wN_mov (v := .slice ((g.R j).ra) ((g.R j).n) ((g.R j).cap)) rfl ?_
              refine wN_len (m := (g.R j).n) rfl ?_
              refine wN_c_gtr (a := ((g.R j).n : Int)) (b := 10) rfl rfl ?_
              refine wN_end ?_
              refine And.intro (fun q14 => ?_) (fun q14 => ?_)
              · have q14 : ((g.R j).n : Int) > 10 := of_decide_eq_true q14
                refine wN_seq ?_
                refine wN_mov (v := .bool true) rfl ?_
                refine wN_end ?_
                exact And.intro trivial (Exists.intro _ (And.intro rfl ⟨true, rfl, hk, fun e => by cases e⟩))
              · have q14 : ¬ (((g.R j).n : Int) > 10) := of_decide_eq_false q14
                first | refine wN_skip ?_ | skip
                first | refine wN_reg ?_ | (refine wOps_nil ?_; refine wN_reg ?_)
                refine wN_add (a := (j : Int)) (b := 1) rfl rfl ⟨by omega, by omega⟩ ?_
                refine wN_mov (v := iv ((j : Int) + 1)) rfl ?_
                refine wN_end ?_
                exact ⟨k2 - 1, j + 1, by omega, ⟨by omega, kc⟩, rfl, by first | rfl | (rw [er]; rfl), rfl, rfl, trivial⟩
            · have q13 : ¬ ((j : Int) < (g.rn : Int)) := of_decide_eq_false q13
              refine wN_seq ?_
              refine wN_mov (v := .bool false) rfl ?_
              refine wN_end ?_
              exact And.intro trivial (Exists.intro _ (And.intro rfl ⟨false, rfl, hk, fun _ => ⟨by omega, by omega, fun h => by omega⟩⟩))
        · have g10 : (g.rn : Int) > 10 := of_decide_eq_true g10
          refine wN_pur (v := .bool true) rfl rfl ?_
          refine wN_end ?_
          refine condT ?_
          refine wN_seq ?_
          refine wN_mov (v := .bool true) rfl ?_
          refine wN_end ?_
          exact And.intro trivial (Exists.intro _ (And.intro rfl ⟨true, rfl, hk, fun e => by cases e⟩))
      · have g9 : (g.bn : Int) > 10 := of_decide_eq_true g9
        refine wN_pur (v := .bool true) rfl rfl ?_
        refine wN_mov (v := .bool true) rfl ?_
        refine wN_gs rfl ?_
        refine wN_gs rfl ?_
        refine wN_gs rfl ?_
        refine wN_gs rfl ?_
        refine wN_pur (v := .bool true) rfl rfl ?_
        refine wN_end ?_
        refine condT ?_
        refine wN_seq ?_
        refine wN_mov (v := .bool true) rfl ?_
        refine wN_end ?_
        exact And.intro trivial (Exists.intro _ (And.intro rfl ⟨true, rfl, hk, fun e => by cases e⟩))
    · have g8 : (g.bn : Int) ≤ 7 := of_decide_eq_true g8
      refine wN_pur (v := .bool true) rfl rfl ?_
      refine wN_mov (v := .bool true) rfl ?_
      refine wN_gs rfl ?_
      refine wN_gs rfl ?_
      refine wN_gs rfl ?_
      refine wN_gs rfl ?_
      refine wN_pur (v := .bool true) rfl rfl ?_
      refine wN_mov (v := .bool true) rfl ?_
      refine wN_gs rfl ?_
      refine wN_gs rfl ?_
      refine wN_gs rfl ?_
      refine wN_gs rfl ?_
      refine wN_pur (v := .bool true) rfl rfl ?_
      refine wN_end ?_
      refine condT ?_
      refine wN_seq ?_
      refine wN_mov (v := .bool true) rfl ?_
      refine wN_end ?_
      exact And.intro trivial (Exists.intro _ (And.intro rfl ⟨true, rfl, hk, fun e => by cases e⟩))
end
end Go.Ax

/-
  Flood: the law FloodTimes, whatever the input (written by program).
-/
namespace Go.Ax
open Go Go.RowKit Go.Proofs

theorem Fh.tl_len {g : Fh} {us : List Int} : (g.tl us).length ≤ g.bn := by
  unfold Fh.tl
  cases decide (g.er us = 0)
  · exact Nat.zero_le _
  · simp only [cond_true, Fh.fs_len]; exact Nat.le_refl _
section
variable {kn : FuncId → Option Bool} {lo : Nat} {H : Hp}
set_option maxRecDepth 100000 in
set_option maxHeartbeats 4000000 in
theorem law_times {e e2 : Int} (hkn : kn 13 = some true) {g : Fh} {f m cap : Nat} {sa : Option Addr} {us : List Int} (hat : g.At f H) (hlf : Lf H sa m cap us) (hlo : lo ≤ H.next) : ∃ H', FnX Try.prog kn lo 3 [.agg g.v.toArray, iv e, .slice sa m cap, iv e2] H (.bool true) H' := by
  have key := fnX_low (kn := kn) (lo := lo) (H := H) (args := [.agg g.v.toArray, iv e, .slice sa m cap, iv e2]) (Q := fun w H' => w = .bool true) Try.func3 B3 N3 Z3 L3 (by simp) ?_
  · obtain ⟨w, H', h, rfl⟩ := key; exact ⟨H', h⟩
  have hk := Keep.refl H []
  have hfl := hat.le
  have flf : ∀ b, sa = some ⟨b, 0, none⟩ → b < H.next := hlf.old
  refine wN_seq ?_
  refine wN_box (v := .agg g.v.toArray) rfl ?_
  intro H1 kH1 nH1 c1
  have c1 : Cl H1 H.next [.slice g.ba g.bn g.bcap, .slice g.ra g.rn g.rcap, iv g.inlet, iv g.reserve, iv g.winds] := c1
  have mH1 := kH1.1
  have hk := hk.trans kH1
  have hat := hat.keep kH1 (by simp)
  have hlf := kH1.lf hlf (fun _ _ => by simp)
  refine wN_mov (v := .bool false) rfl ?_
  refine wN_end ?_
  refine wN_seq ?_
  refine wN_lda (b := H.next) (o := 0) rfl c1.rd (show row 5 _ _ = some [.slice g.ba g.bn g.bcap, .slice g.ra g.rn g.rcap, iv g.inlet, iv g.reserve, iv g.winds] from rfl) ?_
  obtain ⟨_, H2, fH2, tH2, rfl, kH2, hgr⟩ := great_ok (kn := kn) (lo := lo) (H := H1) (q := 7) hat (by omega)
  have mH2 := kH2.1
  have hk := hk.trans kH2
  have hat := hat.keep kH2 (by simp)
  have hlf := kH2.lf hlf (fun _ _ => by simp)
  have c1 := kH2.cl c1 (by simp)
  refine wN_callf rfl (callX_args fH2) ?_
  cases tH2
  · have hgr := hgr rfl
    refine wN_mov (v := .bool false) rfl ?_
    refine wN_g rfl (wN_mov (v := .slice sa m cap) rfl ?_)
    refine wN_g rfl (wN_len (m := m) rfl ?_)
    refine wN_g rfl (wN_b_gtr (a := (m : Int)) (b := 12) rfl rfl ?_)
    intro t1 g1; cases t1
    · have g1 : ¬ ((m : Int) > 12) := of_decide_eq_false g1
      refine wN_pur (v := .bool false) rfl rfl ?_
      refine wN_end ?_
      refine condF ?_
      first | refine wN_skip ?_ | skip
      refine wN_seq ?_
      refine wN_lda (b := H.next) (o := 0) rfl c1.rd (show row 5 _ _ = some [.slice g.ba g.bn g.bcap, .slice g.ra g.rn g.rcap, iv g.inlet, iv g.reserve, iv g.winds] from rfl) ?_
      refine wN_mov (v := iv e) rfl ?_
      obtain ⟨H3, fH3, kH3⟩ := Work_v (kn := kn) (lo := lo) (H := H2) (e := e) hat (by omega)
      refine wN_callf (vs := [.agg #[.slice g.ba g.bn g.bcap, .slice g.ra g.rn g.rcap, iv g.inlet, iv g.reserve, iv g.winds], iv e]) rfl (callX_args fH3) ?_
      have mH3 := kH3.1
      have hk := hk.trans kH3
      have hat := hat.keep kH3 (by simp)
      have hlf := kH3.lf hlf (fun _ _ => by simp)
      have c1 := kH3.cl c1 (by simp)
      refine wN_mov (v := .tuple #[.agg #[iv ((g.wv e).1), iv ((g.wv e).2.1)], iv ((g.wv e).2.2)]) rfl ?_
      refine wN_pur (v := .agg #[iv ((g.wv e).1), iv ((g.wv e).2.1)]) rfl (by kernel_rfl) ?_
      refine wN_pur (v := iv ((g.wv e).2.2)) rfl (by kernel_rfl) ?_
      refine wN_alc ?_
      intro H4 kH4 nH4 c4
      have c4 : Cl H4 H3.next [iv 0, iv 0] := c4
      have mH4 := kH4.1
      have hk := hk.trans kH4
      have hat := hat.keep kH4 (by simp)
      have hlf := kH4.lf hlf (fun _ _ => by simp)
      have c1 := kH4.cl c1 (by simp)
      refine wN_sta (b := H3.next) (o := 0) rfl rfl c4 (by omega) rfl rfl (by simp) ?_
      intro H5 kH5 nH5 sH5
      have mH5 := kH5.1
      have hk := hk.new kH5 (fun b hb => by simp at hb ⊢; omega)
      have hat := hat.keep kH5 (fun x hx => by first | (simp at hx; done) | (simp at hx; omega))
      have hlf := kH5.lf hlf (fun b e => by have := flf b e; first | (simp; done) | (simp; omega))
      have c1 := kH5.cl c1 (by first | (simp; done) | (simp; omega))
      have c4 : Cl H5 H3.next [iv ((g.wv e).1), iv ((g.wv e).2.1)] := sH5
      refine wN_mov (v := iv ((g.wv e).2.2)) rfl ?_
      refine wN_end ?_
      refine wN_seq ?_
      refine wN_lda (b := H.next) (o := 0) rfl c1.rd (show row 5 _ _ = some [.slice g.ba g.bn g.bcap, .slice g.ra g.rn g.rcap, iv g.inlet, iv g.reserve, iv g.winds] from rfl) ?_
      refine wN_mov (v := iv e) rfl ?_
      obtain ⟨H6, fH6, kH6⟩ := RefWork_v (kn := kn) (lo := lo) (H := H5) (e := e) hat (by omega)
      refine wN_callf (vs := [.agg #[.slice g.ba g.bn g.bcap, .slice g.ra g.rn g.rcap, iv g.inlet, iv g.reserve, iv g.winds], iv e]) rfl (callX_args fH6) ?_
      have mH6 := kH6.1
      have hk := hk.trans kH6
      have hat := hat.keep kH6 (by simp)
      have hlf := kH6.lf hlf (fun _ _ => by simp)
      have c1 := kH6.cl c1 (by simp)
      have c4 := kH6.cl c4 (by simp)
      refine wN_mov (v := .tuple #[.agg #[iv ((g.wv e).1), iv ((g.wv e).2.1)], iv ((g.wv e).2.2)]) rfl ?_
      refine wN_pur (v := .agg #[iv ((g.wv e).1), iv ((g.wv e).2.1)]) rfl (by kernel_rfl) ?_
      refine wN_pur (v := iv ((g.wv e).2.2)) rfl (by kernel_rfl) ?_
      refine wN_alc ?_
      intro H7 kH7 nH7 c7
      have c7 : Cl H7 H6.next [iv 0, iv 0] := c7
      have mH7 := kH7.1
      have hk := hk.trans kH7
      have hat := hat.keep kH7 (by simp)
      have hlf := kH7.lf hlf (fun _ _ => by simp)
      have c1 := kH7.cl c1 (by simp)
      have c4 := kH7.cl c4 (by simp)
      refine wN_sta (b := H6.next) (o := 0) rfl rfl c7 (by omega) rfl rfl (by simp) ?_
      intro H8 kH8 nH8 sH8
      have mH8 := kH8.1
      have hk := hk.new kH8 (fun b hb => by simp at hb ⊢; omega)
      have hat := hat.keep kH8 (fun x hx => by first | (simp at hx; done) | (simp at hx; omega))
      have hlf := kH8.lf hlf (fun b e => by have := flf b e; first | (simp; done) | (simp; omega))
      have c1 := kH8.cl c1 (by first | (simp; done) | (simp; omega))
      have c4 := kH8.cl c4 (by first | (simp; done) | (simp; omega))
      have c7 : Cl H8 H6.next [iv ((g.wv e).1), iv ((g.wv e).2.1)] := sH8
      refine wN_mov (v := iv ((g.wv e).2.2)) rfl ?_
      refine wN_end ?_
      refine wN_seq ?_
      refine wN_lda (b := H.next) (o := 0) rfl c1.rd (show row 5 _ _ = some [.slice g.ba g.bn g.bcap, .slice g.ra g.rn g.rcap, iv g.inlet, iv g.reserve, iv g.winds] from rfl) ?_
      refine wN_mov (v := .slice sa m cap) rfl ?_
      obtain ⟨wH9, H9, fH9, kH9, la1, lc1, rfl, hs1⟩ := Times_v (kn := kn) (lo := lo) (H := H8) hat hlf (by omega)
      have mH9 := kH9.1
      have hk := hk.trans kH9
      have hat := hat.keep kH9 (by simp)
      have hlf := kH9.lf hlf (fun _ _ => by simp)
      have c1 := kH9.cl c1 (by simp)
      have c4 := kH9.cl c4 (by simp)
      have c7 := kH9.cl c7 (by simp)
      have fs1 : ∀ b, la1 = some ⟨b, 0, none⟩ → b < H9.next := hs1.old
      refine wN_callf (vs := [.agg #[.slice g.ba g.bn g.bcap, .slice g.ra g.rn g.rcap, iv g.inlet, iv g.reserve, iv g.winds], .slice sa m cap]) rfl (callX_args fH9) ?_
      refine wN_mov (v := .tuple #[.slice la1 ((g.tl us).length) lc1, .agg #[iv ((g.tu us).t1), iv ((g.tu us).t2), iv ((g.tu us).l1), iv ((g.tu us).l2), iv ((g.tu us).s1), iv ((g.tu us).s2), iv ((g.tu us).r1), iv ((g.tu us).r2)], iv (g.er us)]) rfl ?_
      refine wN_pur (v := .slice la1 ((g.tl us).length) lc1) rfl (by kernel_rfl) ?_
      refine wN_pur (v := .agg #[iv ((g.tu us).t1), iv ((g.tu us).t2), iv ((g.tu us).l1), iv ((g.tu us).l2), iv ((g.tu us).s1), iv ((g.tu us).s2), iv ((g.tu us).r1), iv ((g.tu us).r2)]) rfl (by kernel_rfl) ?_
      refine wN_pur (v := iv (g.er us)) rfl (by kernel_rfl) ?_
      refine wN_alc ?_
      intro H10 kH10 nH10 c10
      have c10 : Cl H10 H9.next [iv 0, iv 0, iv 0, iv 0, iv 0, iv 0, iv 0, iv 0] := c10
      have mH10 := kH10.1
      have hk := hk.trans kH10
      have hat := hat.keep kH10 (by simp)
      have hlf := kH10.lf hlf (fun _ _ => by simp)
      have c1 := kH10.cl c1 (by simp)
      have c4 := kH10.cl c4 (by simp)
      have c7 := kH10.cl c7 (by simp)
      have hs1 := kH10.sl0 hs1
      refine wN_mov (v := .slice la1 ((g.tl us).length) lc1) rfl ?_
      refine wN_sta (b := H9.next) (o := 0) rfl rfl c10 (by omega) rfl rfl (by simp) ?_
      intro H11 kH11 nH11 sH11
      have mH11 := kH11.1
      have hk := hk.new kH11 (fun b hb => by simp at hb ⊢; omega)
      have hat := hat.keep kH11 (fun x hx => by first | (simp at hx; done) | (simp at hx; omega))
      have hlf := kH11.lf hlf (fun b e => by have := flf b e; first | (simp; done) | (simp; omega))
      have c1 := kH11.cl c1 (by first | (simp; done) | (simp; omega))
      have c4 := kH11.cl c4 (by first | (simp; done) | (simp; omega))
      have c7 := kH11.cl c7 (by first | (simp; done) | (simp; omega))
      have hs1 := kH11.sl hs1 (fun b e => by have := fs1 b e; first | (simp; done) | (simp; omega))
      have c10 : Cl H11 H9.next [iv ((g.tu us).t1), iv ((g.tu us).t2), iv ((g.tu us).l1), iv ((g.tu us).l2), iv ((g.tu us).s1), iv ((g.tu us).s2), iv ((g.tu us).r1), iv ((g.tu us).r2)] := sH11
      refine wN_mov (v := iv (g.er us)) rfl ?_
      refine wN_end ?_
      refine wN_seq ?_
      refine wN_lda (b := H.next) (o := 0) rfl c1.rd (show row 5 _ _ = some [.slice g.ba g.bn g.bcap, .slice g.ra g.rn g.rcap, iv g.inlet, iv g.reserve, iv g.winds] from rfl) ?_
      refine wN_mov (v := .slice sa m cap) rfl ?_
      obtain ⟨wH12, H12, fH12, kH12, la2, lc2, rfl, hs2⟩ := RefTimes_ok (kn := kn) (lo := lo) (H := H11) hat hlf (by omega) (by omega)
      have mH12 := kH12.1
      have hk := hk.trans kH12
      have hat := hat.keep kH12 (by simp)
      have hlf := kH12.lf hlf (fun _ _ => by simp)
      have c1 := kH12.cl c1 (by simp)
      have c4 := kH12.cl c4 (by simp)
      have c7 := kH12.cl c7 (by simp)
      have hs1 := kH12.sl0 hs1
      have c10 := kH12.cl c10 (by simp)
      have fs2 : ∀ b, la2 = some ⟨b, 0, none⟩ → b < H12.next := hs2.old
      refine wN_callf (vs := [.agg #[.slice g.ba g.bn g.bcap, .slice g.ra g.rn g.rcap, iv g.inlet, iv g.reserve, iv g.winds], .slice sa m cap]) rfl (callX_args fH12) ?_
      refine wN_mov (v := .tuple #[.slice la2 ((g.tl us).length) lc2, .agg #[iv ((g.tu us).t1), iv ((g.tu us).t2), iv ((g.tu us).l1), iv ((g.tu us).l2), iv ((g.tu us).s1), iv ((g.tu us).s2), iv ((g.tu us).r1), iv ((g.tu us).r2)], iv (g.er us)]) rfl ?_
      refine wN_pur (v := .slice la2 ((g.tl us).length) lc2) rfl (by kernel_rfl) ?_
      refine wN_pur (v := .agg #[iv ((g.tu us).t1), iv ((g.tu us).t2), iv ((g.tu us).l1), iv ((g.tu us).l2), iv ((g.tu us).s1), iv ((g.tu us).s2), iv ((g.tu us).r1), iv ((g.tu us).r2)]) rfl (by kernel_rfl) ?_
      refine wN_pur (v := iv (g.er us)) rfl (by kernel_rfl) ?_
      refine wN_alc ?_
      intro H13 kH13 nH13 c13
      have c13 : Cl H13 H12.next [iv 0, iv 0, iv 0, iv 0, iv 0, iv 0, iv 0, iv 0] := c13
      have mH13 := kH13.1
      have hk := hk.trans kH13
      have hat := hat.keep kH13 (by simp)
      have hlf := kH13.lf hlf (fun _ _ => by simp)
      have c1 := kH13.cl c1 (by simp)
      have c4 := kH13.cl c4 (by simp)
      have c7 := kH13.cl c7 (by simp)
      have hs1 := kH13.sl0 hs1
      have c10 := kH13.cl c10 (by simp)
      have hs2 := kH13.sl0 hs2
      refine wN_mov (v := .slice la2 ((g.tl us).length) lc2) rfl ?_
      refine wN_sta (b := H12.next) (o := 0) rfl rfl c13 (by omega) rfl rfl (by simp) ?_
      intro H14 kH14 nH14 sH14
      have mH14 := kH14.1
      have hk := hk.new kH14 (fun b hb => by simp at hb ⊢; omega)
      have hat := hat.keep kH14 (fun x hx => by first | (simp at hx; done) | (simp at hx; omega))
      have hlf := kH14.lf hlf (fun b e => by have := flf b e; first | (simp; done) | (simp; omega))
      have c1 := kH14.cl c1 (by first | (simp; done) | (simp; omega))
      have c4 := kH14.cl c4 (by first | (simp; done) | (simp; omega))
      have c7 := kH14.cl c7 (by first | (simp; done) | (simp; omega))
      have hs1 := kH14.sl hs1 (fun b e => by have := fs1 b e; first | (simp; done) | (simp; omega))
      have c10 := kH14.cl c10 (by first | (simp; done) | (simp; omega))
      have hs2 := kH14.sl hs2 (fun b e => by have := fs2 b e; first | (simp; done) | (simp; omega))
      have c13 : Cl H14 H12.next [iv ((g.tu us).t1), iv ((g.tu us).t2), iv ((g.tu us).l1), iv ((g.tu us).l2), iv ((g.tu us).s1), iv ((g.tu us).s2), iv ((g.tu us).r1), iv ((g.tu us).r2)] := sH14
      refine wN_mov (v := iv (g.er us)) rfl ?_
      refine wN_end ?_
      refine wN_seq ?_
      refine wN_lda (b := H.next) (o := 0) rfl c1.rd (show row 5 _ _ = some [.slice g.ba g.bn g.bcap, .slice g.ra g.rn g.rcap, iv g.inlet, iv g.reserve, iv g.winds] from rfl) ?_
      refine wN_mov (v := .slice sa m cap) rfl ?_
      refine wN_mov (v := iv e2) rfl ?_
      obtain ⟨H15, fH15, kH15⟩ := Through_v (kn := kn) (lo := lo) (H := H14) (e := e2) hat hlf (by omega)
      refine wN_callf (vs := [.agg #[.slice g.ba g.bn g.bcap, .slice g.ra g.rn g.rcap, iv g.inlet, iv g.reserve, iv g.winds], .slice sa m cap, iv e2]) rfl (callX_args fH15) ?_
      have mH15 := kH15.1
      have hk := hk.trans kH15
      have hat := hat.keep kH15 (by simp)
      have hlf := kH15.lf hlf (fun _ _ => by simp)
      have c1 := kH15.cl c1 (by simp)
      have c4 := kH15.cl c4 (by simp)
      have c7 := kH15.cl c7 (by simp)
      have hs1 := kH15.sl0 hs1
      have c10 := kH15.cl c10 (by simp)
      have hs2 := kH15.sl0 hs2
      have c13 := kH15.cl c13 (by simp)
      refine wN_mov (v := .tuple #[iv ((g.th us e2).1), iv ((g.th us e2).2)]) rfl ?_
      refine wN_pur (v := iv ((g.th us e2).1)) rfl (by kernel_rfl) ?_
      refine wN_pur (v := iv ((g.th us e2).2)) rfl (by kernel_rfl) ?_
      refine wN_mov (v := iv ((g.th us e2).1)) rfl ?_
      refine wN_mov (v := iv ((g.th us e2).2)) rfl ?_
      refine wN_end ?_
      refine wN_seq ?_
      refine wN_lda (b := H.next) (o := 0) rfl c1.rd (show row 5 _ _ = some [.slice g.ba g.bn g.bcap, .slice g.ra g.rn g.rcap, iv g.inlet, iv g.reserve, iv g.winds] from rfl) ?_
      refine wN_mov (v := .slice sa m cap) rfl ?_
      refine wN_mov (v := iv e2) rfl ?_
      obtain ⟨H16, fH16, kH16⟩ := RefThrough_ok (kn := kn) (lo := lo) (H := H15) (e := e2) hat hlf (by omega) (by omega)
      refine wN_callf (vs := [.agg #[.slice g.ba g.bn g.bcap, .slice g.ra g.rn g.rcap, iv g.inlet, iv g.reserve, iv g.winds], .slice sa m cap, iv e2]) rfl (callX_args fH16) ?_
      have mH16 := kH16.1
      have hk := hk.trans kH16
      have hat := hat.keep kH16 (by simp)
      have hlf := kH16.lf hlf (fun _ _ => by simp)
      have c1 := kH16.cl c1 (by simp)
      have c4 := kH16.cl c4 (by simp)
      have c7 := kH16.cl c7 (by simp)
      have hs1 := kH16.sl0 hs1
      have c10 := kH16.cl c10 (by simp)
      have hs2 := kH16.sl0 hs2
      have c13 := kH16.cl c13 (by simp)
      refine wN_mov (v := .tuple #[iv ((g.th us e2).1), iv ((g.th us e2).2)]) rfl ?_
      refine wN_pur (v := iv ((g.th us e2).1)) rfl (by kernel_rfl) ?_
      refine wN_pur (v := iv ((g.th us e2).2)) rfl (by kernel_rfl) ?_
      refine wN_mov (v := iv ((g.th us e2).1)) rfl ?_
      refine wN_mov (v := iv ((g.th us e2).2)) rfl ?_
      refine wN_end ?_
      refine wN_seq ?_
      refine wN_lda (b := H3.next) (o := 0) rfl c4.rd (show row 2 _ _ = some [iv ((g.wv e).1), iv ((g.wv e).2.1)] from rfl) ?_
      refine wN_lda (b := H6.next) (o := 0) rfl c7.rd (show row 2 _ _ = some [iv ((g.wv e).1), iv ((g.wv e).2.1)] from rfl) ?_
      refine wN_pur (v := .bool true) rfl (eql30 rfl rfl) ?_
      refine wN_mov (v := .bool true) rfl ?_
      refine wN_g rfl (wN_mov (v := iv ((g.wv e).2.2)) rfl ?_)
      refine wN_g rfl (wN_mov (v := iv ((g.wv e).2.2)) rfl ?_)
      refine wN_g rfl (wN_b_eql (a := (g.wv e).2.2) (b := (g.wv e).2.2) rfl rfl ?_)
      intro t2 g2; cases t2
      · have g2 : ¬ (((g.wv e).2.2) = ((g.wv e).2.2)) := by simpa using g2
        exact absurd rfl g2
      · have g2 : ((g.wv e).2.2) = ((g.wv e).2.2) := by simpa using g2
        refine wN_pur (v := .bool true) rfl rfl ?_
        refine wN_mov (v := .bool true) rfl ?_
        refine wN_g rfl (wN_mov (v := .slice la1 ((g.tl us).length) lc1) rfl ?_)
        refine wN_g rfl (wN_mov (v := .slice la2 ((g.tl us).length) lc2) rfl ?_)
        obtain ⟨H17, fH17, kH17⟩ := Same_ok (kn := kn) (lo := lo) (H := H16) hs1 hs2 rfl (by have := Fh.tl_len (g := g) (us := us); omega)
        refine wN_g rfl (wN_callf (vs := [.slice la1 ((g.tl us).length) lc1, .slice la2 ((g.tl us).length) lc2]) rfl (callX_args fH17) ?_)
        have mH17 := kH17.1
        have hk := hk.trans kH17
        have hat := hat.keep kH17 (by simp)
        have hlf := kH17.lf hlf (fun _ _ => by simp)
        have c1 := kH17.cl c1 (by simp)
        have c4 := kH17.cl c4 (by simp)
        have c7 := kH17.cl c7 (by simp)
        have hs1 := kH17.sl0 hs1
        have c10 := kH17.cl c10 (by simp)
        have hs2 := kH17.sl0 hs2
        have c13 := kH17.cl c13 (by simp)
        refine wN_pur (v := .bool true) rfl rfl ?_
        refine wN_mov (v := .bool true) rfl ?_
        refine wN_g rfl (wN_lda (b := H9.next) (o := 0) rfl c10.rd (show row 8 _ _ = some [iv ((g.tu us).t1), iv ((g.tu us).t2), iv ((g.tu us).l1), iv ((g.tu us).l2), iv ((g.tu us).s1), iv ((g.tu us).s2), iv ((g.tu us).r1), iv ((g.tu us).r2)] from rfl) ?_)
        refine wN_g rfl (wN_lda (b := H12.next) (o := 0) rfl c13.rd (show row 8 _ _ = some [iv ((g.tu us).t1), iv ((g.tu us).t2), iv ((g.tu us).l1), iv ((g.tu us).l2), iv ((g.tu us).s1), iv ((g.tu us).s2), iv ((g.tu us).r1), iv ((g.tu us).r2)] from rfl) ?_)
        refine wN_g rfl (wN_pur (v := .bool true) rfl (eql36 rfl rfl) ?_)
        refine wN_pur (v := .bool true) rfl rfl ?_
        refine wN_mov (v := .bool true) rfl ?_
        refine wN_g rfl (wN_mov (v := iv (g.er us)) rfl ?_)
        refine wN_g rfl (wN_mov (v := iv (g.er us)) rfl ?_)
        refine wN_g rfl (wN_b_eql (a := (g.er us)) (b := (g.er us)) rfl rfl ?_)
        intro t3 g3; cases t3
        · have g3 : ¬ ((g.er us) = (g.er us)) := by simpa using g3
          exact absurd rfl g3
        · have g3 : (g.er us) = (g.er us) := by simpa using g3
          refine wN_pur (v := .bool true) rfl rfl ?_
          refine wN_mov (v := .bool true) rfl ?_
          refine wN_g rfl (wN_mov (v := iv ((g.th us e2).1)) rfl ?_)
          refine wN_g rfl (wN_mov (v := iv ((g.th us e2).1)) rfl ?_)
          refine wN_g rfl (wN_b_eql (a := (g.th us e2).1) (b := (g.th us e2).1) rfl rfl ?_)
          intro t4 g4; cases t4
          · have g4 : ¬ (((g.th us e2).1) = ((g.th us e2).1)) := by simpa using g4
            exact absurd rfl g4
          · have g4 : ((g.th us e2).1) = ((g.th us e2).1) := by simpa using g4
            refine wN_pur (v := .bool true) rfl rfl ?_
            refine wN_mov (v := .bool true) rfl ?_
            refine wN_g rfl (wN_mov (v := iv ((g.th us e2).2)) rfl ?_)
            refine wN_g rfl (wN_mov (v := iv ((g.th us e2).2)) rfl ?_)
            refine wN_g rfl (wN_b_eql (a := (g.th us e2).2) (b := (g.th us e2).2) rfl rfl ?_)
            intro t5 g5; cases t5
            · have g5 : ¬ (((g.th us e2).2) = ((g.th us e2).2)) := by simpa using g5
              exact absurd rfl g5
            · have g5 : ((g.th us e2).2) = ((g.th us e2).2) := by simpa using g5
              refine wN_pur (v := .bool true) rfl rfl ?_
              refine wN_mov (v := .bool true) rfl ?_
              refine wN_g rfl (wN_callf (vs := []) rfl (callX_known hkn) ?_)
              refine wN_pur (v := .bool true) rfl rfl ?_
              refine wN_mov (v := .bool true) rfl ?_
              refine wN_end ?_
              exact And.intro trivial (Exists.intro _ (And.intro rfl rfl))
    · have g1 : (m : Int) > 12 := of_decide_eq_true g1
      refine wN_pur (v := .bool true) rfl rfl ?_
      refine wN_end ?_
      refine condT ?_
      refine wN_seq ?_
      refine wN_callf (vs := []) rfl (callX_known hkn) ?_
      refine wN_mov (v := .bool true) rfl ?_
      refine wN_end ?_
      exact And.intro trivial (Exists.intro _ (And.intro rfl rfl))
  · skip
    refine wN_mov (v := .bool true) rfl ?_
    refine wN_gs rfl ?_
    refine wN_gs rfl ?_
    refine wN_gs rfl ?_
    refine wN_pur (v := .bool true) rfl rfl ?_
    refine wN_end ?_
    refine condT ?_
    refine wN_seq ?_
    refine wN_callf (vs := []) rfl (callX_known hkn) ?_
    refine wN_mov (v := .bool true) rfl ?_
    refine wN_end ?_
    exact And.intro trivial (Exists.intro _ (And.intro rfl rfl))
end
end Go.Ax

namespace Go.Ax
open Go Go.RowKit Go.Proofs Go.ChangeShapes Go.WideShapes Go.Deep

/-- A type whose cells are whole numbers. -/
def IntT (P : Program) (t : TypeId) : Prop := ∀ (H : Type) (enc : TypeId × Value → H) (w : World) (base : Nat) (spare : Nat → Bool) (held : Bool) (fuel : Nat) (cs : List Value) (x : DataW H × List MemPlace),
  DataW.trod enc P w base spare held fuel t cs = some x → cs.length = P.cellsOf t ∧ ∀ j, j < cs.length → ∃ n, cs[j]? = some (.int .i64 n)
theorem IntT.int {P : Program} {t : TypeId} (ht : P.underlying t = some (.int .i64)) (hc : P.cellsOf t = 1) : IntT P t := by
  intro H enc w base spare held fuel cs x h
  obtain ⟨n, rfl, _⟩ := DataW.trod_int ht h
  refine ⟨by rw [hc]; rfl, fun j hj => ⟨n, ?_⟩⟩
  have : j = 0 := by simp at hj; omega
  subst this; rfl
theorem IntT.struct {P : Program} {t : TypeId} {fs : Array Field} (ht : P.underlying t = some (.struct fs)) (hf : ∀ f ∈ fs.toList, IntT P f.type)
    (hcov : ((List.range (P.cellsOf t)).all fun j => fs.toList.any fun f => decide (f.offset ≤ j) && decide (j < f.offset + P.cellsOf f.type)) = true) : IntT P t := by
  intro H enc w base spare held fuel cs x h
  obtain ⟨xs, n, _, _, hlen, hxl, hg⟩ := DataW.trod_struct ht h
  refine ⟨hlen, fun j hj => ?_⟩
  have h1 := List.all_eq_true.1 hcov j (List.mem_range.2 (by omega))
  obtain ⟨f, hfm, h2⟩ := List.any_eq_true.1 h1
  simp only [Bool.and_eq_true, decide_eq_true_eq] at h2
  obtain ⟨i, hi, hfi⟩ := List.getElem_of_mem hfm
  have hfs : fs[i]? = some f := by
    rw [← Array.getElem?_toList, List.getElem?_eq_getElem hi, hfi]
  have hi2 : i < xs.length := by simpa [hxl] using hi
  have h3 := hg i f hfs
  rw [List.getElem?_eq_getElem hi2] at h3
  obtain ⟨h4, h5⟩ := hf f hfm _ _ _ _ _ _ _ _ _ h3
  obtain ⟨m, hm⟩ := h5 (j - f.offset) (by omega)
  refine ⟨m, ?_⟩
  rw [List.getElem?_take] at hm
  split at hm
  · rw [List.getElem?_drop, show f.offset + (j - f.offset) = j by omega] at hm; exact hm
  · cases hm

/-- A slice of rows of whole numbers, as it is given. -/
structure Given {α : Type} (w : World) (v : Value) (f : α → List Value) (l : List α) (x : Imp) : Prop where
  ok : ∀ (i : Nat) u, x.cs[i]? = some u → w.cell? ⟨x.blk, x.off + i, none⟩ = some u ∧ flat1 u = true
  cs : x.cs = l.flatMap f
  v : (v = .slice none 0 0 ∧ l = []) ∨ ∃ cap, v = .slice (some ⟨x.blk, x.off, none⟩) l.length cap ∧ l.length ≤ cap
theorem flat_get {α : Type} {f : α → List Value} {k : Nat} (hk : 0 < k) : ∀ {l : List α} (_ : ∀ x ∈ l, (f x).length = k) (i : Nat) (u : Value), (l.flatMap f)[i]? = some u → ∃ x, l[i / k]? = some x ∧ (f x)[i % k]? = some u
  | [], _, i, u, h => by simp at h
  | y :: r, hl, i, u, h => by
    have hy := hl y (List.mem_cons_self ..)
    rw [List.flatMap_cons, List.getElem?_append] at h
    split at h
    · rename_i q
      rw [hy] at q
      refine ⟨y, ?_, ?_⟩
      · rw [Nat.div_eq_of_lt q]; rfl
      · rw [Nat.mod_eq_of_lt q]; exact h
    · rename_i q
      rw [hy] at q h
      obtain ⟨x, h1, h2⟩ := flat_get hk (fun x hx => hl x (List.mem_cons_of_mem _ hx)) _ u h
      refine ⟨x, ?_, ?_⟩
      · rw [Nat.div_eq_sub_div hk (by omega)]; exact h1
      · rw [Nat.mod_eq_sub_mod (by omega)]; exact h2
theorem slice_given {H : Type} {enc : TypeId × Value → H} {P : Program} {w : World} {base b0 : Nat} {r : Reach} {held : Bool} {α : Type} (f : α → List Value) (mk : (Nat → Int) → α) (k : Nat) {t e : TypeId} {fuel : Nat} {v : Value} {x : DataW H × List MemPlace}
    (ht : P.underlying t = some (.slice e)) (hI : IntT P e) (hc : P.cellsOf e = k) (hk : 0 < k) (hmk : ∀ N : Nat → Int, f (mk N) = (List.range k).map fun j => Value.int .i64 (N j))
    (hok : Cell.okWide P w r b0 t v) (h : DataW.trod enc P w base (fun _ => true) held fuel t [v] = some x) : ∃ (l : List α) (y : Imp), Given w v f l y := by
  rcases open_slice ht h with ⟨h0, _⟩ | ⟨a, len, cap, m, n, D, Pl, hcs, hb, hl, hm, hmm, hx, hi⟩
  · cases h0
    exact ⟨[], ⟨0, 0, []⟩, fun i u e => by simp at e, rfl, .inl ⟨rfl, rfl⟩⟩
  · cases hcs
    obtain ⟨blk, off, spot⟩ := a
    have hs : spot = none := by
      unfold Cell.okWide at hok
      rw [ht] at hok
      unfold Cell.ok at hok
      simp only [ht] at hok
      exact hok.2.2.2.1
    subst hs
    simp only [if_true] at hmm
    subst hmm
    have hcell : ∀ i, i < len → ∀ j, j < k → ∃ n, w.cell? ⟨blk, off + (i * k + j), none⟩ = some (.int .i64 n) := by
      intro i hil j hj
      obtain ⟨cs', h1, h2⟩ := hi i (by omega)
      obtain ⟨h3, h4⟩ := hI _ _ _ _ _ _ _ _ _ h2
      obtain ⟨_, h5, h6⟩ := World.cells?_some h1
      obtain ⟨n, hn⟩ := h4 j (by omega)
      refine ⟨n, ?_⟩
      have h7 := h6 j (by omega)
      rw [hn, hc, add_add] at h7
      have e : (⟨blk, off, none⟩ : Addr).add (i * k + j) = ⟨blk, off + (i * k + j), none⟩ := by
        unfold Addr.add
        by_cases q : i * k + j = 0
        · simp [q]
        · simp
      rw [e] at h7
      exact h7
    refine ⟨(List.range len).map fun i => mk fun j => match w.cell? ⟨blk, off + (i * k + j), none⟩ with | some (.int _ n) => n | _ => 0, ⟨blk, off, _⟩, ?_, rfl, .inr ⟨m, by simp, by simpa using hl⟩⟩
    intro i u hu
    obtain ⟨y, h1, h2⟩ := flat_get hk (fun y hy => by
      obtain ⟨i, _, rfl⟩ := List.mem_map.1 hy
      rw [hmk]; simp) i u hu
    have hlt : i / k < len := by
      have := get_lt h1
      simpa using this
    rw [List.getElem?_map, List.getElem?_range hlt] at h1
    simp only [Option.map_some, Option.some.injEq] at h1
    subst h1
    have hj : i % k < k := Nat.mod_lt _ hk
    rw [hmk, List.getElem?_map, List.getElem?_range hj] at h2
    simp only [Option.map_some, Option.some.injEq] at h2
    obtain ⟨n, hn⟩ := hcell _ hlt _ hj
    rw [hn] at h2
    subst h2
    rw [Nat.div_add_mod' ] at hn
    exact ⟨hn, rfl⟩
theorem Given.rel {α : Type} {w : World} {v : Value} {f : α → List Value} {l : List α} {x : Imp} (g : Given w v f l x) {r : Ren} {H : Hp} {b : Nat} (hr : r b = some ⟨x.blk, x.off, none⟩) (hb : b < H.next) (hc : cellsOf H b = some x.cs) (hro : H.t.get b = some (.ro x.cs)) :
    ∃ a cap, VR r (.slice a l.length cap) v ∧ Sl H a l.length cap (l.flatMap f) ∧ ∀ b, a = some ⟨b, 0, none⟩ → H.t.get b = some (.ro (l.flatMap f)) := by
  rcases g.v with ⟨rfl, rfl⟩ | ⟨cap, rfl, hl⟩
  · exact ⟨none, 0, .nilSlice, .inl ⟨.inl rfl, rfl, rfl, rfl⟩, fun b e => by cases e⟩
  · refine ⟨some ⟨b, 0, none⟩, cap, ?_, .inr ⟨b, rfl, ⟨hb, by rw [hc, g.cs]⟩, hl⟩, fun b' e => by cases e; rw [hro, g.cs]⟩
    have := VR.slice (o := 0) (n := l.length) (c := cap) hr rfl hl
    simpa using this
theorem flat_ints (us : List Int) : us.flatMap (fun x => [iv x]) = ints us := by
  induction us with
  | nil => rfl
  | cons u us ih => rw [List.flatMap_cons, ih]; rfl
end Go.Ax

/-! Slices of rows of plain cells, as arguments. -/
namespace Go.Ax
open Go Go.RowKit Go.Proofs Go.ChangeShapes Go.WideShapes Go.Deep

theorem IntT.row {α : Type} {P : Program} {t : TypeId} {k : Nat} {f : α → List Value} {mk : (Nat → Int) → α} (h : IntT P t) (hc : P.cellsOf t = k) (hmk : ∀ N : Nat → Int, f (mk N) = (List.range k).map fun j => Value.int .i64 (N j))
    {H : Type} {enc : TypeId × Value → H} {w : World} {base : Nat} {spare : Nat → Bool} {held : Bool} (fuel : Nat) (cs : List Value) (x : DataW H × List MemPlace) (hx : DataW.trod enc P w base spare held fuel t cs = some x) : ∃ y : α, cs = f y ∧ True := by
  obtain ⟨h1, h2⟩ := h _ _ _ _ _ _ _ _ _ hx
  have : ∃ N : Nat → Int, ∀ j, j < cs.length → cs[j]? = some (.int .i64 (N j)) := by
    refine ⟨fun j => match cs[j]? with | some (.int _ n) => n | _ => 0, fun j hj => ?_⟩
    obtain ⟨n, hn⟩ := h2 j hj
    simp [hn]
  obtain ⟨N, hN⟩ := this
  refine ⟨mk N, ?_, trivial⟩
  rw [hmk]
  apply List.ext_getElem?
  intro j
  by_cases hj : j < k
  · rw [hN j (by omega), List.getElem?_map, List.getElem?_range hj]; rfl
  · rw [List.getElem?_eq_none (by omega), List.getElem?_eq_none (by simp; omega)]
theorem spot_of {w : World} {a : Addr} {v : Value} (h : w.cell? a = some v) : a.spot = none := by
  unfold World.cell? at h
  split at h
  · cases hs : a.spot with
    | none => rfl
    | some x => rw [hs] at h; simp at h
  · cases h
theorem add_zero' (a : Addr) : a.add 0 = a := by unfold Addr.add; simp
theorem add_plain (b o n : Nat) : (⟨b, o, none⟩ : Addr).add n = ⟨b, o + n, none⟩ := by
  unfold Addr.add
  by_cases q : n = 0
  · simp [q]
  · simp [q]
/-- A slice of rows, as it is read; Q: what else is known of a row. -/
theorem rows_read {H : Type} {enc : TypeId × Value → H} {P : Program} {w : World} {base : Nat} {held : Bool} {α : Type} {f : α → List Value} {Q : α → Prop} {k : Nat} {t e : TypeId} {fuel : Nat} {v : Value} {x : DataW H × List MemPlace}
    (ht : P.underlying t = some (.slice e)) (hR : ∀ (fuel : Nat) (cs : List Value) (x : DataW H × List MemPlace), DataW.trod enc P w base (fun _ => true) held fuel e cs = some x → ∃ y : α, cs = f y ∧ Q y) (hc : P.cellsOf e = k) (hk : 0 < k) (hfk : ∀ y, (f y).length = k)
    (h : DataW.trod enc P w base (fun _ => true) held fuel t [v] = some x) : ∃ (l : List α), l.length ≤ maxLen ∧ (∀ y ∈ l, Q y) ∧
      (((v = .slice none 0 0 ∨ ∃ a', v = .slice (some a') 0 0) ∧ l = []) ∨ ∃ blk off cap, v = .slice (some ⟨blk, off, none⟩) l.length cap ∧ l.length ≤ cap ∧ ∀ (i : Nat) u, (l.flatMap f)[i]? = some u → w.cell? ⟨blk, off + i, none⟩ = some u) := by
  rcases open_slice ht h with ⟨h0, _⟩ | ⟨a, len, cap, m, n, D, Pl, hcs, hb, hl, hm, hmm, hx, hi⟩
  · cases h0
    exact ⟨[], by simp, fun y hy => by simp at hy, .inl ⟨.inl rfl, rfl⟩⟩
  cases hcs
  simp only [if_true] at hmm
  subst hmm
  rcases Nat.eq_zero_or_pos m with h0 | h0
  · subst h0
    have : len = 0 := by omega
    subst this
    exact ⟨[], by simp, fun y hy => by simp at hy, .inl ⟨.inr ⟨_, rfl⟩, rfl⟩⟩
  obtain ⟨blk, off, spot⟩ := a
  have hs : spot = none := by
    obtain ⟨cs', h1, h2⟩ := hi 0 h0
    obtain ⟨y, hy, _⟩ := hR _ _ _ h2
    obtain ⟨_, h5, h6⟩ := World.cells?_some h1
    have h7 := h6 0 (by omega)
    rw [Nat.zero_mul, add_zero', add_zero'] at h7
    have h8 : cs'[0]? = some (cs'[0]'(by omega)) := List.getElem?_eq_getElem _
    rw [h8] at h7
    exact spot_of h7
  subst hs
  have hrow : ∀ i, i < len → ∃ y : α, Q y ∧ ∀ j, j < k → ∃ u, (f y)[j]? = some u ∧ w.cell? ⟨blk, off + (i * k + j), none⟩ = some u := by
    intro i hil
    obtain ⟨cs', h1, h2⟩ := hi i (by omega)
    obtain ⟨y, rfl, hq⟩ := hR _ _ _ h2
    obtain ⟨_, h5, h6⟩ := World.cells?_some h1
    refine ⟨y, hq, fun j hj => ?_⟩
    have h7 := h6 j (by omega)
    have h8 : (f y)[j]? = some ((f y)[j]'(by rw [hfk]; exact hj)) := List.getElem?_eq_getElem _
    rw [h8, hc, add_plain, add_plain, Nat.add_assoc] at h7
    exact ⟨_, h8, h7⟩
  have key : ∀ n, n ≤ len → ∃ l : List α, l.length = n ∧ (∀ y ∈ l, Q y) ∧ ∀ (i : Nat) y, l[i]? = some y → ∀ j, j < k → ∃ u, (f y)[j]? = some u ∧ w.cell? ⟨blk, off + (i * k + j), none⟩ = some u := by
    intro n
    induction n with
    | zero => intro _; exact ⟨[], rfl, fun y hy => by simp at hy, fun i y e => by simp at e⟩
    | succ n ih =>
      intro hn
      obtain ⟨l, h1, hq, h2⟩ := ih (by omega)
      obtain ⟨y, hyq, hy⟩ := hrow n (by omega)
      refine ⟨l ++ [y], by simp [h1], fun z hz => ?_, fun i z e => ?_⟩
      · simp only [List.mem_append, List.mem_singleton] at hz
        rcases hz with hz | rfl
        · exact hq z hz
        · exact hyq
      rw [List.getElem?_append] at e
      split at e
      · exact h2 i z e
      · rename_i q
        have : i = n := by have := get_lt e; simp at this; omega
        subst this
        rw [h1, Nat.sub_self] at e
        simp at e; subst e
        exact hy
  obtain ⟨l, hl1, hq, hl2⟩ := key len (Nat.le_refl _)
  refine ⟨l, by omega, hq, .inr ⟨blk, off, m, by rw [hl1], by omega, fun i u hu => ?_⟩⟩
  obtain ⟨y, h1, h2⟩ := flat_get hk (fun y _ => hfk y) i u hu
  have hj : i % k < k := Nat.mod_lt _ hk
  obtain ⟨u', e1, e2⟩ := hl2 _ y h1 _ hj
  rw [h2] at e1; cases e1
  rw [Nat.div_add_mod'] at e2
  exact e2
end Go.Ax

/-! A harvest as an argument: its beds and its rates, and what they hold. -/
namespace Go.Ax
open Go Go.RowKit Go.Proofs Go.ChangeShapes Go.WideShapes Go.Deep

def renOf (imps : List Imp) : Ren := fun b => (imps[b]?).map fun x => ⟨x.blk, x.off, none⟩
theorem imports3 {P : Program} (imps outs : List Imp) (w : World) (h : ∀ x ∈ imps, ∀ (i : Nat) v, x.cs[i]? = some v → w.cell? ⟨x.blk, x.off + i, none⟩ = some v ∧ flat1 v = true)
    (hcs : ∀ x ∈ outs, ∀ (i : Nat) v, x.cs[i]? = some v → ∃ v', w.cell? ⟨x.blk, x.off + i, none⟩ = some v' ∧ VR (renOf imps) v v') :
    ∃ (r : Ren) (H : Hp), Rel P r w.heap.size H w ∧ H.next = (imps ++ outs).length ∧ (∀ b loc, r b = some loc → b < H.next) ∧ Ren.Le (renOf imps) r ∧ ∀ (b : Nat) x, (imps ++ outs)[b]? = some x → r b = some ⟨x.blk, x.off, none⟩ ∧ H.t.get b = some (.ro x.cs) := by
  have hall : ∀ x ∈ imps ++ outs, ∀ (i : Nat) v, x.cs[i]? = some v → ∃ v', w.cell? ⟨x.blk, x.off + i, none⟩ = some v' ∧ VR (renOf imps) v v' := by
    intro x hx i v hv
    rcases List.mem_append.1 hx with hx | hx
    · obtain ⟨h1, h2⟩ := h x hx i v hv
      exact ⟨v, h1, flat1_vr h2⟩
    · exact hcs x hx i v hv
  obtain ⟨t, ht⟩ := tr_of (fun b => ((imps ++ outs)[b]?).map fun x => .ro x.cs) (imps ++ outs).length
  have hle : Ren.Le (renOf imps) (fun b => ((imps ++ outs)[b]?).map fun x => ⟨x.blk, x.off, none⟩) := fun b loc e => by
    unfold renOf at e
    have hlt : b < imps.length := by
      rcases Nat.lt_or_ge b imps.length with q | q
      · exact q
      · rw [List.getElem?_eq_none q] at e; cases e
    show ((imps ++ outs)[b]?).map _ = _
    rw [List.getElem?_append_left hlt]; exact e
  have hr : ∀ (b : Nat) loc, ((imps ++ outs)[b]?).map (fun x => (⟨x.blk, x.off, none⟩ : Loc)) = some loc → ∃ x, (imps ++ outs)[b]? = some x ∧ b < (imps ++ outs).length ∧ loc = ⟨x.blk, x.off, none⟩ ∧ t.get b = some (.ro x.cs) := by
    intro b loc e
    cases hx : (imps ++ outs)[b]? with
    | none => rw [hx] at e; cases e
    | some x =>
      rw [hx] at e
      simp at e
      have hlt := get_lt hx
      exact ⟨x, rfl, hlt, e.symm, by rw [ht, if_pos hlt, hx]; rfl⟩
  have low : ∀ {g o : Nat} {v : Value}, w.cell? ⟨g, o, none⟩ = some v → g < w.heap.size := fun {g o v} hv => by
    unfold World.cell? at hv
    rcases Nat.lt_or_ge g w.heap.size with q | q
    · exact q
    · rw [Array.getElem?_eq_none q] at hv; cases hv
  refine ⟨fun b => ((imps ++ outs)[b]?).map fun x => ⟨x.blk, x.off, none⟩, { next := (imps ++ outs).length, t }, ⟨?_, ?_, ?_, Nat.le_refl _⟩, rfl, ?_, hle, ?_⟩
  · intro b loc e
    obtain ⟨x, hx, hlt, rfl, hg⟩ := hr b loc e
    refine ⟨hlt, ?_⟩
    show Dm _ _ _ (t.get b)
    rw [hg]
    cases hc : x.cs with
    | nil => exact .inl rfl
    | cons v l =>
      obtain ⟨v', h1, _⟩ := hall x (List.mem_of_getElem? hx) 0 v (by rw [hc]; rfl)
      exact .inr (low h1)
  · intro b loc o e eo
    obtain ⟨x, hx, hlt, rfl, hg⟩ := hr b loc e
    rw [hg] at eo; cases eo
    refine ⟨rfl, fun i v ev => ?_⟩
    obtain ⟨v', h1, h2⟩ := hall x (List.mem_of_getElem? hx) i v ev
    unfold World.cell? at h1
    simp only at h1
    split at h1
    · rename_i C e' f hC
      exact ⟨C, e', f, v', hC, by simpa using h1, h2.mono hle⟩
    · cases h1
  · intro b b' loc loc' e e' _ hl _
    obtain ⟨x, hx, hlt, rfl, hg⟩ := hr b loc e
    obtain ⟨o, h1, h2, h3⟩ := hl
    have : t.get b = some o := h1
    rw [hg] at this; cases this
    cases h3
  · intro b loc e
    obtain ⟨x, hx, hlt, rfl, hg⟩ := hr b loc e
    exact hlt
  · intro b x hx
    have hlt := get_lt hx
    refine ⟨by simp only [hx, Option.map_some], ?_⟩
    show t.get b = _
    rw [ht, if_pos hlt, hx]; rfl

/-- An inner slice, as it is given: an empty one may have any address. -/
structure GivI {α : Type} (w : World) (v : Value) (f : α → List Value) (l : List α) (x : Imp) : Prop where
  ok : ∀ (i : Nat) u, x.cs[i]? = some u → w.cell? ⟨x.blk, x.off + i, none⟩ = some u ∧ flat1 u = true
  cs : x.cs = l.flatMap f
  v : ((v = .slice none 0 0 ∨ ∃ a', v = .slice (some a') 0 0) ∧ l = []) ∨ ∃ cap, v = .slice (some ⟨x.blk, x.off, none⟩) l.length cap ∧ l.length ≤ cap
theorem givI_of {H : Type} {enc : TypeId × Value → H} {P : Program} {w : World} {base : Nat} {held : Bool} {α : Type} {f : α → List Value} {Q : α → Prop} {k : Nat} {t e : TypeId} {fuel : Nat} {v : Value} {x : DataW H × List MemPlace}
    (ht : P.underlying t = some (.slice e)) (hR : ∀ (fuel : Nat) (cs : List Value) (x : DataW H × List MemPlace), DataW.trod enc P w base (fun _ => true) held fuel e cs = some x → ∃ y : α, cs = f y ∧ Q y) (hc : P.cellsOf e = k) (hk : 0 < k) (hfk : ∀ y, (f y).length = k) (hflat : ∀ y u, u ∈ f y → flat1 u = true)
    (h : DataW.trod enc P w base (fun _ => true) held fuel t [v] = some x) : ∃ (l : List α) (y : Imp), GivI w v f l y := by
  obtain ⟨l, h1, h2, ⟨h3, rfl⟩ | ⟨blk, off, cap, h3, h4, h5⟩⟩ := rows_read ht hR hc hk hfk h
  · exact ⟨[], ⟨0, 0, []⟩, ⟨fun i u e => by simp at e, rfl, .inl ⟨h3, rfl⟩⟩⟩
  · refine ⟨l, ⟨blk, off, l.flatMap f⟩, ⟨fun i u hu => ⟨h5 i u hu, ?_⟩, rfl, .inr ⟨cap, h3, h4⟩⟩⟩
    obtain ⟨y, hy, hu'⟩ := List.mem_flatMap.1 (List.mem_of_getElem? hu)
    exact hflat y u hu'
theorem GivI.rel {α : Type} {w : World} {v : Value} {f : α → List Value} {l : List α} {x : Imp} (g : GivI w v f l x) {r : Ren} {b : Nat} (hr : r b = some ⟨x.blk, x.off, none⟩) :
    ∃ a cap, VR r (.slice a l.length cap) v ∧ (∀ y, a = some ⟨y, 0, none⟩ → y = b) ∧ ∀ H : Hp, b < H.next → H.t.get b = some (.ro x.cs) → Sl H a l.length cap (l.flatMap f) := by
  rcases g.v with ⟨rfl | ⟨a', rfl⟩, rfl⟩ | ⟨cap, rfl, hl⟩
  · exact ⟨none, 0, .nilSlice, fun y e => by (cases e), fun H _ _ => .inl ⟨.inl rfl, rfl, rfl, rfl⟩⟩
  · exact ⟨some ⟨0, 0, some 0⟩, 0, .weird, fun y e => by (cases e), fun H _ _ => .inl ⟨.inr rfl, rfl, rfl, rfl⟩⟩
  · refine ⟨some ⟨b, 0, none⟩, cap, ?_, fun y e => by (cases e; rfl), fun H hb hc => .inr ⟨b, rfl, ⟨hb, by unfold cellsOf; rw [hc, g.cs]⟩, hl⟩⟩
    have := VR.slice (o := 0) (n := l.length) (c := cap) hr rfl hl
    simpa using this
structure BV where
  need : Int
  l1 : Int
  l2 : Int
  wv : Value
  ws : List (Int × Int)
  x : Imp
def BV.f (b : BV) : List Value := [iv b.need, iv b.l1, iv b.l2, b.wv]
def BV.Q (w : World) (b : BV) : Prop := GivI w b.wv (fun s : Int × Int => [iv s.1, iv s.2]) b.ws b.x
structure RV where
  rv : Value
  l : List Int
  x : Imp
def RV.f (r : RV) : List Value := [r.rv]
def RV.Q (w : World) (r : RV) : Prop := GivI w r.rv (fun n : Int => [iv n]) r.l r.x
theorem bogs_abs {w : World} {imps : List Imp} : ∀ (L : List BV) (pre post : List Imp), imps = pre ++ L.map BV.x ++ post → (∀ b ∈ L, b.Q w) → ∃ bs : List Bg, bs.length = L.length ∧ LR (renOf imps) (bgc bs) (L.flatMap BV.f) ∧
    ∀ (H : Hp) (f : Nat), imps.length ≤ f → (∀ (b : Nat) x, imps[b]? = some x → b < H.next ∧ H.t.get b = some (.ro x.cs)) → ∀ b ∈ bs, Sl H b.wa b.wn b.wcap (spc b.ws) ∧ b.ws.length = b.wn ∧ ∀ x, b.wa = some ⟨x, 0, none⟩ → x < f
  | [], _, _, _, _ => ⟨[], rfl, .nil, fun _ _ _ _ b hb => by simp at hb⟩
  | b :: L, pre, post, he, hq => by
    obtain ⟨bs, e1, e2, e3⟩ := bogs_abs (imps := imps) L (pre ++ [b.x]) post (by rw [he]; simp) (fun x hx => hq x (List.mem_cons_of_mem _ hx))
    have q := hq b (List.mem_cons_self ..)
    have i1 : imps[pre.length]? = some b.x := by rw [he]; simp
    obtain ⟨a1, c1, r1, y1, l1⟩ := GivI.rel q (r := renOf imps) (b := pre.length) (by unfold renOf; rw [i1]; rfl)
    refine ⟨⟨b.need, b.l1, b.l2, a1, b.ws.length, c1, b.ws⟩ :: bs, by simp [e1], ?_, fun H f hf hH x hx => ?_⟩
    · show LR (renOf imps) (iv b.need :: iv b.l1 :: iv b.l2 :: .slice a1 b.ws.length c1 :: bgc bs) (iv b.need :: iv b.l1 :: iv b.l2 :: b.wv :: L.flatMap BV.f)
      exact .cons (.int _ _) (.cons (.int _ _) (.cons (.int _ _) (.cons r1 e2)))
    · simp only [List.mem_cons] at hx
      rcases hx with rfl | hx
      · obtain ⟨b1, d1⟩ := hH _ _ i1
        exact ⟨l1 H b1 d1, rfl, fun x e => by have := y1 x e; have := get_lt i1; omega⟩
      · exact e3 H f hf hH x hx
theorem rates_abs {w : World} {imps : List Imp} : ∀ (L : List RV) (pre post : List Imp), imps = pre ++ L.map RV.x ++ post → (∀ b ∈ L, b.Q w) → ∃ bs : List Rw, bs.length = L.length ∧ LR (renOf imps) (rwc bs) (L.flatMap RV.f) ∧
    ∀ (H : Hp) (f : Nat), imps.length ≤ f → (∀ (b : Nat) x, imps[b]? = some x → b < H.next ∧ H.t.get b = some (.ro x.cs)) → ∀ b ∈ bs, Sl H b.ra b.n b.cap (ints b.l) ∧ b.l.length = b.n ∧ ∀ x, b.ra = some ⟨x, 0, none⟩ → x < f
  | [], _, _, _, _ => ⟨[], rfl, .nil, fun _ _ _ _ b hb => by simp at hb⟩
  | b :: L, pre, post, he, hq => by
    obtain ⟨bs, e1, e2, e3⟩ := rates_abs (imps := imps) L (pre ++ [b.x]) post (by rw [he]; simp) (fun x hx => hq x (List.mem_cons_of_mem _ hx))
    have q := hq b (List.mem_cons_self ..)
    have i1 : imps[pre.length]? = some b.x := by rw [he]; simp
    obtain ⟨a1, c1, r1, y1, l1⟩ := GivI.rel q (r := renOf imps) (b := pre.length) (by unfold renOf; rw [i1]; rfl)
    refine ⟨⟨a1, b.l.length, c1, b.l⟩ :: bs, by simp [e1], ?_, fun H f hf hH x hx => ?_⟩
    · show LR (renOf imps) (.slice a1 b.l.length c1 :: rwc bs) (b.rv :: L.flatMap RV.f)
      exact .cons r1 e2
    · simp only [List.mem_cons] at hx
      rcases hx with rfl | hx
      · obtain ⟨b1, d1⟩ := hH _ _ i1
        exact ⟨by rw [← flat_ints]; exact l1 H b1 d1, rfl, fun x e => by have := y1 x e; have := get_lt i1; omega⟩
      · exact e3 H f hf hH x hx
/-- A list of rows that point elsewhere, as it is given. -/
structure GivO {α : Type} (w : World) (v : Value) (f : α → List Value) (l : List α) (x : Imp) : Prop where
  cs : ∀ (i : Nat) u, (l.flatMap f)[i]? = some u → w.cell? ⟨x.blk, x.off + i, none⟩ = some u
  v : ((v = .slice none 0 0 ∨ ∃ a', v = .slice (some a') 0 0) ∧ l = []) ∨ ∃ cap, v = .slice (some ⟨x.blk, x.off, none⟩) l.length cap ∧ l.length ≤ cap
theorem givO_rel {α : Type} {w : World} {v : Value} {f : α → List Value} {l : List α} {x : Imp} (g : GivO w v f l x) {r : Ren} {H : Hp} {b n : Nat} {cs : List Value} (hr : r b = some ⟨x.blk, x.off, none⟩) (hb : b < H.next) (hg : H.t.get b = some (.ro cs)) (hn : n = l.length) (h0 : l = [] → cs = []) :
    ∃ a cap, VR r (.slice a n cap) v ∧ Sl H a n cap cs := by
  subst hn
  rcases g.v with ⟨rfl | ⟨a', rfl⟩, rfl⟩ | ⟨cap, rfl, hl⟩
  · exact ⟨none, 0, .nilSlice, .inl ⟨.inl rfl, rfl, rfl, h0 rfl⟩⟩
  · exact ⟨some ⟨0, 0, some 0⟩, 0, .weird, .inl ⟨.inr rfl, rfl, rfl, h0 rfl⟩⟩
  · refine ⟨some ⟨b, 0, none⟩, cap, ?_, .inr ⟨b, rfl, ⟨hb, by unfold cellsOf; rw [hg]⟩, hl⟩⟩
    have := VR.slice (o := 0) (n := l.length) (c := cap) hr rfl hl
    simpa using this
/-- A harvest, as it is given. -/
structure HG (w : World) (s1 s2 : Value) (L1 : List BV) (L2 : List RV) (x1 x2 : Imp) : Prop where
  g1 : GivO w s1 BV.f L1 x1
  g2 : GivO w s2 RV.f L2 x2
  q1 : ∀ b ∈ L1, b.Q w
  q2 : ∀ b ∈ L2, b.Q w
theorem imports_harvest {P : Program} (pre : List Imp) {w : World} {s1 s2 : Value} {L1 : List BV} {L2 : List RV} {x1 x2 : Imp} (hg : HG w s1 s2 L1 L2 x1 x2) (inlet reserve winds : Int) (h : ∀ x ∈ pre, ∀ (i : Nat) v, x.cs[i]? = some v → w.cell? ⟨x.blk, x.off + i, none⟩ = some v ∧ flat1 v = true) :
    ∃ (r : Ren) (H : Hp) (g : Fh), Rel P r w.heap.size H w ∧ (∀ b loc, r b = some loc → b < H.next) ∧ (∀ (b : Nat) x, pre[b]? = some x → b < H.next ∧ r b = some ⟨x.blk, x.off, none⟩ ∧ H.t.get b = some (.ro x.cs)) ∧ g.At H.next H ∧ g.inlet = inlet ∧ g.reserve = reserve ∧ g.winds = winds ∧
      VR r (.slice g.ba g.bn g.bcap) s1 ∧ VR r (.slice g.ra g.rn g.rcap) s2 := by
  obtain ⟨bs, b1, b2, b3⟩ := bogs_abs (w := w) (imps := pre ++ L1.map BV.x ++ L2.map RV.x) L1 pre (L2.map RV.x) rfl hg.q1
  obtain ⟨rs, r1, r2, r3⟩ := rates_abs (w := w) (imps := pre ++ L1.map BV.x ++ L2.map RV.x) L2 (pre ++ L1.map BV.x) [] (by simp) hg.q2
  obtain ⟨imps, himps⟩ : ∃ imps, imps = pre ++ L1.map BV.x ++ L2.map RV.x := ⟨_, rfl⟩
  rw [← himps] at b2 b3 r2 r3
  have himp : ∀ x ∈ imps, ∀ (i : Nat) v, x.cs[i]? = some v → w.cell? ⟨x.blk, x.off + i, none⟩ = some v ∧ flat1 v = true := by
    intro x hx
    rw [himps] at hx
    simp only [List.mem_append, List.mem_map] at hx
    rcases hx with (hx | ⟨y, hy, rfl⟩) | ⟨y, hy, rfl⟩
    · exact h x hx
    · exact (hg.q1 y hy).ok
    · exact (hg.q2 y hy).ok
  have side : ∀ {α : Type} {v : Value} {f : α → List Value} {l : List α} {x : Imp} {cs : List Value}, GivO w v f l x → LR (renOf imps) cs (l.flatMap f) → ∀ (i : Nat) u, cs[i]? = some u → ∃ v', w.cell? ⟨x.blk, x.off + i, none⟩ = some v' ∧ VR (renOf imps) u v' := by
    intro α v f l x cs gv hl i u hu
    have hlt := get_lt hu
    have hlt2 : i < (l.flatMap f).length := by rw [← hl.1]; exact hlt
    have hu2 := List.getElem?_eq_getElem hlt2
    exact ⟨_, gv.cs i _ hu2, hl.2 i u _ hu hu2⟩
  obtain ⟨r, H, h1, h2, h3, h4, h5⟩ := imports3 (P := P) imps [⟨x1.blk, x1.off, bgc bs⟩, ⟨x2.blk, x2.off, rwc rs⟩] w himp (by
    intro x hx i u hu
    simp only [List.mem_cons, List.not_mem_nil, or_false] at hx
    rcases hx with rfl | rfl
    · exact side hg.g1 b2 i u hu
    · exact side hg.g2 r2 i u hu)
  have hnx : H.next = imps.length + 2 := by rw [h2]; simp
  have hg5 : ∀ (b : Nat) x, imps[b]? = some x → r b = some ⟨x.blk, x.off, none⟩ ∧ H.t.get b = some (.ro x.cs) := fun b x hx => h5 b x (by rw [List.getElem?_append_left (get_lt hx)]; exact hx)
  have hH : ∀ (b : Nat) x, imps[b]? = some x → b < H.next ∧ H.t.get b = some (.ro x.cs) := fun b x hx => ⟨by have := get_lt hx; omega, (hg5 b x hx).2⟩
  obtain ⟨o1, p1⟩ := h5 imps.length ⟨x1.blk, x1.off, bgc bs⟩ (by simp)
  obtain ⟨o2, p2⟩ := h5 (imps.length + 1) ⟨x2.blk, x2.off, rwc rs⟩ (by simp)
  obtain ⟨a1, c1, v1, s1'⟩ := givO_rel hg.g1 o1 (by omega) p1 b1 (fun e => by have : bs = [] := List.eq_nil_of_length_eq_zero (by rw [b1, e]; rfl); rw [this]; rfl)
  obtain ⟨a2, c2, v2, s2'⟩ := givO_rel hg.g2 o2 (by omega) p2 r1 (fun e => by have : rs = [] := List.eq_nil_of_length_eq_zero (by rw [r1, e]; rfl); rw [this]; rfl)
  refine ⟨r, H, ⟨a1, bs.length, c1, bs, a2, rs.length, c2, rs, inlet, reserve, winds⟩, h1, h3, fun b x hx => ?_, ?_, rfl, rfl, rfl, v1, v2⟩
  · have hx2 : imps[b]? = some x := by rw [himps, List.append_assoc, List.getElem?_append_left (get_lt hx)]; exact hx
    exact ⟨(hH b x hx2).1, hg5 b x hx2⟩
  · exact ⟨Nat.le_refl _, s1', s2', rfl, rfl, fun x e => s1'.old x e, fun x e => s2'.old x e, b3 H H.next (by omega) hH, r3 H H.next (by omega) hH⟩
end Go.Ax


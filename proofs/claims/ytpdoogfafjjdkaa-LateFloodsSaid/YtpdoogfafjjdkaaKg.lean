import Derived.Test.YtpdoogfafjjdkaaKe
import Derived.Test.YtpdoogfafjjdkaaKf
set_option linter.all false
/-
  Late: the document's functions: spans compared, what is used, sureness, the warmth (21, 67, 68, 40) (written by program).
-/
namespace Go.Ax
open Go Go.RowKit Go.Proofs

theorem prun_bind {P : Program} {α β : Type} (f : α → Sem β) : ∀ (x : Sem α), prun P (x >>= f) = match prun P x with | some a => prun P (f a) | none => none := by
  intro x
  induction x with
  | pure a => rfl
  | program k ih => exact ih P
  | _ => rfl
theorem prun_pure {P : Program} {α : Type} (a : α) : prun P (pure a) = some a := rfl
theorem prun_und : prun Try.prog (underlying 3) = some (.int .i64) := by kernel_rfl
theorem prun_eqi (d : Nat) (a b : Int) : prun Try.prog (Op.equalIn (d + 1) 3 (iv a) (iv b)) = some (a == b) := by
  rw [Op.equalIn]
  rw [prun_bind, prun_und]
  rfl
theorem prun_und24 : prun Try.prog (underlying 24) = some (.struct #[⟨"Lo", 3, 0, false, "", "", 0⟩, ⟨"Hi", 3, 1, false, "", "", 8⟩]) := by kernel_rfl
theorem st24 : Try.prog.stoodInHeld 24 = false := by kernel_rfl
theorem prun_part0 (a b : Int) : prun Try.prog (part 3 #[iv a, iv b] 0) = some (iv a) := by kernel_rfl
theorem prun_part1 (a b : Int) : prun Try.prog (part 3 #[iv a, iv b] 1) = some (iv b) := by kernel_rfl
theorem prun_eq24 (d : Nat) (a b c e : Int) : prun Try.prog (Op.equalIn (d + 2) 24 (.agg #[iv a, iv b]) (.agg #[iv c, iv e])) = some (a == c && b == e) := by
  rw [Op.equalIn]
  rw [prun_bind, prun_und24]
  simp only []
  rw [prun_bind]
  rw [show prun Try.prog program = some Try.prog from rfl]
  simp only [st24]
  simp only [Bool.false_eq_true, if_false, ↓reduceIte]
  rw [← Array.forIn_toList]
  simp only [List.forIn_cons, List.forIn_nil]
  rw [if_pos (by decide), if_pos (by decide)]
  simp only [prun_bind, prun_part0, prun_part1, prun_eqi]
  generalize (a == c) = u
  cases u
  · simp only [Bool.not_false, ↓reduceIte, prun_pure, Bool.false_and]
  · simp only [Bool.not_true, Bool.false_eq_true, ↓reduceIte, prun_pure, prun_bind, prun_part0, prun_part1, prun_eqi, Bool.true_and]
    generalize (b == e) = w
    cases w
    · simp only [Bool.not_false, ↓reduceIte, prun_pure]
    · simp only [Bool.not_true, Bool.false_eq_true, ↓reduceIte, prun_pure]
theorem md : Op.maxDepth = 9998 + 2 := by decide
theorem eg24 : Try.prog.eqGuardType Try.prog.depth 24 = false := by kernel_rfl
/-- two spans, whether they are other ones -/
theorem pure_neq24 {n : Nat} {S : Rg} {d : Option Tmp} {x y : Operand} {p : String} {a b c e : Int} (hx : evS S x = some (.agg #[iv a, iv b])) (hy : evS S y = some (.agg #[iv c, iv e])) :
    pureOp Try.prog (frS n S) ⟨d, .binOp .neq 24 x y 24, 4, p, #[], none⟩ = some (.bool (!(a == c && b == e))) := by
  have key : prun Try.prog (do eqGuard .neq 24 x y (.agg #[iv a, iv b]) (.agg #[iv c, iv e]); binOp .neq 24 (.agg #[iv a, iv b]) (.agg #[iv c, iv e])) = some (.bool (!(a == c && b == e))) := by
    rw [prun_bind]
    have hg : prun Try.prog (eqGuard .neq 24 x y (.agg #[iv a, iv b]) (.agg #[iv c, iv e])) = some () := by kernel_rfl
    rw [hg]
    clear hg
    have hb : binOp .neq 24 (.agg #[iv a, iv b]) (.agg #[iv c, iv e]) = (Op.equal 24 (.agg #[iv a, iv b]) (.agg #[iv c, iv e]) >>= fun r => pure (.bool (!r))) := by kernel_rfl
    simp only [hb]
    rw [prun_bind]
    have heq : Op.equal 24 (.agg #[iv a, iv b]) (.agg #[iv c, iv e]) = Op.equalIn (9998 + 2) 24 (.agg #[iv a, iv b]) (.agg #[iv c, iv e]) := congrArg (fun n => Op.equalIn n 24 (.agg #[iv a, iv b]) (.agg #[iv c, iv e])) md
    rw [heq, prun_eq24]
    rfl
  unfold pureOp
  simp only [ev_frS, hx, hy]
  rw [show (flat (.agg #[iv a, iv b]) && flat (.agg #[iv c, iv e])) = true from rfl, cond_true, key]
  rfl
/-- two spans, whether they are the same -/
theorem pure_eql24 {n : Nat} {S : Rg} {d : Option Tmp} {x y : Operand} {p : String} {a b c e : Int} (hx : evS S x = some (.agg #[iv a, iv b])) (hy : evS S y = some (.agg #[iv c, iv e])) :
    pureOp Try.prog (frS n S) ⟨d, .binOp .eql 24 x y 24, 4, p, #[], none⟩ = some (.bool (a == c && b == e)) := by
  have key : prun Try.prog (do eqGuard .eql 24 x y (.agg #[iv a, iv b]) (.agg #[iv c, iv e]); binOp .eql 24 (.agg #[iv a, iv b]) (.agg #[iv c, iv e])) = some (.bool (a == c && b == e)) := by
    rw [prun_bind]
    have hg : prun Try.prog (eqGuard .eql 24 x y (.agg #[iv a, iv b]) (.agg #[iv c, iv e])) = some () := by kernel_rfl
    rw [hg]
    clear hg
    have hb : binOp .eql 24 (.agg #[iv a, iv b]) (.agg #[iv c, iv e]) = (Op.equal 24 (.agg #[iv a, iv b]) (.agg #[iv c, iv e]) >>= fun r => pure (.bool r)) := by kernel_rfl
    simp only [hb]
    rw [prun_bind]
    have heq : Op.equal 24 (.agg #[iv a, iv b]) (.agg #[iv c, iv e]) = Op.equalIn (9998 + 2) 24 (.agg #[iv a, iv b]) (.agg #[iv c, iv e]) := congrArg (fun n => Op.equalIn n 24 (.agg #[iv a, iv b]) (.agg #[iv c, iv e])) md
    rw [heq, prun_eq24]
    rfl
  unfold pureOp
  simp only [ev_frS, hx, hy]
  rw [show (flat (.agg #[iv a, iv b]) && flat (.agg #[iv c, iv e])) = true from rfl, cond_true, key]
  rfl
theorem spc_full {l : List (Int × Int)} {i : Nat} {a b : Int} (h : l[i]? = some (a, b)) : row 2 (spc l) (0 + i * 2) = some [iv a, iv b] := spc_row h
theorem flB_get {g : Lt} {a b : Int} (h : flB g a b = true) : ∃ s d : Nat, a = s ∧ b = d ∧ s + d ≤ g.wn := by
  simp only [flB, inB, Bool.and_eq_true, decide_eq_true_eq] at h
  exact ⟨a.toNat, b.toNat, by omega, by omega, by omega⟩
section
variable {kn : FuncId → Option Bool} {lo : Nat} {H : Hp}
theorem same_ok {a1 a2 : Option Addr} {n c1 c2 : Nat} {ss : List (Int × Int)} (h1 : Sl H a1 n c1 (spc ss)) (h2 : Sl H a2 n c2 (spc ss)) (hl : ss.length = n) (hn : n ≤ 1000) :
    ∃ H', FnX Try.prog kn lo 21 [.slice a1 n c1, .slice a2 n c2] H (.bool true) H' ∧ Keep H H' [] := by
  have key := fnX_low (kn := kn) (lo := lo) (H := H) (args := [.slice a1 n c1, .slice a2 n c2]) (Q := fun w H' => w = .bool true ∧ Keep H H' []) Try.func21 B21 N21 Z21 L21 (by simp) ?_
  · obtain ⟨w, H', h, rfl, q⟩ := key; exact ⟨H', h, q⟩
  have hne : ((n : Int) != (n : Int)) = false := by simp
  refine And.intro (fun h => by rw [hne] at h; cases h) (fun _ => ?_)
  refine loop_low (fn := Try.f21) E21_1 N21 L21x1 (fun i : Nat => [(0, .slice a1 n c1), (1, .slice a2 n c2), (5, iv (i : Int))])
    (fun k i H' => i + k = n ∧ Keep H H' []) n 0 ⟨by omega, Keep.refl _ _⟩ ⟨rfl, rfl, rfl, trivial⟩ ?_
  rintro kk i H5 ⟨hik, hki⟩
  refine And.intro (fun hlt => ?_) (fun hge => ?_)
  · have hi : i < n := by simpa using hlt
    obtain ⟨p, hp⟩ := get_some (l := ss) (i := i) (by omega)
    rcases h1 with ⟨_, h0, _⟩ | ⟨x1, rfl, q1, _⟩
    · omega
    rcases h2 with ⟨_, h0, _⟩ | ⟨x2, rfl, q2, _⟩
    · omega
    have q1 := hki.rd q1 (by simp)
    have q2 := hki.rd q2 (by simp)
    refine wD_seq ?_
    refine wD_mov (v := .slice (some ⟨x1, 0, none⟩) n c1) rfl ?_
    refine wD_mov (v := iv (i : Int)) rfl ?_
    refine wD_idx (b := x1) (o := 0) (k := i) (j := (i : Int)) rfl rfl rfl hi ?_
    refine wD_lda (b := x1) (o := 0 + i * 2) rfl q1 (spc_row hp) ?_
    refine wD_mov (v := .slice (some ⟨x2, 0, none⟩) n c2) rfl ?_
    refine wD_mov (v := iv (i : Int)) rfl ?_
    refine wD_idx (b := x2) (o := 0) (k := i) (j := (i : Int)) rfl rfl rfl hi ?_
    refine wD_lda (b := x2) (o := 0 + i * 2) rfl q2 (spc_row hp) ?_
    refine wD_pur (v := .bool false) rfl ((pure_neq24 (a := p.1) (b := p.2) (c := p.1) (e := p.2) rfl rfl).trans (by simp)) ?_
    refine wD_end (by repeat' first | exact True.intro | exact (fun h => h) | refine And.intro ?_ ?_ | (intro h; have h : (_ : Nat) = _ := h; omega)) ?_
    refine condF ?_
    refine And.intro ⟨by omega, by omega⟩ ?_
    exact ⟨kk - 1, i + 1, by omega, ⟨by omega, hki⟩, rfl, rfl, rfl, trivial⟩
  · exact And.intro trivial (Exists.intro _ (And.intro rfl ⟨rfl, hki⟩))
theorem used67_ok {g : Lt} {x : Int} (v : g.Vd) (hx : 0 ≤ x ∧ x ≤ 5000) (hlo : lo ≤ H.next) : ∃ H', FnX Try.prog kn lo 67 [.agg g.v.toArray, iv x] H (spv (g.r1 * x / 100) ((g.r2 * x + 99) / 100)) H' ∧ Keep H H' [] := by
  have key := fnX_low (kn := kn) (lo := lo) (H := H) (args := [.agg g.v.toArray, iv x]) (Q := fun w H' => w = spv (g.r1 * x / 100) ((g.r2 * x + 99) / 100) ∧ Keep H H' []) Try.func67 B67 N67 Z67 L67 (by simp) ?_
  · obtain ⟨w, H', h, rfl, q⟩ := key; exact ⟨H', h, q⟩
  have hr := v.r
  have m1 := mul_rng (a := g.r1) (b := x) (p := 1000) (q := 5000) ⟨by omega, by omega⟩ hx
  have m2 := mul_rng (a := g.r2) (b := x) (p := 1000) (q := 5000) ⟨by omega, by omega⟩ hx
  have hk := Keep.refl H []
  intro H1 hH1; obtain ⟨kH1, nH1, c1⟩ := new_facts hH1; clear hH1
  have mH1 := kH1.1
  have hk := hk.trans kH1
  have c1 : Cl H1 H.next [.slice g.wa g.wn g.wcap, .slice g.aa g.an g.acap, iv g.r1, iv g.r2, iv g.f1, iv g.f2, iv g.g1, iv g.g2, iv g.full, iv g.base, iv g.kill, iv g.need, iv g.bear] := c1
  intro H2 hH2; obtain ⟨kH2, nH2, c2⟩ := new_facts hH2; clear hH2
  have c2 : Cl H2 H1.next [iv 0, iv 0] := c2
  have mH2 := kH2.1
  have hk := hk.trans kH2
  have c1 := kH2.cl c1 (by simp)
  refine Exists.intro _ (Exists.intro _ (And.intro c1.of (And.intro (show _ = some (iv g.r1) from rfl) ?_)))
  refine And.intro (show InR (g.r1 * x) from ⟨by omega, by omega⟩) ?_
  refine And.intro (by omega) (And.intro (by omega) (And.intro ⟨by omega, by omega⟩ ?_))
  refine Exists.intro _ (Exists.intro _ (And.intro c1.of (And.intro (show _ = some (iv g.r2) from rfl) ?_)))
  refine And.intro (show InR (g.r2 * x) from ⟨by omega, by omega⟩) ?_
  refine And.intro (show InR ((g.r2 * x) + 99) from ⟨by omega, by omega⟩) ?_
  refine And.intro (by omega) (And.intro (by omega) (And.intro ⟨by omega, by omega⟩ ?_))
  refine And.intro rfl (Exists.intro (.agg #[iv ((g.r1 * x) / 100), iv (((g.r2 * x) + 99) / 100)]) (And.intro (by kernel_rfl) ?_))
  obtain ⟨_, eH3, lH3, gH3⟩ := id c2
  refine Exists.intro _ (Exists.intro _ (Exists.intro _ (And.intro gH3 (And.intro (by omega) (And.intro rfl (And.intro rfl (And.intro (by simp) ?_)))))))
  intro H3 hH3; obtain ⟨kH3, nH3, sH3⟩ := up_facts c2 hH3; clear hH3
  have mH3 := kH3.1
  have hk := hk.new kH3 (fun b hb => by simp at hb ⊢; omega)
  have c1 := kH3.cl c1 (by first | (simp; done) | (simp; omega))
  have c2 : Cl H3 H1.next [iv ((g.r1 * x) / 100), iv (((g.r2 * x) + 99) / 100)] := sH3
  exact And.intro trivial (Exists.intro _ (And.intro (res_cell rfl a24 i24s rfl c2) ⟨rfl, hk⟩))
theorem sure68_ok {s a : Bool} : ∃ H', FnX Try.prog kn lo 68 [.bool s, .bool a] H (iv (sureV a s)) H' ∧ Keep H H' [] := by
  have key := fnX_low (kn := kn) (lo := lo) (H := H) (args := [.bool s, .bool a]) (Q := fun w H' => w = iv (sureV a s) ∧ Keep H H' []) Try.func68 B68 N68 Z68 L68 (by simp) ?_
  · obtain ⟨w, H', h, rfl, q⟩ := key; exact ⟨H', h, q⟩
  have hk := Keep.refl H []
  cases s <;> cases a
  · refine condF ?_
    refine condF ?_
    exact And.intro trivial (Exists.intro _ (And.intro rfl ⟨rfl, hk⟩))
  · refine condT ?_
    exact And.intro trivial (Exists.intro _ (And.intro rfl ⟨rfl, hk⟩))
  · refine condF ?_
    refine condT ?_
    exact And.intro trivial (Exists.intro _ (And.intro rfl ⟨rfl, hk⟩))
  · refine condT ?_
    exact And.intro trivial (Exists.intro _ (And.intro rfl ⟨rfl, hk⟩))
theorem warm40_ok {g : Lt} (v : g.Vd) {s d : Nat} (hsd : s + d ≤ g.wn) (hw : Sl H g.wa g.wn g.wcap (spc g.ws)) (hlo : lo ≤ H.next) :
    ∃ H', FnX Try.prog kn lo 40 [.agg g.v.toArray, iv (s : Int), iv (d : Int)] H (spv (g.wl s d) (g.wh s d)) H' ∧ Keep H H' [] := by
  have key := fnX_low (kn := kn) (lo := lo) (H := H) (args := [.agg g.v.toArray, iv (s : Int), iv (d : Int)]) (Q := fun w H' => w = spv (g.wl s d) (g.wh s d) ∧ Keep H H' []) Try.func40 B40 N40 Z40 L40 (by simp) ?_
  · obtain ⟨w, H', h, rfl, q⟩ := key; exact ⟨H', h, q⟩
  have hk := Keep.refl H []
  have fw := hw.old; have hn40 := v.n40
  intro H1 hH1; obtain ⟨kH1, nH1, c1⟩ := new_facts hH1; clear hH1
  have mH1 := kH1.1
  have hk := hk.trans kH1
  have hw := kH1.sl0 hw
  have c1 : Cl H1 H.next [.slice g.wa g.wn g.wcap, .slice g.aa g.an g.acap, iv g.r1, iv g.r2, iv g.f1, iv g.f2, iv g.g1, iv g.g2, iv g.full, iv g.base, iv g.kill, iv g.need, iv g.bear] := c1
  intro H2 hH2; obtain ⟨kH2, nH2, c2⟩ := new_facts hH2; clear hH2
  have c2 : Cl H2 H1.next [iv 0, iv 0] := c2
  have mH2 := kH2.1
  have hk := hk.trans kH2
  have hw := kH2.sl0 hw
  have c1 := kH2.cl c1 (by simp)
  intro H3 hH3; obtain ⟨kH3, nH3, c3⟩ := new_facts hH3; clear hH3
  have c3 : Cl H3 H2.next [iv 0, iv 0] := c3
  have mH3 := kH3.1
  have hk := hk.trans kH3
  have hw := kH3.sl0 hw
  have c1 := kH3.cl c1 (by simp)
  have c2 := kH3.cl c2 (by simp)
  obtain ⟨z0, hz0⟩ : ∃ z, z = H.next := ⟨_, rfl⟩
  obtain ⟨z1, hz1⟩ : ∃ z, z = H1.next := ⟨_, rfl⟩
  obtain ⟨z2, hz2⟩ : ∃ z, z = H2.next := ⟨_, rfl⟩
  have b36 : z0 < z1 ∧ z1 < z2 ∧ H.next ≤ z0 := by omega
  rw [← hz0] at c1
  rw [← hz1] at c2
  rw [← hz2] at c3
  rw [← hz0, ← hz1, ← hz2]
  clear hz0 hz1 hz2
  refine loop_low (fn := Try.f40) E40_1 N40 L40x1 (fun k : Nat => [(1, iv (s : Int)), (2, iv (d : Int)), (3, pt z0), (6, pt z1), (7, pt z2), (8, iv ((s + k : Nat) : Int))])
    (fun q k H' => k + q = d ∧ Keep H H' [] ∧ Sl H' g.wa g.wn g.wcap (spc g.ws) ∧ Cl H' z0 g.v ∧ Cl H' z1 [iv 0, iv 0] ∧ Cl H' z2 [iv (g.wl s k), iv (g.wh s k)]) d 0 ⟨by omega, hk, hw, c1, c2, c3⟩ ⟨rfl, rfl, rfl, rfl, rfl, rfl, trivial⟩ ?_
  rintro q k L1 ⟨hik, hk, hw, c3, c6, c7⟩
  have hm := hk.1
  have l3 := c3.lt
  have l6 := c6.lt
  have l7 := c7.lt
  have hwb := fun h : s + k ≤ g.wn => Lt.wl_in (s := s) v k h
  refine And.intro (show InR ((s : Int) + (d : Int)) from ⟨by omega, by omega⟩) ?_
  refine And.intro (fun q1 => ?_) (fun q1 => ?_)
  · have q1 : ((s + k : Nat) : Int) < ((s : Int) + (d : Int)) := of_decide_eq_true q1
    have hkd : k < d := by omega
    have hsw : s + k < g.wn := by omega
    have hW := Lt.W_in v hsw; have hbb := v.b; have hwb := hwb (by omega)
    rcases hw with ⟨_, h0, _⟩ | ⟨wb, ewa, hwd, qw⟩
    · omega
    have lwb := fw wb ewa
    refine wD_seq ?_
    refine wD_addo (b := z2) (o := 0) rfl ?_
    refine wD_ld (b := z2) (o := 0) (v := iv (g.wl s k)) rfl c7.rd rfl ?_
    refine wD_addo (b := z0) (o := 0) rfl ?_
    refine wD_ld (b := z0) (o := 0) (v := .slice (some ⟨wb, 0, none⟩) g.wn g.wcap) rfl c3.rd (show _ = some (Value.slice (some ⟨wb, 0, none⟩) g.wn g.wcap) from by rw [← ewa]; rfl) ?_
    refine wD_mov (v := iv ((s + k : Nat) : Int)) rfl ?_
    refine wD_idx (b := wb) (o := 0) (k := (s + k)) (j := ((s + k : Nat) : Int)) rfl rfl rfl hsw ?_
    refine wD_addo (b := wb) (o := 0 + (s + k) * 2) rfl ?_
    refine wD_ld (b := wb) (o := 0 + (s + k) * 2) (v := iv ((g.W (s + k)).1)) rfl hwd (span_get hW.1).1 ?_
    refine wD_addo (b := z0) (o := 0) rfl ?_
    refine wD_ld (b := z0) (o := 9) (v := iv g.base) rfl c3.rd rfl ?_
    refine wD_sub (a := (g.W (s + k)).1) (b := g.base) rfl rfl ⟨by omega, by omega⟩ ?_
    refine wD_mm (a := 0) (b := ((g.W (s + k)).1) - g.base) rfl rfl ?_
    refine wD_add (a := g.wl s k) (b := max 0 (((g.W (s + k)).1) - g.base)) rfl rfl ⟨by omega, by omega⟩ ?_
    refine wD_addo (b := z2) (o := 0) rfl ?_
    refine wD_st (b := z2) (o := 0) rfl rfl c7 (by omega) rfl rfl (by simp) ?_
    intro H4 kH4 nH4 sH4
    have mH4 := kH4.1
    have hk := hk.new kH4 (fun b hb => by simp at hb ⊢; omega)
    have c3 := kH4.cl c3 (by first | (simp; done) | (simp; omega))
    have c6 := kH4.cl c6 (by first | (simp; done) | (simp; omega))
    have hwd := kH4.rd hwd (by first | (simp; done) | (simp; omega))
    have c7 : Cl H4 z2 [iv ((g.wl s k) + (max 0 (((g.W (s + k)).1) - g.base))), iv (g.wh s k)] := sH4
    refine wD_end (by repeat' first | exact True.intro | exact (fun h => h) | refine And.intro ?_ ?_ | (intro h; have h : (_ : Nat) = _ := h; omega)) ?_
    refine wD_dreg ?_
    refine wD_addo (b := z2) (o := 0) rfl ?_
    refine wD_ld (b := z2) (o := 1) (v := iv (g.wh s k)) rfl c7.rd rfl ?_
    refine wD_addo (b := z0) (o := 0) rfl ?_
    refine wD_ld (b := z0) (o := 0) (v := .slice (some ⟨wb, 0, none⟩) g.wn g.wcap) rfl c3.rd (show _ = some (Value.slice (some ⟨wb, 0, none⟩) g.wn g.wcap) from by rw [← ewa]; rfl) ?_
    refine wD_mov (v := iv ((s + k : Nat) : Int)) rfl ?_
    refine wD_idx (b := wb) (o := 0) (k := (s + k)) (j := ((s + k : Nat) : Int)) rfl rfl rfl hsw ?_
    refine wD_addo (b := wb) (o := 0 + (s + k) * 2) rfl ?_
    refine wD_ld (b := wb) (o := 0 + (s + k) * 2 + 1) (v := iv ((g.W (s + k)).2)) rfl hwd (span_get hW.1).2 ?_
    refine wD_addo (b := z0) (o := 0) rfl ?_
    refine wD_ld (b := z0) (o := 9) (v := iv g.base) rfl c3.rd rfl ?_
    refine wD_sub (a := (g.W (s + k)).2) (b := g.base) rfl rfl ⟨by omega, by omega⟩ ?_
    refine wD_mm (a := 0) (b := ((g.W (s + k)).2) - g.base) rfl rfl ?_
    refine wD_add (a := g.wh s k) (b := max 0 (((g.W (s + k)).2) - g.base)) rfl rfl ⟨by omega, by omega⟩ ?_
    refine wD_addo (b := z2) (o := 0) rfl ?_
    refine wD_st (b := z2) (o := 1) rfl rfl c7 (by omega) rfl rfl (by simp) ?_
    intro H5 kH5 nH5 sH5
    have mH5 := kH5.1
    have hk := hk.new kH5 (fun b hb => by simp at hb ⊢; omega)
    have c3 := kH5.cl c3 (by first | (simp; done) | (simp; omega))
    have c6 := kH5.cl c6 (by first | (simp; done) | (simp; omega))
    have hwd := kH5.rd hwd (by first | (simp; done) | (simp; omega))
    have c7 : Cl H5 z2 [iv ((g.wl s k) + (max 0 (((g.W (s + k)).1) - g.base))), iv ((g.wh s k) + (max 0 (((g.W (s + k)).2) - g.base)))] := sH5
    refine wD_end (by repeat' first | exact True.intro | exact (fun h => h) | refine And.intro ?_ ?_ | (intro h; have h : (_ : Nat) = _ := h; omega)) ?_
    refine And.intro (show InR (((s + k : Nat) : Int) + 1) from ⟨by omega, by omega⟩) ?_
    exact ⟨q - 1, k + 1, by omega, ⟨by omega, hk, .inr ⟨wb, ewa, hwd, qw⟩, c3, c6, c7⟩, rfl, rfl, rfl, rfl, rfl, rfl, trivial⟩
  · have q1 : ¬ (((s + k : Nat) : Int) < ((s : Int) + (d : Int))) := of_decide_eq_false q1
    have hkd : k = d := by omega
    subst hkd
    refine Exists.intro _ (Exists.intro _ (And.intro c7.of (And.intro (show row 2 _ _ = some [iv (g.wl s k), iv (g.wh s k)] from rfl) ?_)))
    obtain ⟨_, eH6, lH6, gH6⟩ := id c6
    refine Exists.intro _ (Exists.intro _ (Exists.intro _ (And.intro gH6 (And.intro (by omega) (And.intro rfl (And.intro rfl (And.intro (by simp) ?_)))))))
    intro H6 hH6; obtain ⟨kH6, nH6, sH6⟩ := up_facts c6 hH6; clear hH6
    have mH6 := kH6.1
    have hk := hk.new kH6 (fun b hb => by simp at hb ⊢; omega)
    have hw := kH6.sl hw (fun b e => by have := fw b e; first | (simp; done) | (simp; omega))
    have c3 := kH6.cl c3 (by first | (simp; done) | (simp; omega))
    have c7 := kH6.cl c7 (by first | (simp; done) | (simp; omega))
    have c6 : Cl H6 z1 [iv (g.wl s k), iv (g.wh s k)] := sH6
    exact And.intro trivial (Exists.intro _ (And.intro (res_cell rfl a24 i24s rfl c6) ⟨rfl, hk⟩))
end
end Go.Ax
/-
  Late: the document's functions: the oxygen (43) (written by program).
-/
namespace Go.Ax
open Go Go.RowKit Go.Proofs

/-- a number, or another one if a day is among the first of a list -/
def nowV (us : List Int) (j : Nat) (x a b : Int) : Int := bif (us.take j).contains x then a else b
theorem nowV_zero {us : List Int} {x a b : Int} : nowV us 0 x a b = b := by simp [nowV]
theorem nowV_hit {us : List Int} {j : Nat} {x y a b : Int} (hy : us[j]? = some y) (h : x = y) : nowV us (j + 1) x a b = a := by
  unfold nowV
  rw [List.take_add_one, hy]
  have : (us.take j ++ (some y).toList).contains x = true := by rw [List.contains_iff_mem, h]; simp
  rw [this]; rfl
theorem nowV_miss {us : List Int} {j : Nat} {x y a b : Int} (hy : us[j]? = some y) (h : ¬ x = y) : nowV us (j + 1) x a b = nowV us j x a b := by
  unfold nowV
  rw [List.take_add_one, hy]
  have : (us.take j ++ (some y).toList).contains x = (us.take j).contains x := by
    rw [Bool.eq_iff_iff, List.contains_iff_mem, List.contains_iff_mem, List.mem_append]
    constructor
    · rintro (q | q)
      · exact q
      · simp at q; exact absurd q h
    · exact fun q => .inl q
  rw [this]
theorem nowV_in {us : List Int} {j : Nat} {x a b l m : Int} (ha : l ≤ a ∧ a ≤ m) (hb : l ≤ b ∧ b ≤ m) : l ≤ nowV us j x a b ∧ nowV us j x a b ≤ m := by
  unfold nowV
  cases (us.take j).contains x <;> simp only [cond_true, cond_false] <;> assumption
theorem lo_next {g : Lt} {us : List Int} {s k n : Nat} (hF : ∀ i : Nat, (dayMask us).testBit i = us.contains (i : Int)) (hn : us.length = n) : min g.full (max 0 (nowV us n ((s + k : Nat) : Int) g.g1 (g.lo s (Nat.testBit (dayMask us)) k) + (g.A (s + k)).1 - (g.r2 * (g.W (s + k)).2 + 99) / 100)) = g.lo s (Nat.testBit (dayMask us)) (k + 1) := by
  rw [Lt.lo]
  unfold nowV Lt.loDay
  rw [List.take_of_length_le (by omega), ← hF]
  omega
theorem hi_next {g : Lt} {us : List Int} {s k n : Nat} (hF : ∀ i : Nat, (dayMask us).testBit i = us.contains (i : Int)) (hn : us.length = n) : min g.full (max 0 (nowV us n ((s + k : Nat) : Int) g.g2 (g.hi s (Nat.testBit (dayMask us)) k) + (g.A (s + k)).2 - g.r1 * (g.W (s + k)).1 / 100)) = g.hi s (Nat.testBit (dayMask us)) (k + 1) := by
  rw [Lt.hi]
  unfold nowV Lt.hiDay
  rw [List.take_of_length_le (by omega), ← hF]
  omega
section
variable {kn : FuncId → Option Bool} {lo : Nat} {H : Hp}
theorem levels_ok {g : Lt} (v : g.Vd) {s d : Nat} (hsd : s + d ≤ g.wn) {la : Option Addr} {n cap : Nat} {us : List Int} (hw : Sl H g.wa g.wn g.wcap (spc g.ws)) (ha : Sl H g.aa g.an g.acap (spc g.as)) (hl : Sl H la n cap (ints us)) (hul : us.length = n) (hn : n ≤ 1000)
    (hF : ∀ i : Nat, (dayMask us).testBit i = us.contains (i : Int)) (hlo : lo ≤ H.next) :
    ∃ w H', FnX Try.prog kn lo 43 [.agg g.v.toArray, iv (s : Int), iv (d : Int), .slice la n cap] H w H' ∧ Keep H H' [] ∧ ∃ ta tc, w = .slice ta d tc ∧ Sl H' ta d tc (spc (g.ox s (Nat.testBit (dayMask us)) d)) := by
  refine fnX_low (kn := kn) (lo := lo) (H := H) (args := [.agg g.v.toArray, iv (s : Int), iv (d : Int), .slice la n cap]) (Q := fun w H' => Keep H H' [] ∧ ∃ ta tc, w = .slice ta d tc ∧ Sl H' ta d tc (spc (g.ox s (Nat.testBit (dayMask us)) d))) Try.func43 B43 N43 Z43 L43 (by simp) ?_
  have hk := Keep.refl H []
  have fw := hw.old; have fa := ha.old; have fl := hl.old
  have hfu := v.fu; have hr := v.r; have hf1 := v.f; have hgr := v.gr; have hnn := v.n; have hn40 := v.n40; have hb := v.b
  intro H1 hH1; obtain ⟨kH1, nH1, c1⟩ := new_facts hH1; clear hH1
  have mH1 := kH1.1
  have hk := hk.trans kH1
  have hw := kH1.sl0 hw
  have ha := kH1.sl0 ha
  have hl := kH1.sl0 hl
  have c1 : Cl H1 H.next [.slice g.wa g.wn g.wcap, .slice g.aa g.an g.acap, iv g.r1, iv g.r2, iv g.f1, iv g.f2, iv g.g1, iv g.g2, iv g.full, iv g.base, iv g.kill, iv g.need, iv g.bear] := c1
  refine Exists.intro _ (Exists.intro _ (And.intro c1.of (And.intro (show row 2 _ _ = some [iv g.f1, iv g.f2] from rfl) ?_)))
  intro H2 hH2; obtain ⟨kH2, nH2, c2⟩ := new_facts hH2; clear hH2
  have c2 : Cl H2 H1.next [iv 0, iv 0] := c2
  have mH2 := kH2.1
  have hk := hk.trans kH2
  have hw := kH2.sl0 hw
  have ha := kH2.sl0 ha
  have hl := kH2.sl0 hl
  have c1 := kH2.cl c1 (by simp)
  obtain ⟨_, eH3, lH3, gH3⟩ := id c2
  refine Exists.intro _ (Exists.intro _ (Exists.intro _ (And.intro gH3 (And.intro (by omega) (And.intro rfl (And.intro rfl (And.intro (by simp) ?_)))))))
  intro H3 hH3; obtain ⟨kH3, nH3, sH3⟩ := up_facts c2 hH3; clear hH3
  have mH3 := kH3.1
  have hk := hk.new kH3 (fun b hb => by simp at hb ⊢; omega)
  have hw := kH3.sl hw (fun b e => by have := fw b e; first | (simp; done) | (simp; omega))
  have ha := kH3.sl ha (fun b e => by have := fa b e; first | (simp; done) | (simp; omega))
  have hl := kH3.sl hl (fun b e => by have := fl b e; first | (simp; done) | (simp; omega))
  have c1 := kH3.cl c1 (by first | (simp; done) | (simp; omega))
  have c2 : Cl H3 H1.next [iv g.f1, iv g.f2] := sH3
  obtain ⟨z0, hz0⟩ : ∃ z, z = H.next := ⟨_, rfl⟩
  obtain ⟨z1, hz1⟩ : ∃ z, z = H1.next := ⟨_, rfl⟩
  obtain ⟨ff, hff⟩ : ∃ z, z = H3.next := ⟨_, rfl⟩
  have b36 : z0 < z1 ∧ z1 < ff ∧ H.next ≤ z0 := by omega
  rw [← hz0] at c1
  rw [← hz1] at c2
  rw [← hz0, ← hz1]
  have hfm : ff ≤ H3.next := by omega
  clear hz0 hz1 hff
  refine loop_low (fn := Try.f43) E43_1 N43 L43x1 (fun x : Value × Nat => [(1, iv (s : Int)), (2, iv (d : Int)), (3, .slice la n cap), (4, pt z0), (9, x.1), (10, pt z1), (11, iv ((s + x.2 : Nat) : Int))])
    (fun q x H' => x.2 + q = d ∧ Keep H H' [] ∧ Sl H' g.wa g.wn g.wcap (spc g.ws) ∧ Sl H' g.aa g.an g.acap (spc g.as) ∧ Sl H' la n cap (ints us) ∧ Cl H' z0 g.v ∧ Cl H' z1 [iv (g.lo s (Nat.testBit (dayMask us)) x.2), iv (g.hi s (Nat.testBit (dayMask us)) x.2)] ∧ Acc lo ff 24 H' x.1 x.2 (spc (g.ox s (Nat.testBit (dayMask us)) x.2)) ∧ ff ≤ H'.next) d (.slice none 0 0, 0) ⟨by omega, hk, hw, ha, hl, c1, c2, .inl ⟨rfl, rfl, rfl⟩, hfm⟩ ⟨rfl, rfl, rfl, rfl, rfl, rfl, rfl, trivial⟩ ?_
  rintro q ⟨wv, k⟩ L1 ⟨hik, hk, hw, ha, hl, c4, c10, hacc, hfl⟩
  try simp only at hik
  try simp only at hacc
  try simp only at c10
  have hm := hk.1
  have l4 := c4.lt
  have l10 := c10.lt
  refine And.intro (show InR ((s : Int) + (d : Int)) from ⟨by omega, by omega⟩) ?_
  refine And.intro (fun q1 => ?_) (fun q1 => ?_)
  · have q1 : ((s + k : Nat) : Int) < ((s : Int) + (d : Int)) := of_decide_eq_true q1
    have hkd : k < d := by omega
    have hsw : s + k < g.wn := by omega
    have hsa : s + k < g.an := by omega
    have hW := Lt.W_in v hsw; have hA := Lt.A_in v hsw
    have hlo1 := Lt.lo_in (s := s) (F := (Nat.testBit (dayMask us))) v k; have hhi1 := Lt.hi_in (s := s) (F := (Nat.testBit (dayMask us))) v k
    have m1 := mul_rng (a := g.r1) (b := (g.W (s + k)).1) (p := 1000) (q := 5000) ⟨by omega, by omega⟩ ⟨by omega, by omega⟩
    have m2 := mul_rng (a := g.r2) (b := (g.W (s + k)).2) (p := 1000) (q := 5000) ⟨by omega, by omega⟩ ⟨by omega, by omega⟩
    have e0 : nowV us 0 ((s + k : Nat) : Int) g.g1 (g.lo s (Nat.testBit (dayMask us)) k) = g.lo s (Nat.testBit (dayMask us)) k := nowV_zero
    have e1 : nowV us 0 ((s + k : Nat) : Int) g.g2 (g.hi s (Nat.testBit (dayMask us)) k) = g.hi s (Nat.testBit (dayMask us)) k := nowV_zero
    refine loop_low (fn := Try.f43) E43_2 N43 L43x2 (fun j : Nat => [(1, iv (s : Int)), (2, iv (d : Int)), (3, .slice la n cap), (4, pt z0), (9, wv), (10, pt z1), (11, iv ((s + k : Nat) : Int)), (12, iv (j : Int))])
      (fun p j H' => j + p = n ∧ Keep H H' [] ∧ Sl H' g.wa g.wn g.wcap (spc g.ws) ∧ Sl H' g.aa g.an g.acap (spc g.as) ∧ Sl H' la n cap (ints us) ∧ Cl H' z0 g.v ∧ Cl H' z1 [iv (nowV us j ((s + k : Nat) : Int) g.g1 (g.lo s (Nat.testBit (dayMask us)) k)), iv (nowV us j ((s + k : Nat) : Int) g.g2 (g.hi s (Nat.testBit (dayMask us)) k))] ∧ Acc lo ff 24 H' wv k (spc (g.ox s (Nat.testBit (dayMask us)) k)) ∧ ff ≤ H'.next) n 0 ⟨by omega, hk, hw, ha, hl, c4, by rw [e0, e1]; exact c10, hacc, hfl⟩ ⟨rfl, rfl, rfl, rfl, rfl, rfl, rfl, rfl, trivial⟩ ?_
    rintro p j L2 ⟨hjp, hk, hw, ha, hl, c4, c10, hacc, hfl2⟩
    have hm2 := hk.1
    have l4b := c4.lt
    have l10b := c10.lt
    refine And.intro (fun q2 => ?_) (fun q2 => ?_)
    · have q2 : (j : Int) < (n : Int) := of_decide_eq_true q2
      have hj : j < n := by omega
      obtain ⟨x, hx⟩ := get_some (l := us) (i := j) (by omega)
      rcases hl with ⟨_, h0, _⟩ | ⟨lb, rfl, hld, qld⟩
      · omega
      have llb := fl lb rfl
      refine Exists.intro j (And.intro rfl (And.intro hj ?_))
      refine Exists.intro _ (Exists.intro _ (And.intro hld.of (And.intro (ints_at hx) ?_)))
      refine And.intro (fun q3 => ?_) (fun q3 => ?_)
      · have q3 : x = ((s + k : Nat) : Int) := by simpa using q3
        have hxe := q3
        refine Exists.intro _ (Exists.intro _ (And.intro c4.of (And.intro (show row 2 _ _ = some [iv g.g1, iv g.g2] from rfl) ?_)))
        obtain ⟨_, eH4, lH4, gH4⟩ := id c10
        refine Exists.intro _ (Exists.intro _ (Exists.intro _ (And.intro gH4 (And.intro (by omega) (And.intro rfl (And.intro rfl (And.intro (by simp) ?_)))))))
        intro H4 hH4; obtain ⟨kH4, nH4, sH4⟩ := up_facts c10 hH4; clear hH4
        have mH4 := kH4.1
        have hk := hk.new kH4 (fun b hb => by simp at hb ⊢; omega)
        have hw := kH4.sl hw (fun b e => by have := fw b e; first | (simp; done) | (simp; omega))
        have ha := kH4.sl ha (fun b e => by have := fa b e; first | (simp; done) | (simp; omega))
        have c4 := kH4.cl c4 (by first | (simp; done) | (simp; omega))
        have hacc := hacc.keepW kH4 (by omega)
        have hld := kH4.rd hld (by first | (simp; done) | (simp; omega))
        have c10 : Cl H4 z1 [iv g.g1, iv g.g2] := sH4
        refine And.intro (show InR ((j : Int) + 1) from ⟨by omega, by omega⟩) ?_
        rw [← show nowV us (j + 1) ((s + k : Nat) : Int) g.g1 (g.lo s (Nat.testBit (dayMask us)) k) = g.g1 from nowV_hit hx hxe.symm, ← show nowV us (j + 1) ((s + k : Nat) : Int) g.g2 (g.hi s (Nat.testBit (dayMask us)) k) = g.g2 from nowV_hit hx hxe.symm] at c10
        exact ⟨p - 1, j + 1, by omega, ⟨by omega, hk, hw, ha, .inr ⟨lb, rfl, hld, qld⟩, c4, c10, hacc, by omega⟩, rfl, rfl, rfl, rfl, rfl, rfl, rfl, rfl, trivial⟩
      · have q3 : ¬ (x = ((s + k : Nat) : Int)) := by simpa using q3
        have hxe := q3
        refine And.intro (show InR ((j : Int) + 1) from ⟨by omega, by omega⟩) ?_
        rw [← show nowV us (j + 1) ((s + k : Nat) : Int) g.g1 (g.lo s (Nat.testBit (dayMask us)) k) = nowV us j ((s + k : Nat) : Int) g.g1 (g.lo s (Nat.testBit (dayMask us)) k) from nowV_miss hx (fun e => hxe e.symm), ← show nowV us (j + 1) ((s + k : Nat) : Int) g.g2 (g.hi s (Nat.testBit (dayMask us)) k) = nowV us j ((s + k : Nat) : Int) g.g2 (g.hi s (Nat.testBit (dayMask us)) k) from nowV_miss hx (fun e => hxe e.symm)] at c10
        exact ⟨p - 1, j + 1, by omega, ⟨by omega, hk, hw, ha, .inr ⟨lb, rfl, hld, qld⟩, c4, c10, hacc, by omega⟩, rfl, rfl, rfl, rfl, rfl, rfl, rfl, rfl, trivial⟩
    · have q2 : ¬ ((j : Int) < (n : Int)) := of_decide_eq_false q2
      have hjn : j = n := by omega
      subst hjn
      rcases hw with ⟨_, h0, _⟩ | ⟨wb, ewa, hwd, qw⟩
      · omega
      rcases ha with ⟨_, h0, _⟩ | ⟨ab, eaa, had, qa⟩
      · omega
      have lwb := fw wb ewa; have lab := fa ab eaa
      have hnl := nowV_in (us := us) (j := j) (x := ((s + k : Nat) : Int)) (show 0 ≤ g.g1 ∧ g.g1 ≤ g.full by omega) hlo1
      have hnh := nowV_in (us := us) (j := j) (x := ((s + k : Nat) : Int)) (show 0 ≤ g.g2 ∧ g.g2 ≤ g.full by omega) hhi1
      have el := lo_next (g := g) (s := s) (k := k) hF hul
      have eh := hi_next (g := g) (s := s) (k := k) hF hul
      refine wD_seq ?_
      refine wD_lda (b := z0) (o := 0) rfl c4.rd (show row 13 _ _ = some [.slice g.wa g.wn g.wcap, .slice g.aa g.an g.acap, iv g.r1, iv g.r2, iv g.f1, iv g.f2, iv g.g1, iv g.g2, iv g.full, iv g.base, iv g.kill, iv g.need, iv g.bear] from rfl) ?_
      refine wD_addo (b := z0) (o := 0) rfl ?_
      refine wD_ld (b := z0) (o := 0) (v := .slice (some ⟨wb, 0, none⟩) g.wn g.wcap) rfl c4.rd (show _ = some (Value.slice (some ⟨wb, 0, none⟩) g.wn g.wcap) from by rw [← ewa]; rfl) ?_
      refine wD_mov (v := iv ((s + k : Nat) : Int)) rfl ?_
      refine wD_idx (b := wb) (o := 0) (k := (s + k)) (j := ((s + k : Nat) : Int)) rfl rfl rfl hsw ?_
      refine wD_addo (b := wb) (o := 0 + (s + k) * 2) rfl ?_
      refine wD_ld (b := wb) (o := 0 + (s + k) * 2 + 1) (v := iv ((g.W (s + k)).2)) rfl hwd (span_get hW.1).2 ?_
      obtain ⟨H5, fH5, kH5⟩ := used67_ok (kn := kn) (lo := L2.next) (H := L2) (x := (g.W (s + k)).2) v ⟨by omega, by omega⟩ (by omega)
      refine wD_callh (vs := [.agg g.v.toArray, iv ((g.W (s + k)).2)]) rfl (by kernel_rfl) (callX_args fH5) ?_
      have mH5 := kH5.1
      have hk := hk.trans kH5
      have hl := kH5.sl0 hl
      have c4 := kH5.cl c4 (by simp)
      have c10 := kH5.cl c10 (by simp)
      have hacc := hacc.keep kH5
      have hwd := kH5.rd hwd (by simp)
      have had := kH5.rd had (by simp)
      refine wD_pur (v := iv ((g.r2 * ((g.W (s + k)).2) + 99) / 100)) rfl (by kernel_rfl) ?_
      refine wD_lda (b := z0) (o := 0) rfl c4.rd (show row 13 _ _ = some [.slice g.wa g.wn g.wcap, .slice g.aa g.an g.acap, iv g.r1, iv g.r2, iv g.f1, iv g.f2, iv g.g1, iv g.g2, iv g.full, iv g.base, iv g.kill, iv g.need, iv g.bear] from rfl) ?_
      refine wD_addo (b := z0) (o := 0) rfl ?_
      refine wD_ld (b := z0) (o := 0) (v := .slice (some ⟨wb, 0, none⟩) g.wn g.wcap) rfl c4.rd (show _ = some (Value.slice (some ⟨wb, 0, none⟩) g.wn g.wcap) from by rw [← ewa]; rfl) ?_
      refine wD_mov (v := iv ((s + k : Nat) : Int)) rfl ?_
      refine wD_idx (b := wb) (o := 0) (k := (s + k)) (j := ((s + k : Nat) : Int)) rfl rfl rfl hsw ?_
      refine wD_addo (b := wb) (o := 0 + (s + k) * 2) rfl ?_
      refine wD_ld (b := wb) (o := 0 + (s + k) * 2) (v := iv ((g.W (s + k)).1)) rfl hwd (span_get hW.1).1 ?_
      obtain ⟨H6, fH6, kH6⟩ := used67_ok (kn := kn) (lo := lo) (H := H5) (x := (g.W (s + k)).1) v ⟨by omega, by omega⟩ (by omega)
      refine wD_callf (vs := [.agg g.v.toArray, iv ((g.W (s + k)).1)]) rfl (callX_args fH6) ?_
      have mH6 := kH6.1
      have hk := hk.trans kH6
      have hl := kH6.sl0 hl
      have c4 := kH6.cl c4 (by simp)
      have c10 := kH6.cl c10 (by simp)
      have hacc := hacc.keep kH6
      have hwd := kH6.rd hwd (by simp)
      have had := kH6.rd had (by simp)
      refine wD_pur (v := iv (g.r1 * ((g.W (s + k)).1) / 100)) rfl (by kernel_rfl) ?_
      refine wD_mov (v := iv ((g.r2 * ((g.W (s + k)).2) + 99) / 100)) rfl ?_
      refine wD_mov (v := iv (g.r1 * ((g.W (s + k)).1) / 100)) rfl ?_
      refine wD_end (by repeat' first | exact True.intro | exact (fun h => h) | refine And.intro ?_ ?_ | (intro h; have h : (_ : Nat) = _ := h; omega)) ?_
      refine wD_seq ?_
      refine wD_addo (b := z0) (o := 0) rfl ?_
      refine wD_ld (b := z0) (o := 8) (v := iv g.full) rfl c4.rd rfl ?_
      refine wD_addo (b := z1) (o := 0) rfl ?_
      refine wD_ld (b := z1) (o := 0) (v := iv (nowV us j ((s + k : Nat) : Int) g.g1 (g.lo s (Nat.testBit (dayMask us)) k))) rfl c10.rd rfl ?_
      refine wD_addo (b := z0) (o := 0) rfl ?_
      refine wD_ld (b := z0) (o := 1) (v := .slice (some ⟨ab, 0, none⟩) g.an g.acap) rfl c4.rd (show _ = some (Value.slice (some ⟨ab, 0, none⟩) g.an g.acap) from by rw [← eaa]; rfl) ?_
      refine wD_mov (v := iv ((s + k : Nat) : Int)) rfl ?_
      refine wD_idx (b := ab) (o := 0) (k := (s + k)) (j := ((s + k : Nat) : Int)) rfl rfl rfl hsa ?_
      refine wD_addo (b := ab) (o := 0 + (s + k) * 2) rfl ?_
      refine wD_ld (b := ab) (o := 0 + (s + k) * 2) (v := iv ((g.A (s + k)).1)) rfl had (span_get hA.1).1 ?_
      refine wD_add (a := nowV us j ((s + k : Nat) : Int) g.g1 (g.lo s (Nat.testBit (dayMask us)) k)) (b := (g.A (s + k)).1) rfl rfl ⟨by omega, by omega⟩ ?_
      refine wD_mov (v := iv ((g.r2 * ((g.W (s + k)).2) + 99) / 100)) rfl ?_
      refine wD_sub (a := (nowV us j ((s + k : Nat) : Int) g.g1 (g.lo s (Nat.testBit (dayMask us)) k)) + ((g.A (s + k)).1)) (b := (g.r2 * ((g.W (s + k)).2) + 99) / 100) rfl rfl ⟨by omega, by omega⟩ ?_
      refine wD_mm (a := 0) (b := ((nowV us j ((s + k : Nat) : Int) g.g1 (g.lo s (Nat.testBit (dayMask us)) k)) + ((g.A (s + k)).1)) - ((g.r2 * ((g.W (s + k)).2) + 99) / 100)) rfl rfl ?_
      refine wD_mm (a := g.full) (b := max 0 (((nowV us j ((s + k : Nat) : Int) g.g1 (g.lo s (Nat.testBit (dayMask us)) k)) + ((g.A (s + k)).1)) - ((g.r2 * ((g.W (s + k)).2) + 99) / 100))) rfl rfl ?_
      refine wD_addo (b := z0) (o := 0) rfl ?_
      refine wD_ld (b := z0) (o := 8) (v := iv g.full) rfl c4.rd rfl ?_
      refine wD_addo (b := z1) (o := 0) rfl ?_
      refine wD_ld (b := z1) (o := 1) (v := iv (nowV us j ((s + k : Nat) : Int) g.g2 (g.hi s (Nat.testBit (dayMask us)) k))) rfl c10.rd rfl ?_
      refine wD_addo (b := z0) (o := 0) rfl ?_
      refine wD_ld (b := z0) (o := 1) (v := .slice (some ⟨ab, 0, none⟩) g.an g.acap) rfl c4.rd (show _ = some (Value.slice (some ⟨ab, 0, none⟩) g.an g.acap) from by rw [← eaa]; rfl) ?_
      refine wD_mov (v := iv ((s + k : Nat) : Int)) rfl ?_
      refine wD_idx (b := ab) (o := 0) (k := (s + k)) (j := ((s + k : Nat) : Int)) rfl rfl rfl hsa ?_
      refine wD_addo (b := ab) (o := 0 + (s + k) * 2) rfl ?_
      refine wD_ld (b := ab) (o := 0 + (s + k) * 2 + 1) (v := iv ((g.A (s + k)).2)) rfl had (span_get hA.1).2 ?_
      refine wD_add (a := nowV us j ((s + k : Nat) : Int) g.g2 (g.hi s (Nat.testBit (dayMask us)) k)) (b := (g.A (s + k)).2) rfl rfl ⟨by omega, by omega⟩ ?_
      refine wD_mov (v := iv (g.r1 * ((g.W (s + k)).1) / 100)) rfl ?_
      refine wD_sub (a := (nowV us j ((s + k : Nat) : Int) g.g2 (g.hi s (Nat.testBit (dayMask us)) k)) + ((g.A (s + k)).2)) (b := g.r1 * ((g.W (s + k)).1) / 100) rfl rfl ⟨by omega, by omega⟩ ?_
      refine wD_mm (a := 0) (b := ((nowV us j ((s + k : Nat) : Int) g.g2 (g.hi s (Nat.testBit (dayMask us)) k)) + ((g.A (s + k)).2)) - (g.r1 * ((g.W (s + k)).1) / 100)) rfl rfl ?_
      refine wD_mm (a := g.full) (b := max 0 (((nowV us j ((s + k : Nat) : Int) g.g2 (g.hi s (Nat.testBit (dayMask us)) k)) + ((g.A (s + k)).2)) - (g.r1 * ((g.W (s + k)).1) / 100))) rfl rfl ?_
      refine wD_pur (v := .agg #[iv (min g.full (max 0 (((nowV us j ((s + k : Nat) : Int) g.g1 (g.lo s (Nat.testBit (dayMask us)) k)) + ((g.A (s + k)).1)) - ((g.r2 * ((g.W (s + k)).2) + 99) / 100)))), iv (min g.full (max 0 (((nowV us j ((s + k : Nat) : Int) g.g2 (g.hi s (Nat.testBit (dayMask us)) k)) + ((g.A (s + k)).2)) - (g.r1 * ((g.W (s + k)).1) / 100))))]) rfl (by kernel_rfl) ?_
      refine wD_sta (b := z1) (o := 0) rfl rfl c10 (by omega) rfl rfl (by simp) ?_
      intro H7 kH7 nH7 sH7
      have mH7 := kH7.1
      have hk := hk.new kH7 (fun b hb => by simp at hb ⊢; omega)
      have hl := kH7.sl hl (fun b e => by have := fl b e; first | (simp; done) | (simp; omega))
      have c4 := kH7.cl c4 (by first | (simp; done) | (simp; omega))
      have hacc := hacc.keepW kH7 (by omega)
      have hwd := kH7.rd hwd (by first | (simp; done) | (simp; omega))
      have had := kH7.rd had (by first | (simp; done) | (simp; omega))
      have c10 : Cl H7 z1 [iv (min g.full (max 0 (((nowV us j ((s + k : Nat) : Int) g.g1 (g.lo s (Nat.testBit (dayMask us)) k)) + ((g.A (s + k)).1)) - ((g.r2 * ((g.W (s + k)).2) + 99) / 100)))), iv (min g.full (max 0 (((nowV us j ((s + k : Nat) : Int) g.g2 (g.hi s (Nat.testBit (dayMask us)) k)) + ((g.A (s + k)).2)) - (g.r1 * ((g.W (s + k)).1) / 100))))] := sH7
      refine wD_end (by repeat' first | exact True.intro | exact (fun h => h) | refine And.intro ?_ ?_ | (intro h; have h : (_ : Nat) = _ := h; omega)) ?_
      refine Exists.intro _ (Exists.intro _ (And.intro c10.of (And.intro (show row 2 _ _ = some [iv (min g.full (max 0 (((nowV us j ((s + k : Nat) : Int) g.g1 (g.lo s (Nat.testBit (dayMask us)) k)) + ((g.A (s + k)).1)) - ((g.r2 * ((g.W (s + k)).2) + 99) / 100)))), iv (min g.full (max 0 (((nowV us j ((s + k : Nat) : Int) g.g2 (g.hi s (Nat.testBit (dayMask us)) k)) + ((g.A (s + k)).2)) - (g.r1 * ((g.W (s + k)).1) / 100))))] from rfl) ?_)))
      obtain ⟨H8, hH8⟩ : ∃ H8, H7.new (.cells [iv (min g.full (max 0 (((nowV us j ((s + k : Nat) : Int) g.g1 (g.lo s (Nat.testBit (dayMask us)) k)) + ((g.A (s + k)).1)) - ((g.r2 * ((g.W (s + k)).2) + 99) / 100)))), iv (min g.full (max 0 (((nowV us j ((s + k : Nat) : Int) g.g2 (g.hi s (Nat.testBit (dayMask us)) k)) + ((g.A (s + k)).2)) - (g.r1 * ((g.W (s + k)).1) / 100))))] 24 false) = H8 := ⟨_, rfl⟩
      refine And.intro rfl (Or.inr (And.intro (by kernel_rfl) (Exists.intro _ (Exists.intro H8 (Exists.intro _ (And.intro ((heap_build1 (v := .agg #[iv (min g.full (max 0 (((nowV us j ((s + k : Nat) : Int) g.g1 (g.lo s (Nat.testBit (dayMask us)) k)) + ((g.A (s + k)).1)) - ((g.r2 * ((g.W (s + k)).2) + 99) / 100)))), iv (min g.full (max 0 (((nowV us j ((s + k : Nat) : Int) g.g2 (g.hi s (Nat.testBit (dayMask us)) k)) + ((g.A (s + k)).2)) - (g.r1 * ((g.W (s + k)).1) / 100))))]) se22 z24 rfl rfl rfl (by decide)).trans (by rw [← hH8]; rfl)) (And.intro (fun b e => by cases e) ?_)))))))
      obtain ⟨kH8, nH8, c8⟩ := new_facts hH8; clear hH8
      have c8 : Cl H8 H7.next [iv (min g.full (max 0 (((nowV us j ((s + k : Nat) : Int) g.g1 (g.lo s (Nat.testBit (dayMask us)) k)) + ((g.A (s + k)).1)) - ((g.r2 * ((g.W (s + k)).2) + 99) / 100)))), iv (min g.full (max 0 (((nowV us j ((s + k : Nat) : Int) g.g2 (g.hi s (Nat.testBit (dayMask us)) k)) + ((g.A (s + k)).2)) - (g.r1 * ((g.W (s + k)).1) / 100))))] := c8
      have mH8 := kH8.1
      have hk := hk.trans kH8
      have hl := kH8.sl0 hl
      have c4 := kH8.cl c4 (by simp)
      have hacc := hacc.keep kH8
      have hwd := kH8.rd hwd (by simp)
      have had := kH8.rd had (by simp)
      have c10 := kH8.cl c10 (by simp)
      have hw : Sl _ _ _ _ _ := .inr ⟨wb, ewa, hwd, qw⟩
      obtain ⟨H9, kdH9, eH9, dH9, aH9, kbH9⟩ := heap_append_below (P := Try.prog) (lo := lo) (k := k) (t1 := 22) se22 u22 (c8.sl (Nat.le_refl 1)) rfl (by decide) rfl (by rw [spc_len, Lt.ox_len]) (by omega) (hacc.keep (Keep.refl _ [])) (by omega) (by omega)
      refine And.intro rfl (Or.inr (And.intro (by cases wv <;> kernel_rfl) (Exists.intro _ (Exists.intro H9 (Exists.intro _ (And.intro (eH9 _ _ _ _ _ _ _ rfl rfl) (And.intro (reg_ok dH9 _) ?_)))))))
      have hk := kbH9.keep hk (by omega)
      have hl := kbH9.sl hl (fun b e => by have := fl b e; omega)
      have c4 := kbH9.cl c4 (by omega)
      have c10 := kbH9.cl c10 (by omega)
      have mH9 := kbH9.1
      have hw := kbH9.sl hw (fun b e => by have := fw b e; omega)
      have had := kbH9.rd had (by omega)
      refine And.intro (show InR (((s + k : Nat) : Int) + 1) from ⟨by omega, by omega⟩) ?_
      have ho : spc (g.ox s (Nat.testBit (dayMask us)) (k + 1)) = spc (g.ox s (Nat.testBit (dayMask us)) k) ++ [iv (g.lo s (Nat.testBit (dayMask us)) (k + 1)), iv (g.hi s (Nat.testBit (dayMask us)) (k + 1))] := by rw [Lt.ox_succ]; simp [spc]
      rw [el, eh] at c10
      refine ⟨q - 1, (_, k + 1), by omega, ⟨by show k + 1 + (q - 1) = d; omega, hk, hw, .inr ⟨ab, eaa, had, qa⟩, hl, c4, c10, ?_, by show ff ≤ H9.next; omega⟩, rfl, rfl, rfl, rfl, rfl, rfl, rfl, trivial⟩
      show Acc _ _ _ _ _ (k + 1) (spc (g.ox s (Nat.testBit (dayMask us)) (k + 1)))
      rw [ho]; rw [el, eh] at aH9; exact aH9
  · have q1 : ¬ (((s + k : Nat) : Int) < ((s : Int) + (d : Int))) := of_decide_eq_false q1
    have hkd : k = d := by omega
    subst hkd
    obtain ⟨ta, tc, rfl, hsl, _⟩ := hacc.sl
    exact And.intro trivial (Exists.intro _ (And.intro rfl ⟨hk, ta, tc, rfl, hsl⟩))
end
end Go.Ax
/-
  Late: the document's Warmth, Oxygen and Tells (45, 16, 18, 20) (written by program).
-/
namespace Go.Ax
open Go Go.RowKit Go.Proofs

/-- what Oxygen answers, and what it says -/
def Lt.Oz (g : Lt) (a b : Int) (us : List Int) (l : List (Int × Int)) (e : Int) : Prop :=
  (g.ok = false ∧ l = [] ∧ e = 1) ∨ (g.ok = true ∧ (flB g a b && setB a (a + b) us) = false ∧ l = [] ∧ e = 2) ∨ (g.ok = true ∧ ∃ s d : Nat, a = s ∧ b = d ∧ s + d ≤ g.wn ∧ setB s (s + d) us = true ∧ l = g.ox s (Nat.testBit (dayMask us)) d ∧ e = 0)
theorem Lt.Oz.uniq {g : Lt} {a b : Int} {us : List Int} {l l' : List (Int × Int)} {e e' : Int} (h : g.Oz a b us l e) (h' : g.Oz a b us l' e') : l = l' ∧ e = e' := by
  rcases h with ⟨o, rfl, rfl⟩ | ⟨o, f, rfl, rfl⟩ | ⟨o, s, d, rfl, rfl, hs, f, rfl, rfl⟩ <;> rcases h' with ⟨o', rfl, rfl⟩ | ⟨o', f', rfl, rfl⟩ | ⟨o', s', d', e1, e2, hs', f', rfl, rfl⟩
  · exact ⟨rfl, rfl⟩
  · rw [o] at o'; cases o'
  · rw [o] at o'; cases o'
  · rw [o] at o'; cases o'
  · exact ⟨rfl, rfl⟩
  · subst e1; subst e2; rw [flB_of hs', f'] at f; cases f
  · rw [o] at o'; cases o'
  · rw [flB_of hs, f] at f'; cases f'
  · obtain rfl : s = s' := by omega
    obtain rfl : d = d' := by omega
    exact ⟨rfl, rfl⟩
theorem Lt.Ox.oz {g : Lt} {a b : Int} {us : List Int} {H H' : Hp} {w : Value} (h : g.Ox a b us H w H') (hn : g.ok = true → g.wn ≤ 1000) : ∃ oa n oc l e, w = .tuple #[.slice oa n oc, iv e] ∧ Sl H' oa n oc (spc l) ∧ l.length = n ∧ n ≤ 1000 ∧ g.Oz a b us l e := by
  have nil : Sl H' none 0 0 (spc []) := .inl ⟨.inl rfl, rfl, rfl, rfl⟩
  rcases h with ⟨o, rfl⟩ | ⟨o, f, rfl⟩ | ⟨o, s, d, rfl, rfl, hs, f, oa, oc, rfl, hsl, _⟩
  · exact ⟨_, _, _, [], _, rfl, nil, rfl, by decide, .inl ⟨o, rfl, rfl⟩⟩
  · exact ⟨_, _, _, [], _, rfl, nil, rfl, by decide, .inr (.inl ⟨o, f, rfl, rfl⟩)⟩
  · have := hn o
    exact ⟨_, _, _, _, _, rfl, hsl, Lt.ox_len d, by omega, .inr (.inr ⟨o, s, d, rfl, rfl, hs, f, rfl, rfl⟩)⟩
theorem Lt.Wm.uniq {g : Lt} {a b : Int} {w w' : Value} (h : g.Wm a b w) (h' : g.Wm a b w') : w = w' := by
  rcases h with ⟨o, rfl⟩ | ⟨o, f, rfl⟩ | ⟨o, s, d, rfl, rfl, hs, rfl⟩ <;> rcases h' with ⟨o', rfl⟩ | ⟨o', f', rfl⟩ | ⟨o', s', d', e1, e2, hs', rfl⟩
  · rfl
  · rw [o] at o'; cases o'
  · rw [o] at o'; cases o'
  · rw [o] at o'; cases o'
  · rfl
  · subst e1; subst e2; rw [flB_of hs'] at f; cases f
  · rw [o] at o'; cases o'
  · rw [flB_of hs] at f'; cases f'
  · obtain rfl : s = s' := by omega
    obtain rfl : d = d' := by omega
    rfl
theorem Lt.Tl.uniq {g : Lt} {a b : Int} {us : List Int} {w w' : Value} (h : g.Tl a b us w) (h' : g.Tl a b us w') : w = w' := by
  rcases h with ⟨o, rfl⟩ | ⟨o, f, rfl⟩ | ⟨o, s, d, rfl, rfl, hs, f, rfl⟩ <;> rcases h' with ⟨o', rfl⟩ | ⟨o', f', rfl⟩ | ⟨o', s', d', e1, e2, hs', f', rfl⟩
  · rfl
  · rw [o] at o'; cases o'
  · rw [o] at o'; cases o'
  · rw [o] at o'; cases o'
  · rfl
  · subst e1; subst e2; rw [flB_of hs', f'] at f; cases f
  · rw [o] at o'; cases o'
  · rw [flB_of hs, f] at f'; cases f'
  · obtain rfl : s = s' := by omega
    obtain rfl : d = d' := by omega
    rfl
theorem Lt.Tl.any {g : Lt} {a b : Int} {us : List Int} {w : Value} (h : g.Tl a b us w) : ∃ x y e : Int, w = .tuple #[iv x, iv y, iv e] := by
  rcases h with ⟨_, h⟩ | ⟨_, _, h⟩ | ⟨_, _, _, _, _, _, _, h⟩ <;> exact ⟨_, _, _, h⟩
section
variable {kn : FuncId → Option Bool} {lo : Nat} {H : Hp}
theorem tells45_ok {g : Lt} (v : g.Vd) {s d : Nat} (hsd : s + d ≤ g.wn) (hw : Sl H g.wa g.wn g.wcap (spc g.ws)) (ha : Sl H g.aa g.an g.acap (spc g.as)) {la : Option Addr} {n cap : Nat} {us : List Int} (hl : Sl H la n cap (ints us)) (hul : us.length = n) (hn : n ≤ 1000) (hF : ∀ i : Nat, (dayMask us).testBit i = us.contains (i : Int)) (hlo : lo ≤ H.next) :
    ∃ H', FnX Try.prog kn lo 45 [.agg g.v.toArray, iv (s : Int), iv (d : Int), .slice la n cap] H (.tuple #[iv (sureV (decide (g.wl s d ≥ g.kill)) (decide (g.wh s d ≥ g.kill))), iv (sureV (decide (g.sm s (Nat.testBit (dayMask us)) d > g.bear)) (decide (g.sl s (Nat.testBit (dayMask us)) d > g.bear)))]) H' ∧ Keep H H' [] := by
  have key := fnX_low (kn := kn) (lo := lo) (H := H) (args := [.agg g.v.toArray, iv (s : Int), iv (d : Int), .slice la n cap]) (Q := fun w H' => w = .tuple #[iv (sureV (decide (g.wl s d ≥ g.kill)) (decide (g.wh s d ≥ g.kill))), iv (sureV (decide (g.sm s (Nat.testBit (dayMask us)) d > g.bear)) (decide (g.sl s (Nat.testBit (dayMask us)) d > g.bear)))] ∧ Keep H H' []) Try.func45 B45 N45 Z45 L45 (by simp) ?_
  · obtain ⟨w, H', h, rfl, q⟩ := key; exact ⟨H', h, q⟩
  have hk := Keep.refl H []
  have fw := hw.old; have fa := ha.old
  have fl := hl.old; have hn40 := v.n40
  intro H1 hH1; obtain ⟨kH1, nH1, c1⟩ := new_facts hH1; clear hH1
  have mH1 := kH1.1
  have hk := hk.trans kH1
  have hw := kH1.sl0 hw
  have ha := kH1.sl0 ha
  have hl := kH1.sl0 hl
  have c1 : Cl H1 H.next [.slice g.wa g.wn g.wcap, .slice g.aa g.an g.acap, iv g.r1, iv g.r2, iv g.f1, iv g.f2, iv g.g1, iv g.g2, iv g.full, iv g.base, iv g.kill, iv g.need, iv g.bear] := c1
  refine Exists.intro _ (Exists.intro _ (And.intro c1.of (And.intro (show row 13 _ _ = some [.slice g.wa g.wn g.wcap, .slice g.aa g.an g.acap, iv g.r1, iv g.r2, iv g.f1, iv g.f2, iv g.g1, iv g.g2, iv g.full, iv g.base, iv g.kill, iv g.need, iv g.bear] from rfl) ?_)))
  obtain ⟨H2, fH2, kH2⟩ := warm40_ok (kn := kn) (lo := lo) (H := H1) v hsd hw (by omega)
  have mH2 := kH2.1
  have hk := hk.trans kH2
  have hw := kH2.sl0 hw
  have ha := kH2.sl0 ha
  have hl := kH2.sl0 hl
  have c1 := kH2.cl c1 (by simp)
  refine Exists.intro _ (Exists.intro _ (And.intro (callX_args fH2) ?_))
  intro H3 hH3; obtain ⟨kH3, nH3, c3⟩ := new_facts hH3; clear hH3
  have c3 : Cl H3 H2.next [iv 0, iv 0] := c3
  have mH3 := kH3.1
  have hk := hk.trans kH3
  have hw := kH3.sl0 hw
  have ha := kH3.sl0 ha
  have hl := kH3.sl0 hl
  have c1 := kH3.cl c1 (by simp)
  obtain ⟨_, eH4, lH4, gH4⟩ := id c3
  refine Exists.intro _ (Exists.intro _ (Exists.intro _ (And.intro gH4 (And.intro (by omega) (And.intro rfl (And.intro rfl (And.intro (by simp) ?_)))))))
  intro H4 hH4; obtain ⟨kH4, nH4, sH4⟩ := up_facts c3 hH4; clear hH4
  have mH4 := kH4.1
  have hk := hk.new kH4 (fun b hb => by simp at hb ⊢; omega)
  have hw := kH4.sl hw (fun b e => by have := fw b e; first | (simp; done) | (simp; omega))
  have ha := kH4.sl ha (fun b e => by have := fa b e; first | (simp; done) | (simp; omega))
  have hl := kH4.sl hl (fun b e => by have := fl b e; first | (simp; done) | (simp; omega))
  have c1 := kH4.cl c1 (by first | (simp; done) | (simp; omega))
  have c3 : Cl H4 H2.next [iv (g.wl s d), iv (g.wh s d)] := sH4
  refine Exists.intro _ (Exists.intro _ (And.intro c1.of (And.intro (show row 13 _ _ = some [.slice g.wa g.wn g.wcap, .slice g.aa g.an g.acap, iv g.r1, iv g.r2, iv g.f1, iv g.f2, iv g.g1, iv g.g2, iv g.full, iv g.base, iv g.kill, iv g.need, iv g.bear] from rfl) ?_)))
  obtain ⟨wH5, H5, fH5, kH5, ta, tc, rfl, hta⟩ := levels_ok (kn := kn) (lo := lo) (H := H4) v hsd hw ha hl hul hn hF (by omega)
  have mH5 := kH5.1
  have hk := hk.trans kH5
  have hw := kH5.sl0 hw
  have ha := kH5.sl0 ha
  have hl := kH5.sl0 hl
  have c1 := kH5.cl c1 (by simp)
  have c3 := kH5.cl c3 (by simp)
  have fta : ∀ x, ta = some ⟨x, 0, none⟩ → x < H5.next := hta.old
  refine Exists.intro _ (Exists.intro _ (And.intro (callX_args fH5) ?_))
  refine loop_low (fn := Try.f45) E45_1 N45 L45x1 (fun i : Nat => [(4, pt H.next), (10, pt H2.next), (13, .slice ta d tc), (11, iv (g.sm s (Nat.testBit (dayMask us)) i)), (12, iv (g.sl s (Nat.testBit (dayMask us)) i)), (14, iv (i : Int))])
    (fun k i H' => i + k = d ∧ Keep H5 H' []) d 0 ⟨by omega, Keep.refl _ _⟩ ⟨rfl, rfl, rfl, rfl, rfl, rfl, trivial⟩ ?_
  rintro k i L1 ⟨hik, hki⟩
  have hm := hki.1
  have hk := hk.trans hki
  have hw := hki.sl0 hw
  have ha := hki.sl0 ha
  have hl := hki.sl0 hl
  have c1 := hki.cl c1 (by simp)
  have c3 := hki.cl c3 (by simp)
  have hta := hki.sl0 hta
  have kb := hki
  have hsi := Lt.sl_in (g := g) (s := s) (F := (Nat.testBit (dayMask us))) i; have hmi := Lt.sm_in (g := g) (s := s) (F := (Nat.testBit (dayMask us))) i
  refine And.intro (fun q1 => ?_) (fun q1 => ?_)
  · have q1 : (i : Int) < (d : Int) := of_decide_eq_true q1
    have hid : i < d := by omega
    rcases hta with ⟨_, h0, _⟩ | ⟨tb, rfl, htd, _⟩
    · omega
    refine wD_seq ?_
    refine wD_mov (v := .slice (some ⟨tb, 0, none⟩) d tc) rfl ?_
    refine wD_mov (v := iv (i : Int)) rfl ?_
    refine wD_idx (b := tb) (o := 0) (k := i) (j := (i : Int)) rfl rfl rfl hid ?_
    refine wD_addo (b := tb) (o := 0 + i * 2) rfl ?_
    refine wD_ld (b := tb) (o := 0 + i * 2) (v := iv (g.lo s (Nat.testBit (dayMask us)) (i + 1))) rfl htd (span_get (Lt.ox_get hid)).1 ?_
    refine wD_addo (b := H.next) (o := 0) rfl ?_
    refine wD_ld (b := H.next) (o := 11) (v := iv g.need) rfl c1.rd rfl ?_
    refine wD_c_lss (a := g.lo s (Nat.testBit (dayMask us)) (i + 1)) (b := g.need) rfl rfl ?_
    refine wD_end (by repeat' first | exact True.intro | exact (fun h => h) | refine And.intro ?_ ?_ | (intro h; have h : (_ : Nat) = _ := h; omega)) ?_
    refine And.intro (fun q2 => ?_) (fun q2 => ?_)
    · have q2 : (g.lo s (Nat.testBit (dayMask us)) (i + 1)) < g.need := of_decide_eq_true q2
      have hp := q2
      refine And.intro (show InR ((g.sl s (Nat.testBit (dayMask us)) i) + 1) from ⟨by omega, by omega⟩) ?_
      refine wD_seq ?_
      refine wD_mov (v := .slice (some ⟨tb, 0, none⟩) d tc) rfl ?_
      refine wD_mov (v := iv (i : Int)) rfl ?_
      refine wD_idx (b := tb) (o := 0) (k := i) (j := (i : Int)) rfl rfl rfl hid ?_
      refine wD_addo (b := tb) (o := 0 + i * 2) rfl ?_
      refine wD_ld (b := tb) (o := 0 + i * 2 + 1) (v := iv (g.hi s (Nat.testBit (dayMask us)) (i + 1))) rfl htd (span_get (Lt.ox_get hid)).2 ?_
      refine wD_addo (b := H.next) (o := 0) rfl ?_
      refine wD_ld (b := H.next) (o := 11) (v := iv g.need) rfl c1.rd rfl ?_
      refine wD_c_lss (a := g.hi s (Nat.testBit (dayMask us)) (i + 1)) (b := g.need) rfl rfl ?_
      refine wD_end (by repeat' first | exact True.intro | exact (fun h => h) | refine And.intro ?_ ?_ | (intro h; have h : (_ : Nat) = _ := h; omega)) ?_
      refine And.intro (fun q3 => ?_) (fun q3 => ?_)
      · have q3 : (g.hi s (Nat.testBit (dayMask us)) (i + 1)) < g.need := of_decide_eq_true q3
        have hq := q3
        refine And.intro (show InR ((g.sm s (Nat.testBit (dayMask us)) i) + 1) from ⟨by omega, by omega⟩) ?_
        refine And.intro (show InR ((i : Int) + 1) from ⟨by omega, by omega⟩) ?_
        have e1 : g.sl s (Nat.testBit (dayMask us)) (i + 1) = g.sl s (Nat.testBit (dayMask us)) i + 1 := by rw [Lt.sl, decide_eq_true hp]; rfl
        have e2 : g.sm s (Nat.testBit (dayMask us)) (i + 1) = g.sm s (Nat.testBit (dayMask us)) i + 1 := by rw [Lt.sm, decide_eq_true hq]; rfl
        exact ⟨k - 1, i + 1, by omega, ⟨by omega, kb⟩, rfl, rfl, rfl, by rw [e2]; rfl, by rw [e1]; rfl, rfl, trivial⟩
      · have q3 : ¬ ((g.hi s (Nat.testBit (dayMask us)) (i + 1)) < g.need) := of_decide_eq_false q3
        have hq := q3
        refine And.intro (show InR ((i : Int) + 1) from ⟨by omega, by omega⟩) ?_
        have e1 : g.sl s (Nat.testBit (dayMask us)) (i + 1) = g.sl s (Nat.testBit (dayMask us)) i + 1 := by rw [Lt.sl, decide_eq_true hp]; rfl
        have e2 : g.sm s (Nat.testBit (dayMask us)) (i + 1) = g.sm s (Nat.testBit (dayMask us)) i := by rw [Lt.sm, decide_eq_false hq]; rfl
        exact ⟨k - 1, i + 1, by omega, ⟨by omega, kb⟩, rfl, rfl, rfl, by rw [e2]; rfl, by rw [e1]; rfl, rfl, trivial⟩
    · have q2 : ¬ ((g.lo s (Nat.testBit (dayMask us)) (i + 1)) < g.need) := of_decide_eq_false q2
      have hp := q2
      refine wD_seq ?_
      refine wD_mov (v := .slice (some ⟨tb, 0, none⟩) d tc) rfl ?_
      refine wD_mov (v := iv (i : Int)) rfl ?_
      refine wD_idx (b := tb) (o := 0) (k := i) (j := (i : Int)) rfl rfl rfl hid ?_
      refine wD_addo (b := tb) (o := 0 + i * 2) rfl ?_
      refine wD_ld (b := tb) (o := 0 + i * 2 + 1) (v := iv (g.hi s (Nat.testBit (dayMask us)) (i + 1))) rfl htd (span_get (Lt.ox_get hid)).2 ?_
      refine wD_addo (b := H.next) (o := 0) rfl ?_
      refine wD_ld (b := H.next) (o := 11) (v := iv g.need) rfl c1.rd rfl ?_
      refine wD_c_lss (a := g.hi s (Nat.testBit (dayMask us)) (i + 1)) (b := g.need) rfl rfl ?_
      refine wD_end (by repeat' first | exact True.intro | exact (fun h => h) | refine And.intro ?_ ?_ | (intro h; have h : (_ : Nat) = _ := h; omega)) ?_
      refine And.intro (fun q4 => ?_) (fun q4 => ?_)
      · have q4 : (g.hi s (Nat.testBit (dayMask us)) (i + 1)) < g.need := of_decide_eq_true q4
        have hq := q4
        refine And.intro (show InR ((g.sm s (Nat.testBit (dayMask us)) i) + 1) from ⟨by omega, by omega⟩) ?_
        refine And.intro (show InR ((i : Int) + 1) from ⟨by omega, by omega⟩) ?_
        have e1 : g.sl s (Nat.testBit (dayMask us)) (i + 1) = g.sl s (Nat.testBit (dayMask us)) i := by rw [Lt.sl, decide_eq_false hp]; rfl
        have e2 : g.sm s (Nat.testBit (dayMask us)) (i + 1) = g.sm s (Nat.testBit (dayMask us)) i + 1 := by rw [Lt.sm, decide_eq_true hq]; rfl
        exact ⟨k - 1, i + 1, by omega, ⟨by omega, kb⟩, rfl, rfl, rfl, by rw [e2]; rfl, by rw [e1]; rfl, rfl, trivial⟩
      · have q4 : ¬ ((g.hi s (Nat.testBit (dayMask us)) (i + 1)) < g.need) := of_decide_eq_false q4
        have hq := q4
        refine And.intro (show InR ((i : Int) + 1) from ⟨by omega, by omega⟩) ?_
        have e1 : g.sl s (Nat.testBit (dayMask us)) (i + 1) = g.sl s (Nat.testBit (dayMask us)) i := by rw [Lt.sl, decide_eq_false hp]; rfl
        have e2 : g.sm s (Nat.testBit (dayMask us)) (i + 1) = g.sm s (Nat.testBit (dayMask us)) i := by rw [Lt.sm, decide_eq_false hq]; rfl
        exact ⟨k - 1, i + 1, by omega, ⟨by omega, kb⟩, rfl, rfl, rfl, by rw [e2]; rfl, by rw [e1]; rfl, rfl, trivial⟩
  · have q1 : ¬ ((i : Int) < (d : Int)) := of_decide_eq_false q1
    have hid : d = i := by omega
    subst hid
    have hsi := Lt.sl_in (g := g) (s := s) (F := (Nat.testBit (dayMask us))) d; have hmi := Lt.sm_in (g := g) (s := s) (F := (Nat.testBit (dayMask us))) d
    refine wD_seq ?_
    refine wD_addo (b := H2.next) (o := 0) rfl ?_
    refine wD_ld (b := H2.next) (o := 1) (v := iv (g.wh s d)) rfl c3.rd rfl ?_
    refine wD_addo (b := H.next) (o := 0) rfl ?_
    refine wD_ld (b := H.next) (o := 10) (v := iv g.kill) rfl c1.rd rfl ?_
    refine wD_k_geq (decide ((g.wh s d) ≥ g.kill)) rfl rfl rfl ?_
    refine wD_addo (b := H2.next) (o := 0) rfl ?_
    refine wD_ld (b := H2.next) (o := 0) (v := iv (g.wl s d)) rfl c3.rd rfl ?_
    refine wD_addo (b := H.next) (o := 0) rfl ?_
    refine wD_ld (b := H.next) (o := 10) (v := iv g.kill) rfl c1.rd rfl ?_
    refine wD_k_geq (decide ((g.wl s d) ≥ g.kill)) rfl rfl rfl ?_
    obtain ⟨H6, fH6, kH6⟩ := sure68_ok (kn := kn) (lo := L1.next) (H := L1) (s := decide ((g.wh s d) ≥ g.kill)) (a := decide ((g.wl s d) ≥ g.kill))
    refine wD_callh (vs := [.bool (decide ((g.wh s d) ≥ g.kill)), .bool (decide ((g.wl s d) ≥ g.kill))]) rfl (by kernel_rfl) (callX_args fH6) ?_
    have mH6 := kH6.1
    have hk := hk.trans kH6
    have hw := kH6.sl0 hw
    have ha := kH6.sl0 ha
    have hl := kH6.sl0 hl
    have c1 := kH6.cl c1 (by simp)
    have c3 := kH6.cl c3 (by simp)
    have hta := kH6.sl0 hta
    refine wD_mov (v := iv (g.sl s (Nat.testBit (dayMask us)) d)) rfl ?_
    refine wD_addo (b := H.next) (o := 0) rfl ?_
    refine wD_ld (b := H.next) (o := 12) (v := iv g.bear) rfl c1.rd rfl ?_
    refine wD_k_gtr (decide ((g.sl s (Nat.testBit (dayMask us)) d) > g.bear)) rfl rfl rfl ?_
    refine wD_mov (v := iv (g.sm s (Nat.testBit (dayMask us)) d)) rfl ?_
    refine wD_addo (b := H.next) (o := 0) rfl ?_
    refine wD_ld (b := H.next) (o := 12) (v := iv g.bear) rfl c1.rd rfl ?_
    refine wD_k_gtr (decide ((g.sm s (Nat.testBit (dayMask us)) d) > g.bear)) rfl rfl rfl ?_
    obtain ⟨H7, fH7, kH7⟩ := sure68_ok (kn := kn) (lo := lo) (H := H6) (s := decide ((g.sl s (Nat.testBit (dayMask us)) d) > g.bear)) (a := decide ((g.sm s (Nat.testBit (dayMask us)) d) > g.bear))
    refine wD_callf (vs := [.bool (decide ((g.sl s (Nat.testBit (dayMask us)) d) > g.bear)), .bool (decide ((g.sm s (Nat.testBit (dayMask us)) d) > g.bear))]) rfl (callX_args fH7) ?_
    have mH7 := kH7.1
    have hk := hk.trans kH7
    have hw := kH7.sl0 hw
    have ha := kH7.sl0 ha
    have hl := kH7.sl0 hl
    have c1 := kH7.cl c1 (by simp)
    have c3 := kH7.cl c3 (by simp)
    have hta := kH7.sl0 hta
    refine wD_mov (v := iv (sureV (decide ((g.wl s d) ≥ g.kill)) (decide ((g.wh s d) ≥ g.kill)))) rfl ?_
    refine wD_mov (v := iv (sureV (decide ((g.sm s (Nat.testBit (dayMask us)) d) > g.bear)) (decide ((g.sl s (Nat.testBit (dayMask us)) d) > g.bear)))) rfl ?_
    refine wD_end (by repeat' first | exact True.intro | exact (fun h => h) | refine And.intro ?_ ?_ | (intro h; have h : (_ : Nat) = _ := h; omega)) ?_
    exact And.intro trivial (Exists.intro _ (And.intro rfl ⟨rfl, hk⟩))
theorem warmth16_ok {g : Lt} (hw : Sl H g.wa g.wn g.wcap (spc g.ws)) (ha : Sl H g.aa g.an g.acap (spc g.as)) {a b : Int} (hwl : g.ws.length = g.wn) (hal : g.as.length = g.an) (hwn : g.wn ≤ 1000) (han : g.an ≤ 1000) (hlo : lo ≤ H.next) :
    ∃ w H', FnX Try.prog kn lo 16 [.agg g.v.toArray, iv a, iv b] H w H' ∧ Keep H H' [] ∧ g.Wm a b w := by
  refine fnX_low (kn := kn) (lo := lo) (H := H) (args := [.agg g.v.toArray, iv a, iv b]) (Q := fun w H' => Keep H H' [] ∧ g.Wm a b w) Try.func16 B16 N16 Z16 L16 (by simp) ?_
  have hk := Keep.refl H []
  have fw := hw.old; have fa := ha.old
  intro H1 hH1; obtain ⟨kH1, nH1, c1⟩ := new_facts hH1; clear hH1
  have mH1 := kH1.1
  have hk := hk.trans kH1
  have hw := kH1.sl0 hw
  have ha := kH1.sl0 ha
  have c1 : Cl H1 H.next [.slice g.wa g.wn g.wcap, .slice g.aa g.an g.acap, iv g.r1, iv g.r2, iv g.f1, iv g.f2, iv g.g1, iv g.g2, iv g.full, iv g.base, iv g.kill, iv g.need, iv g.bear] := c1
  intro H2 hH2; obtain ⟨kH2, nH2, c2⟩ := new_facts hH2; clear hH2
  have c2 : Cl H2 H1.next [iv 0, iv 0] := c2
  have mH2 := kH2.1
  have hk := hk.trans kH2
  have hw := kH2.sl0 hw
  have ha := kH2.sl0 ha
  have c1 := kH2.cl c1 (by simp)
  refine Exists.intro _ (Exists.intro _ (And.intro c1.of (And.intro (show row 13 _ _ = some [.slice g.wa g.wn g.wcap, .slice g.aa g.an g.acap, iv g.r1, iv g.r2, iv g.f1, iv g.f2, iv g.g1, iv g.g2, iv g.full, iv g.base, iv g.kill, iv g.need, iv g.bear] from rfl) ?_)))
  refine callB (late33_ok hw ha hwl hal hwn han) ?_
  intro tH3 H3 hH3 kH3
  have mH3 := kH3.1
  have hk := hk.trans kH3
  have hw := kH3.sl0 hw
  have ha := kH3.sl0 ha
  have c1 := kH3.cl c1 (by simp)
  have c2 := kH3.cl c2 (by simp)
  cases tH3
  · have hok := hH3
    refine And.intro rfl (Exists.intro (.bool true) (And.intro rfl ?_))
    refine condT ?_
    refine And.intro rfl (Exists.intro (.agg #[iv 0, iv 0]) (And.intro (by kernel_rfl) ?_))
    obtain ⟨_, eH4, lH4, gH4⟩ := id c2
    refine Exists.intro _ (Exists.intro _ (Exists.intro _ (And.intro gH4 (And.intro (by omega) (And.intro rfl (And.intro rfl (And.intro (by simp) ?_)))))))
    intro H4 hH4; obtain ⟨kH4, nH4, sH4⟩ := up_facts c2 hH4; clear hH4
    have mH4 := kH4.1
    have hk := hk.new kH4 (fun b hb => by simp at hb ⊢; omega)
    have hw := kH4.sl hw (fun b e => by have := fw b e; first | (simp; done) | (simp; omega))
    have ha := kH4.sl ha (fun b e => by have := fa b e; first | (simp; done) | (simp; omega))
    have c1 := kH4.cl c1 (by first | (simp; done) | (simp; omega))
    have c2 : Cl H4 H1.next [iv 0, iv 0] := sH4
    exact And.intro trivial (Exists.intro _ (And.intro (res_wm rfl rfl rfl c2) ⟨hk, Or.inl ⟨hok, rfl⟩⟩))
  · have hok := hH3
    refine And.intro rfl (Exists.intro (.bool false) (And.intro rfl ?_))
    refine condF ?_
    refine Exists.intro _ (Exists.intro _ (And.intro c1.of (And.intro (show row 13 _ _ = some [.slice g.wa g.wn g.wcap, .slice g.aa g.an g.acap, iv g.r1, iv g.r2, iv g.f1, iv g.f2, iv g.g1, iv g.g2, iv g.full, iv g.base, iv g.kill, iv g.need, iv g.bear] from rfl) ?_)))
    refine callB (flood34_ok (us := []) hwn (.inl ⟨.inl rfl, rfl, rfl, rfl⟩) rfl (by decide)) ?_
    intro tH5 H5 hH5 kH5
    have mH5 := kH5.1
    have hk := hk.trans kH5
    have hw := kH5.sl0 hw
    have ha := kH5.sl0 ha
    have c1 := kH5.cl c1 (by simp)
    have c2 := kH5.cl c2 (by simp)
    cases tH5
    · have hfs := hH5
      refine And.intro rfl (Exists.intro (.bool true) (And.intro rfl ?_))
      refine condT ?_
      refine And.intro rfl (Exists.intro (.agg #[iv 0, iv 0]) (And.intro (by kernel_rfl) ?_))
      obtain ⟨_, eH6, lH6, gH6⟩ := id c2
      refine Exists.intro _ (Exists.intro _ (Exists.intro _ (And.intro gH6 (And.intro (by omega) (And.intro rfl (And.intro rfl (And.intro (by simp) ?_)))))))
      intro H6 hH6; obtain ⟨kH6, nH6, sH6⟩ := up_facts c2 hH6; clear hH6
      have mH6 := kH6.1
      have hk := hk.new kH6 (fun b hb => by simp at hb ⊢; omega)
      have hw := kH6.sl hw (fun b e => by have := fw b e; first | (simp; done) | (simp; omega))
      have ha := kH6.sl ha (fun b e => by have := fa b e; first | (simp; done) | (simp; omega))
      have c1 := kH6.cl c1 (by first | (simp; done) | (simp; omega))
      have c2 : Cl H6 H1.next [iv 0, iv 0] := sH6
      exact And.intro trivial (Exists.intro _ (And.intro (res_wm rfl rfl rfl c2) ⟨hk, Or.inr (Or.inl ⟨hok, by simpa [setB] using hfs, rfl⟩)⟩))
    · have hfs := hH5
      obtain ⟨hfl, hset⟩ := Bool.and_eq_true_iff.1 hfs
      obtain ⟨s, d, rfl, rfl, hsd⟩ := flB_get hfl
      have v := Lt.vd hok hwl hal; have hn40 := v.n40
      refine And.intro rfl (Exists.intro (.bool false) (And.intro rfl ?_))
      refine condF ?_
      refine Exists.intro _ (Exists.intro _ (And.intro c1.of (And.intro (show row 13 _ _ = some [.slice g.wa g.wn g.wcap, .slice g.aa g.an g.acap, iv g.r1, iv g.r2, iv g.f1, iv g.f2, iv g.g1, iv g.g2, iv g.full, iv g.base, iv g.kill, iv g.need, iv g.bear] from rfl) ?_)))
      obtain ⟨H7, fH7, kH7⟩ := warm40_ok (kn := kn) (lo := lo) (H := H5) v hsd hw (by omega)
      have mH7 := kH7.1
      have hk := hk.trans kH7
      have hw := kH7.sl0 hw
      have ha := kH7.sl0 ha
      have c1 := kH7.cl c1 (by simp)
      have c2 := kH7.cl c2 (by simp)
      refine Exists.intro _ (Exists.intro _ (And.intro (callX_args fH7) ?_))
      obtain ⟨_, eH8, lH8, gH8⟩ := id c2
      refine Exists.intro _ (Exists.intro _ (Exists.intro _ (And.intro gH8 (And.intro (by omega) (And.intro rfl (And.intro rfl (And.intro (by simp) ?_)))))))
      intro H8 hH8; obtain ⟨kH8, nH8, sH8⟩ := up_facts c2 hH8; clear hH8
      have mH8 := kH8.1
      have hk := hk.new kH8 (fun b hb => by simp at hb ⊢; omega)
      have hw := kH8.sl hw (fun b e => by have := fw b e; first | (simp; done) | (simp; omega))
      have ha := kH8.sl ha (fun b e => by have := fa b e; first | (simp; done) | (simp; omega))
      have c1 := kH8.cl c1 (by first | (simp; done) | (simp; omega))
      have c2 : Cl H8 H1.next [iv (g.wl s d), iv (g.wh s d)] := sH8
      exact And.intro trivial (Exists.intro _ (And.intro (res_wm rfl rfl rfl c2) ⟨hk, Or.inr (Or.inr ⟨hok, s, d, rfl, rfl, hsd, rfl⟩)⟩))
theorem oxygen18_ok {g : Lt} (hw : Sl H g.wa g.wn g.wcap (spc g.ws)) (ha : Sl H g.aa g.an g.acap (spc g.as)) {a b : Int} (hwl : g.ws.length = g.wn) (hal : g.as.length = g.an) (hwn : g.wn ≤ 1000) (han : g.an ≤ 1000) {la : Option Addr} {n cap : Nat} {us : List Int} (hl : Sl H la n cap (ints us)) (hul : us.length = n) (hn : n ≤ 1000) (hlo : lo ≤ H.next) :
    ∃ w H', FnX Try.prog kn lo 18 [.agg g.v.toArray, iv a, iv b, .slice la n cap] H w H' ∧ Keep H H' [] ∧ ∃ oa n oc l e, w = .tuple #[.slice oa n oc, iv e] ∧ Sl H' oa n oc (spc l) ∧ l.length = n ∧ n ≤ 1000 ∧ g.Oz a b us l e := by
  refine fnX_low (kn := kn) (lo := lo) (H := H) (args := [.agg g.v.toArray, iv a, iv b, .slice la n cap]) (Q := fun w H' => Keep H H' [] ∧ ∃ oa n oc l e, w = .tuple #[.slice oa n oc, iv e] ∧ Sl H' oa n oc (spc l) ∧ l.length = n ∧ n ≤ 1000 ∧ g.Oz a b us l e) Try.func18 B18 N18 Z18 L18 (by simp) ?_
  have hk := Keep.refl H []
  have fw := hw.old; have fa := ha.old
  have fl := hl.old
  intro H1 hH1; obtain ⟨kH1, nH1, c1⟩ := new_facts hH1; clear hH1
  have mH1 := kH1.1
  have hk := hk.trans kH1
  have hw := kH1.sl0 hw
  have ha := kH1.sl0 ha
  have hl := kH1.sl0 hl
  have c1 : Cl H1 H.next [.slice g.wa g.wn g.wcap, .slice g.aa g.an g.acap, iv g.r1, iv g.r2, iv g.f1, iv g.f2, iv g.g1, iv g.g2, iv g.full, iv g.base, iv g.kill, iv g.need, iv g.bear] := c1
  refine Exists.intro _ (Exists.intro _ (And.intro c1.of (And.intro (show row 13 _ _ = some [.slice g.wa g.wn g.wcap, .slice g.aa g.an g.acap, iv g.r1, iv g.r2, iv g.f1, iv g.f2, iv g.g1, iv g.g2, iv g.full, iv g.base, iv g.kill, iv g.need, iv g.bear] from rfl) ?_)))
  refine callB (late33_ok hw ha hwl hal hwn han) ?_
  intro tH2 H2 hH2 kH2
  have mH2 := kH2.1
  have hk := hk.trans kH2
  have hw := kH2.sl0 hw
  have ha := kH2.sl0 ha
  have hl := kH2.sl0 hl
  have c1 := kH2.cl c1 (by simp)
  cases tH2
  · have hok := hH2
    refine And.intro rfl (Exists.intro (.bool true) (And.intro rfl ?_))
    refine condT ?_
    exact And.intro trivial (Exists.intro _ (And.intro rfl ⟨hk, none, 0, 0, [], _, rfl, .inl ⟨.inl rfl, rfl, rfl, rfl⟩, rfl, by decide, Or.inl ⟨hok, rfl, rfl⟩⟩))
  · have hok := hH2
    refine And.intro rfl (Exists.intro (.bool false) (And.intro rfl ?_))
    refine condF ?_
    refine Exists.intro _ (Exists.intro _ (And.intro c1.of (And.intro (show row 13 _ _ = some [.slice g.wa g.wn g.wcap, .slice g.aa g.an g.acap, iv g.r1, iv g.r2, iv g.f1, iv g.f2, iv g.g1, iv g.g2, iv g.full, iv g.base, iv g.kill, iv g.need, iv g.bear] from rfl) ?_)))
    refine callB (flood34_ok hwn hl hul hn) ?_
    intro tH3 H3 hH3 kH3
    have mH3 := kH3.1
    have hk := hk.trans kH3
    have hw := kH3.sl0 hw
    have ha := kH3.sl0 ha
    have hl := kH3.sl0 hl
    have c1 := kH3.cl c1 (by simp)
    cases tH3
    · have hfs := hH3
      refine And.intro rfl (Exists.intro (.bool true) (And.intro rfl ?_))
      refine condT ?_
      exact And.intro trivial (Exists.intro _ (And.intro rfl ⟨hk, none, 0, 0, [], _, rfl, .inl ⟨.inl rfl, rfl, rfl, rfl⟩, rfl, by decide, Or.inr (Or.inl ⟨hok, hfs, rfl, rfl⟩)⟩))
    · have hfs := hH3
      obtain ⟨hfl, hset⟩ := Bool.and_eq_true_iff.1 hfs
      obtain ⟨s, d, rfl, rfl, hsd⟩ := flB_get hfl
      have v := Lt.vd hok hwl hal; have hn40 := v.n40
      have hsi := setB_in hset
      have hF : ∀ i : Nat, (dayMask us).testBit i = us.contains (i : Int) := dayMask_has fun y hy => by have := hsi y hy; omega
      refine And.intro rfl (Exists.intro (.bool false) (And.intro rfl ?_))
      refine condF ?_
      refine Exists.intro _ (Exists.intro _ (And.intro c1.of (And.intro (show row 13 _ _ = some [.slice g.wa g.wn g.wcap, .slice g.aa g.an g.acap, iv g.r1, iv g.r2, iv g.f1, iv g.f2, iv g.g1, iv g.g2, iv g.full, iv g.base, iv g.kill, iv g.need, iv g.bear] from rfl) ?_)))
      obtain ⟨wH4, H4, fH4, kH4, ta, tc, rfl, hta⟩ := levels_ok (kn := kn) (lo := lo) (H := H3) v hsd hw ha hl hul hn hF (by omega)
      have mH4 := kH4.1
      have hk := hk.trans kH4
      have hw := kH4.sl0 hw
      have ha := kH4.sl0 ha
      have hl := kH4.sl0 hl
      have c1 := kH4.cl c1 (by simp)
      have fta : ∀ x, ta = some ⟨x, 0, none⟩ → x < H4.next := hta.old
      refine Exists.intro _ (Exists.intro _ (And.intro (callX_args fH4) ?_))
      exact And.intro trivial (Exists.intro _ (And.intro rfl ⟨hk, ta, d, tc, _, 0, rfl, hta, Lt.ox_len d, by omega, Or.inr (Or.inr ⟨hok, s, d, rfl, rfl, hsd, hset, rfl, rfl⟩)⟩))
theorem tells20_ok {g : Lt} (hw : Sl H g.wa g.wn g.wcap (spc g.ws)) (ha : Sl H g.aa g.an g.acap (spc g.as)) {a b : Int} (hwl : g.ws.length = g.wn) (hal : g.as.length = g.an) (hwn : g.wn ≤ 1000) (han : g.an ≤ 1000) {la : Option Addr} {n cap : Nat} {us : List Int} (hl : Sl H la n cap (ints us)) (hul : us.length = n) (hn : n ≤ 1000) (hlo : lo ≤ H.next) :
    ∃ w H', FnX Try.prog kn lo 20 [.agg g.v.toArray, iv a, iv b, .slice la n cap] H w H' ∧ Keep H H' [] ∧ g.Tl a b us w := by
  refine fnX_low (kn := kn) (lo := lo) (H := H) (args := [.agg g.v.toArray, iv a, iv b, .slice la n cap]) (Q := fun w H' => Keep H H' [] ∧ g.Tl a b us w) Try.func20 B20 N20 Z20 L20 (by simp) ?_
  have hk := Keep.refl H []
  have fw := hw.old; have fa := ha.old
  have fl := hl.old
  intro H1 hH1; obtain ⟨kH1, nH1, c1⟩ := new_facts hH1; clear hH1
  have mH1 := kH1.1
  have hk := hk.trans kH1
  have hw := kH1.sl0 hw
  have ha := kH1.sl0 ha
  have hl := kH1.sl0 hl
  have c1 : Cl H1 H.next [.slice g.wa g.wn g.wcap, .slice g.aa g.an g.acap, iv g.r1, iv g.r2, iv g.f1, iv g.f2, iv g.g1, iv g.g2, iv g.full, iv g.base, iv g.kill, iv g.need, iv g.bear] := c1
  refine Exists.intro _ (Exists.intro _ (And.intro c1.of (And.intro (show row 13 _ _ = some [.slice g.wa g.wn g.wcap, .slice g.aa g.an g.acap, iv g.r1, iv g.r2, iv g.f1, iv g.f2, iv g.g1, iv g.g2, iv g.full, iv g.base, iv g.kill, iv g.need, iv g.bear] from rfl) ?_)))
  refine callB (late33_ok hw ha hwl hal hwn han) ?_
  intro tH2 H2 hH2 kH2
  have mH2 := kH2.1
  have hk := hk.trans kH2
  have hw := kH2.sl0 hw
  have ha := kH2.sl0 ha
  have hl := kH2.sl0 hl
  have c1 := kH2.cl c1 (by simp)
  cases tH2
  · have hok := hH2
    refine And.intro rfl (Exists.intro (.bool true) (And.intro rfl ?_))
    refine condT ?_
    exact And.intro trivial (Exists.intro _ (And.intro rfl ⟨hk, Or.inl ⟨hok, rfl⟩⟩))
  · have hok := hH2
    refine And.intro rfl (Exists.intro (.bool false) (And.intro rfl ?_))
    refine condF ?_
    refine Exists.intro _ (Exists.intro _ (And.intro c1.of (And.intro (show row 13 _ _ = some [.slice g.wa g.wn g.wcap, .slice g.aa g.an g.acap, iv g.r1, iv g.r2, iv g.f1, iv g.f2, iv g.g1, iv g.g2, iv g.full, iv g.base, iv g.kill, iv g.need, iv g.bear] from rfl) ?_)))
    refine callB (flood34_ok hwn hl hul hn) ?_
    intro tH3 H3 hH3 kH3
    have mH3 := kH3.1
    have hk := hk.trans kH3
    have hw := kH3.sl0 hw
    have ha := kH3.sl0 ha
    have hl := kH3.sl0 hl
    have c1 := kH3.cl c1 (by simp)
    cases tH3
    · have hfs := hH3
      refine And.intro rfl (Exists.intro (.bool true) (And.intro rfl ?_))
      refine condT ?_
      exact And.intro trivial (Exists.intro _ (And.intro rfl ⟨hk, Or.inr (Or.inl ⟨hok, hfs, rfl⟩)⟩))
    · have hfs := hH3
      obtain ⟨hfl, hset⟩ := Bool.and_eq_true_iff.1 hfs
      obtain ⟨s, d, rfl, rfl, hsd⟩ := flB_get hfl
      have v := Lt.vd hok hwl hal; have hn40 := v.n40
      have hsi := setB_in hset
      have hF : ∀ i : Nat, (dayMask us).testBit i = us.contains (i : Int) := dayMask_has fun y hy => by have := hsi y hy; omega
      refine And.intro rfl (Exists.intro (.bool false) (And.intro rfl ?_))
      refine condF ?_
      refine Exists.intro _ (Exists.intro _ (And.intro c1.of (And.intro (show row 13 _ _ = some [.slice g.wa g.wn g.wcap, .slice g.aa g.an g.acap, iv g.r1, iv g.r2, iv g.f1, iv g.f2, iv g.g1, iv g.g2, iv g.full, iv g.base, iv g.kill, iv g.need, iv g.bear] from rfl) ?_)))
      obtain ⟨H4, fH4, kH4⟩ := tells45_ok (kn := kn) (lo := lo) (H := H3) v hsd hw ha hl hul hn hF (by omega)
      have mH4 := kH4.1
      have hk := hk.trans kH4
      have hw := kH4.sl0 hw
      have ha := kH4.sl0 ha
      have hl := kH4.sl0 hl
      have c1 := kH4.cl c1 (by simp)
      refine Exists.intro _ (Exists.intro _ (And.intro (callX_args fH4) ?_))
      refine And.intro rfl (Exists.intro (iv (sureV (decide (g.wl s d ≥ g.kill)) (decide (g.wh s d ≥ g.kill)))) (And.intro (by kernel_rfl) ?_))
      refine And.intro rfl (Exists.intro (iv (sureV (decide (g.sm s (Nat.testBit (dayMask us)) d > g.bear)) (decide (g.sl s (Nat.testBit (dayMask us)) d > g.bear)))) (And.intro (by kernel_rfl) ?_))
      exact And.intro trivial (Exists.intro _ (And.intro rfl ⟨hk, Or.inr (Or.inr ⟨hok, s, d, rfl, rfl, hsd, hset, rfl⟩)⟩))
end
end Go.Ax
/-
  Late: the law LateFloods, whatever the input (written by program).
-/
namespace Go.Ax
open Go Go.RowKit Go.Proofs

section
variable {kn : FuncId → Option Bool} {lo : Nat} {H : Hp}
theorem law_floods (hkn : kn 14 = some true) (h48 : kn 48 = none) {g : Lt} {a b : Int} {la : Option Addr} {n cap : Nat} {us : List Int} (hw : Sl H g.wa g.wn g.wcap (spc g.ws)) (ha : Sl H g.aa g.an g.acap (spc g.as)) (hwl : g.ws.length = g.wn) (hal : g.as.length = g.an) (hl : Sl H la n cap (ints us)) (hul : us.length = n) (hlo : lo ≤ H.next) :
    ∃ H', FnX Try.prog kn lo 3 [.agg g.v.toArray, iv a, iv b, .slice la n cap] H (.bool true) H' := by
  have key := fnX_low (kn := kn) (lo := lo) (H := H) (args := [.agg g.v.toArray, iv a, iv b, .slice la n cap]) (Q := fun w H' => w = .bool true) Try.func3 B3 N3 Z3 L3 (by simp) ?_
  · obtain ⟨w, H', hf, rfl⟩ := key; exact ⟨H', hf⟩
  have al : ∀ (H9 : Hp) (K : Value → Hp → Prop), K (.bool true) H9 → ∃ v H', CallsX Try.prog kn lo (.fn (.func 14) #[]) [] H9 v H' ∧ K v H' := fun H9 K h => ⟨_, _, callX_known hkn, h⟩
  have hk := Keep.refl H []
  have fw := hw.old; have fa := ha.old; have fl := hl.old
  intro H1 hH1; obtain ⟨kH1, nH1, c1⟩ := new_facts hH1; clear hH1
  have mH1 := kH1.1
  have hk := hk.trans kH1
  have hw := kH1.sl0 hw
  have ha := kH1.sl0 ha
  have hl := kH1.sl0 hl
  have c1 : Cl H1 H.next [.slice g.wa g.wn g.wcap, .slice g.aa g.an g.acap, iv g.r1, iv g.r2, iv g.f1, iv g.f2, iv g.g1, iv g.g2, iv g.full, iv g.base, iv g.kill, iv g.need, iv g.bear] := c1
  refine Exists.intro _ (Exists.intro _ (And.intro c1.of (And.intro (show row 13 _ _ = some [.slice g.wa g.wn g.wcap, .slice g.aa g.an g.acap, iv g.r1, iv g.r2, iv g.f1, iv g.f2, iv g.g1, iv g.g2, iv g.full, iv g.base, iv g.kill, iv g.need, iv g.bear] from rfl) ?_)))
  refine callB (great_ok) ?_
  intro tH2 H2 hH2 kH2
  have mH2 := kH2.1
  have hk := hk.trans kH2
  have hw := kH2.sl0 hw
  have ha := kH2.sl0 ha
  have hl := kH2.sl0 hl
  have c1 := kH2.cl c1 (by simp)
  cases tH2
  · have hgr : g.wn ≤ 45 ∧ g.an ≤ 45 ∧ n ≤ 45 := by simp at hH2; omega
    refine condF ?_
    refine Exists.intro _ (Exists.intro _ (And.intro c1.of (And.intro (show row 13 _ _ = some [.slice g.wa g.wn g.wcap, .slice g.aa g.an g.acap, iv g.r1, iv g.r2, iv g.f1, iv g.f2, iv g.g1, iv g.g2, iv g.full, iv g.base, iv g.kill, iv g.need, iv g.bear] from rfl) ?_)))
    obtain ⟨wH3, H3, fH3, kH3, hc1⟩ := warmth_ok (kn := kn) (lo := lo) (H := H2) h48 (g := g) (a := a) (b := b) hw ha hwl hal (by omega) (by omega) (by omega)
    have mH3 := kH3.1
    have hk := hk.trans kH3
    have hw := kH3.sl0 hw
    have ha := kH3.sl0 ha
    have hl := kH3.sl0 hl
    have c1 := kH3.cl c1 (by simp)
    obtain ⟨p1, q1, e1, rfl⟩ := hc1.any
    refine Exists.intro _ (Exists.intro _ (And.intro (callX_args fH3) ?_))
    refine And.intro rfl (Exists.intro (.agg #[iv p1, iv q1]) (And.intro (by kernel_rfl) ?_))
    refine And.intro rfl (Exists.intro (iv e1) (And.intro (by kernel_rfl) ?_))
    intro H4 hH4; obtain ⟨kH4, nH4, c4⟩ := new_facts hH4; clear hH4
    have c4 : Cl H4 H3.next [iv 0, iv 0] := c4
    have mH4 := kH4.1
    have hk := hk.trans kH4
    have hw := kH4.sl0 hw
    have ha := kH4.sl0 ha
    have hl := kH4.sl0 hl
    have c1 := kH4.cl c1 (by simp)
    obtain ⟨_, eH5, lH5, gH5⟩ := id c4
    refine Exists.intro _ (Exists.intro _ (Exists.intro _ (And.intro gH5 (And.intro (by omega) (And.intro rfl (And.intro rfl (And.intro (by simp) ?_)))))))
    intro H5 hH5; obtain ⟨kH5, nH5, sH5⟩ := up_facts c4 hH5; clear hH5
    have mH5 := kH5.1
    have hk := hk.new kH5 (fun b hb => by simp at hb ⊢; omega)
    have hw := kH5.sl hw (fun b e => by have := fw b e; first | (simp; done) | (simp; omega))
    have ha := kH5.sl ha (fun b e => by have := fa b e; first | (simp; done) | (simp; omega))
    have hl := kH5.sl hl (fun b e => by have := fl b e; first | (simp; done) | (simp; omega))
    have c1 := kH5.cl c1 (by first | (simp; done) | (simp; omega))
    have c4 : Cl H5 H3.next [iv p1, iv q1] := sH5
    refine Exists.intro _ (Exists.intro _ (And.intro c1.of (And.intro (show row 13 _ _ = some [.slice g.wa g.wn g.wcap, .slice g.aa g.an g.acap, iv g.r1, iv g.r2, iv g.f1, iv g.f2, iv g.g1, iv g.g2, iv g.full, iv g.base, iv g.kill, iv g.need, iv g.bear] from rfl) ?_)))
    obtain ⟨wH6, H6, fH6, kH6, hc2⟩ := warmth16_ok (kn := kn) (lo := lo) (H := H5) (g := g) (a := a) (b := b) hw ha hwl hal (by omega) (by omega) (by omega)
    have mH6 := kH6.1
    have hk := hk.trans kH6
    have hw := kH6.sl0 hw
    have ha := kH6.sl0 ha
    have hl := kH6.sl0 hl
    have c1 := kH6.cl c1 (by simp)
    have c4 := kH6.cl c4 (by simp)
    obtain rfl := hc1.uniq hc2
    refine Exists.intro _ (Exists.intro _ (And.intro (callX_args fH6) ?_))
    refine And.intro rfl (Exists.intro (.agg #[iv p1, iv q1]) (And.intro (by kernel_rfl) ?_))
    refine And.intro rfl (Exists.intro (iv e1) (And.intro (by kernel_rfl) ?_))
    intro H7 hH7; obtain ⟨kH7, nH7, c7⟩ := new_facts hH7; clear hH7
    have c7 : Cl H7 H6.next [iv 0, iv 0] := c7
    have mH7 := kH7.1
    have hk := hk.trans kH7
    have hw := kH7.sl0 hw
    have ha := kH7.sl0 ha
    have hl := kH7.sl0 hl
    have c1 := kH7.cl c1 (by simp)
    have c4 := kH7.cl c4 (by simp)
    obtain ⟨_, eH8, lH8, gH8⟩ := id c7
    refine Exists.intro _ (Exists.intro _ (Exists.intro _ (And.intro gH8 (And.intro (by omega) (And.intro rfl (And.intro rfl (And.intro (by simp) ?_)))))))
    intro H8 hH8; obtain ⟨kH8, nH8, sH8⟩ := up_facts c7 hH8; clear hH8
    have mH8 := kH8.1
    have hk := hk.new kH8 (fun b hb => by simp at hb ⊢; omega)
    have hw := kH8.sl hw (fun b e => by have := fw b e; first | (simp; done) | (simp; omega))
    have ha := kH8.sl ha (fun b e => by have := fa b e; first | (simp; done) | (simp; omega))
    have hl := kH8.sl hl (fun b e => by have := fl b e; first | (simp; done) | (simp; omega))
    have c1 := kH8.cl c1 (by first | (simp; done) | (simp; omega))
    have c4 := kH8.cl c4 (by first | (simp; done) | (simp; omega))
    have c7 : Cl H8 H6.next [iv p1, iv q1] := sH8
    refine Exists.intro _ (Exists.intro _ (And.intro c1.of (And.intro (show row 13 _ _ = some [.slice g.wa g.wn g.wcap, .slice g.aa g.an g.acap, iv g.r1, iv g.r2, iv g.f1, iv g.f2, iv g.g1, iv g.g2, iv g.full, iv g.base, iv g.kill, iv g.need, iv g.bear] from rfl) ?_)))
    obtain ⟨wH9, H9, fH9, kH9, hc3⟩ := oxygen_ok (kn := kn) (lo := lo) (H := H8) (g := g) (a := a) (b := b) (us := us) hw ha hwl hal (by omega) (by omega) hl hul (by omega) (by omega)
    have mH9 := kH9.1
    have hk := hk.trans kH9
    have hw := kH9.sl0 hw
    have ha := kH9.sl0 ha
    have hl := kH9.sl0 hl
    have c1 := kH9.cl c1 (by simp)
    have c4 := kH9.cl c4 (by simp)
    have c7 := kH9.cl c7 (by simp)
    obtain ⟨oa, on, oc, ol, oe, rfl, hox, hon, hon2, hoz⟩ := hc3.oz (fun _ => by omega)
    have fox : ∀ x, oa = some ⟨x, 0, none⟩ → x < H9.next := hox.old
    refine Exists.intro _ (Exists.intro _ (And.intro (callX_args fH9) ?_))
    refine And.intro rfl (Exists.intro (.slice oa on oc) (And.intro (by kernel_rfl) ?_))
    refine And.intro rfl (Exists.intro (iv oe) (And.intro (by kernel_rfl) ?_))
    refine Exists.intro _ (Exists.intro _ (And.intro c1.of (And.intro (show row 13 _ _ = some [.slice g.wa g.wn g.wcap, .slice g.aa g.an g.acap, iv g.r1, iv g.r2, iv g.f1, iv g.f2, iv g.g1, iv g.g2, iv g.full, iv g.base, iv g.kill, iv g.need, iv g.bear] from rfl) ?_)))
    obtain ⟨wH10, H10, fH10, kH10, hc4⟩ := oxygen18_ok (kn := kn) (lo := lo) (H := H9) (g := g) (a := a) (b := b) hw ha hwl hal (by omega) (by omega) hl hul (by omega) (by omega)
    have mH10 := kH10.1
    have hk := hk.trans kH10
    have hw := kH10.sl0 hw
    have ha := kH10.sl0 ha
    have hl := kH10.sl0 hl
    have c1 := kH10.cl c1 (by simp)
    have c4 := kH10.cl c4 (by simp)
    have c7 := kH10.cl c7 (by simp)
    have hox := kH10.sl0 hox
    obtain ⟨pa, pn, pc, pl, pe, rfl, hpx, hpn, hpn2, hpz⟩ := hc4
    obtain ⟨hlp, hep⟩ := hpz.uniq hoz
    subst hlp; subst hep
    obtain rfl : pn = on := by omega
    have fpx : ∀ x, pa = some ⟨x, 0, none⟩ → x < H10.next := hpx.old
    refine Exists.intro _ (Exists.intro _ (And.intro (callX_args fH10) ?_))
    refine And.intro rfl (Exists.intro (.slice pa pn pc) (And.intro (by kernel_rfl) ?_))
    refine And.intro rfl (Exists.intro (iv pe) (And.intro (by kernel_rfl) ?_))
    refine Exists.intro _ (Exists.intro _ (And.intro c1.of (And.intro (show row 13 _ _ = some [.slice g.wa g.wn g.wcap, .slice g.aa g.an g.acap, iv g.r1, iv g.r2, iv g.f1, iv g.f2, iv g.g1, iv g.g2, iv g.full, iv g.base, iv g.kill, iv g.need, iv g.bear] from rfl) ?_)))
    obtain ⟨wH11, H11, fH11, kH11, hc5⟩ := tells_ok (kn := kn) (lo := lo) (H := H10) h48 (g := g) (a := a) (b := b) (us := us) hw ha hwl hal (by omega) (by omega) hl hul (by omega) (by omega)
    have mH11 := kH11.1
    have hk := hk.trans kH11
    have hw := kH11.sl0 hw
    have ha := kH11.sl0 ha
    have hl := kH11.sl0 hl
    have c1 := kH11.cl c1 (by simp)
    have c4 := kH11.cl c4 (by simp)
    have c7 := kH11.cl c7 (by simp)
    have hox := kH11.sl0 hox
    have hpx := kH11.sl0 hpx
    obtain ⟨x1, y1, e3, rfl⟩ := hc5.any
    refine Exists.intro _ (Exists.intro _ (And.intro (callX_args fH11) ?_))
    refine And.intro rfl (Exists.intro (iv x1) (And.intro (by kernel_rfl) ?_))
    refine And.intro rfl (Exists.intro (iv y1) (And.intro (by kernel_rfl) ?_))
    refine And.intro rfl (Exists.intro (iv e3) (And.intro (by kernel_rfl) ?_))
    refine Exists.intro _ (Exists.intro _ (And.intro c1.of (And.intro (show row 13 _ _ = some [.slice g.wa g.wn g.wcap, .slice g.aa g.an g.acap, iv g.r1, iv g.r2, iv g.f1, iv g.f2, iv g.g1, iv g.g2, iv g.full, iv g.base, iv g.kill, iv g.need, iv g.bear] from rfl) ?_)))
    obtain ⟨wH12, H12, fH12, kH12, hc6⟩ := tells20_ok (kn := kn) (lo := lo) (H := H11) (g := g) (a := a) (b := b) hw ha hwl hal (by omega) (by omega) hl hul (by omega) (by omega)
    have mH12 := kH12.1
    have hk := hk.trans kH12
    have hw := kH12.sl0 hw
    have ha := kH12.sl0 ha
    have hl := kH12.sl0 hl
    have c1 := kH12.cl c1 (by simp)
    have c4 := kH12.cl c4 (by simp)
    have c7 := kH12.cl c7 (by simp)
    have hox := kH12.sl0 hox
    have hpx := kH12.sl0 hpx
    obtain rfl := hc5.uniq hc6
    refine Exists.intro _ (Exists.intro _ (And.intro (callX_args fH12) ?_))
    refine And.intro rfl (Exists.intro (iv x1) (And.intro (by kernel_rfl) ?_))
    refine And.intro rfl (Exists.intro (iv y1) (And.intro (by kernel_rfl) ?_))
    refine And.intro rfl (Exists.intro (iv e3) (And.intro (by kernel_rfl) ?_))
    refine Exists.intro _ (Exists.intro _ (And.intro c4.of (And.intro (show row 2 _ _ = some [iv p1, iv q1] from rfl) ?_)))
    refine Exists.intro _ (Exists.intro _ (And.intro c7.of (And.intro (show row 2 _ _ = some [iv p1, iv q1] from rfl) ?_)))
    refine And.intro rfl (Exists.intro (.bool true) (And.intro ((pure_eql24 (a := p1) (b := q1) (c := p1) (e := q1) rfl rfl).trans (by simp)) ?_))
    intro t1 g1; cases t1
    · have g1 : ¬ (e1 = e1) := by simpa using g1
      exact absurd rfl g1
    · have g1 : e1 = e1 := by simpa using g1
      refine And.intro rfl (Exists.intro (.bool true) (And.intro rfl ?_))
      refine callB (same_ok hox hpx (by omega) (by omega)) ?_
      intro tH13 H13 hH13 kH13
      subst hH13
      have mH13 := kH13.1
      have hk := hk.trans kH13
      have hw := kH13.sl0 hw
      have ha := kH13.sl0 ha
      have hl := kH13.sl0 hl
      have c1 := kH13.cl c1 (by simp)
      have c4 := kH13.cl c4 (by simp)
      have c7 := kH13.cl c7 (by simp)
      have hox := kH13.sl0 hox
      have hpx := kH13.sl0 hpx
      refine And.intro rfl (Exists.intro (.bool true) (And.intro rfl ?_))
      intro t2 g2; cases t2
      · have g2 : ¬ (pe = pe) := by simpa using g2
        exact absurd rfl g2
      · have g2 : pe = pe := by simpa using g2
        refine And.intro rfl (Exists.intro (.bool true) (And.intro rfl ?_))
        intro t3 g3; cases t3
        · have g3 : ¬ (x1 = x1) := by simpa using g3
          exact absurd rfl g3
        · have g3 : x1 = x1 := by simpa using g3
          refine And.intro rfl (Exists.intro (.bool true) (And.intro rfl ?_))
          intro t4 g4; cases t4
          · have g4 : ¬ (y1 = y1) := by simpa using g4
            exact absurd rfl g4
          · have g4 : y1 = y1 := by simpa using g4
            refine And.intro rfl (Exists.intro (.bool true) (And.intro rfl ?_))
            intro t5 g5; cases t5
            · have g5 : ¬ (e3 = e3) := by simpa using g5
              exact absurd rfl g5
            · have g5 : e3 = e3 := by simpa using g5
              refine And.intro rfl (Exists.intro (.bool true) (And.intro rfl ?_))
              refine al _ _ ?_
              refine And.intro rfl (Exists.intro (.bool true) (And.intro rfl ?_))
              exact And.intro trivial (Exists.intro _ (And.intro rfl rfl))
  · refine condT ?_
    refine al _ _ ?_
    exact And.intro trivial (Exists.intro _ (And.intro rfl rfl))
end
end Go.Ax

import Derived.Test.YtkdgngdnmgelnaaMb
import Derived.Test.YtkdgngdnmgelnaaAxW9
import Derived.Test.YtkdgngdnmgelnaaChecked
set_option linter.all false
/-
 Flood: last (64), begin (71), goOn (72) (written by program).
-/
namespace Go.Ax
open Go Go.RowKit Go.Proofs
section
variable {kn : FuncId → Option Bool} {lo : Nat} {H : Hp}
theorem last_ok {bb k cap : Nat} {ov : Value} {x y : Fs} {L : List Fs} (rb : Rd H bb (flc L)) (hx : L[k - 1]? = some x) (hk0 : 0 < k) (hk1 : k ≤ 1000) (hlo : lo ≤ H.next) : ∃ H', FnX Try.prog kn lo 64 [.agg #[ov, slv bb k cap, iv y.t1, iv y.t2, iv y.l1, iv y.l2, iv y.s1, iv y.s2, iv y.r1, iv y.r2]] H (.agg x.c.toArray) H' ∧ Keep H H' [] := by
 have key := fnX_low (kn := kn) (lo := lo) (H := H) (args := [.agg #[ov, slv bb k cap, iv y.t1, iv y.t2, iv y.l1, iv y.l2, iv y.s1, iv y.s2, iv y.r1, iv y.r2]]) (Q := fun w H' => w = .agg x.c.toArray ∧ Keep H H' []) Try.func64 B64 N64 Z64 L64 (by simp) ?_
 ·obtain ⟨w, H', h, rfl, q⟩ := key; exact ⟨H', h, q⟩
 have hk := Keep.refl H []
 have lbb := rb.lt
 intro H1 hH1; obtain ⟨kH1, nH1, c1⟩ := new_facts hH1; clear hH1
 have mH1 := kH1.1
 have hk := hk.trans kH1
 have rb := kH1.rd rb (by simp)
 have c1 : Cl H1 H.next [ov, .slice (some ⟨bb, 0, none⟩) k cap, iv y.t1, iv y.t2, iv y.l1, iv y.l2, iv y.s1, iv y.s2, iv y.r1, iv y.r2] := c1
 intro H2 hH2; obtain ⟨kH2, nH2, c2⟩ := new_facts hH2; clear hH2
 have c2 : Cl H2 H1.next [iv 0, iv 0, iv 0, iv 0, iv 0] := c2
 have mH2 := kH2.1
 have hk := hk.trans kH2
 have rb := kH2.rd rb (by simp)
 have c1 := kH2.cl c1 (by simp)
 refine Exists.intro _ (Exists.intro _ (And.intro c1.of (And.intro (show _ = some (.slice (some ⟨bb, 0, none⟩) k cap) from rfl) ?_)))
 refine Exists.intro _ (Exists.intro _ (And.intro c1.of (And.intro (show _ = some (.slice (some ⟨bb, 0, none⟩) k cap) from rfl) ?_)))
 refine And.intro (show InR ((k : Int) - 1) from ⟨by omega, by omega⟩) ?_
 refine Exists.intro (k - 1) (And.intro (by omega) (And.intro (by omega) ?_))
 refine Exists.intro _ (Exists.intro _ (And.intro rb.of (And.intro (flc_row hx) ?_)))
 obtain ⟨_, eH3, lH3, gH3⟩ := id c2
 refine Exists.intro _ (Exists.intro _ (Exists.intro _ (And.intro gH3 (And.intro (by omega) (And.intro rfl (And.intro rfl (And.intro (by simp) ?_)))))))
 intro H3 hH3; obtain ⟨kH3, nH3, sH3⟩ := up_facts c2 hH3; clear hH3
 have mH3 := kH3.1
 have hk := hk.new kH3 (fun b hb => by simp at hb ⊢; omega)
 have rb := kH3.rd rb (by simp <;> omega)
 have c1 := kH3.cl c1 (by simp <;> omega)
 have c2 : Cl H3 H1.next [iv (x.bed : Int), iv x.f1, iv x.f2, iv x.d1, iv x.d2] := sH3
 exact And.intro trivial (Exists.intro _ (And.intro (res_cell rfl a52 i52s rfl c2) ⟨rfl, hk⟩))
set_option maxRecDepth 100000 in
theorem begin_ok {g : Fh} {f i cap b bb : Nat} {ka : Option Addr} {kc : Nat} {ov : Value} {e : Int} {L : List Fs} (cb : Cl H b [ov, slv bb 0 cap, iv 0, iv 0, iv 0, iv 0, iv 0, iv 0, iv 0, iv 0]) (hat : g.At f H) (v : g.Vd) (hi : i < g.bn) (hks : Sl H ka g.bn kc (spc g.ws)) (hsc : Sc H bb (flc L)) (hL : L.length = cap) (hkc : 0 < cap) (hb : lo ≤ b) (hbb : lo ≤ bb) (hfb : f ≤ b) (hfbb : f ≤ bb) (hne : b ≠ bb) (fk : ∀ x, ka = some ⟨x, 0, none⟩ → x ≠ b ∧ x ≠ bb) (he : e = (i : Int)) (hlo : lo ≤ H.next) :
  ∃ H', FnX Try.prog kn lo 71 [.agg (g.vw ka kc).toArray, pt b, iv e] H unit H' ∧ Keep H H' [b, bb] ∧ Cl H' b (ov :: slv bb 1 cap :: (g.first i).u) ∧ Sc H' bb (putRow (flc L) (0 + 0 * 5) (g.first i).c) := by
 subst he
 have hk7 : (0 : Nat) < 100 := by decide
 have key := fnX_low (kn := kn) (lo := lo) (H := H) (args := [.agg (g.vw ka kc).toArray, pt b, iv (i : Int)]) (Q := fun w H' => w = unit ∧ Keep H H' [b, bb] ∧ Cl H' b (ov :: slv bb 1 cap :: (g.first i).u) ∧ Sc H' bb (putRow (flc L) (0 + 0 * 5) (g.first i).c)) Try.func71 B71 N71 Z71 L71 (by simp) ?_
 ·obtain ⟨w, H', h, rfl, q⟩ := key; exact ⟨H', h, q⟩
 have hk := Keep.refl H [b, bb]
 have hfl := hat.le; have ltb := cb.lt; have ltbb := hsc.lt; have hbn := v.n
 have bd := Fh.bd v hat hi
 obtain ⟨⟨d1, d2⟩, ⟨d3, d4⟩, ⟨d5, d6⟩, _, _, d7, d8, ⟨d9, d10⟩, ⟨d11, d12⟩⟩ := bd
 have hnd : g.need i = (g.B i).need := rfl
 have hinl := v.inl
 have fk2 : ∀ x, ka = some ⟨x, 0, none⟩ → (x ≠ b ∧ x ≠ bb) ∧ x < H.next := fun x e => ⟨fk x e, hks.old x e⟩
 have hup := upq_in (a := (g.B i).need) (b := g.inlet) ⟨by omega, by omega⟩ hinl.1
 obtain ⟨xb, eb, rb, lb⟩ := hat.bog (by omega)
 have hbi := getB (g := g) (i := i) (by rw [hat.bl]; exact hi)
 intro H1 hH1; obtain ⟨kH1, nH1, c1⟩ := new_facts hH1; clear hH1
 have mH1 := kH1.1
 have hk := hk.trans (kH1.mono (by simp))
 have hat := hat.keep kH1 (by simp)
 have cb := kH1.cl cb (by simp)
 have hsc := kH1.sc hsc (by simp)
 have hks := kH1.sl0 hks
 have rb := kH1.rd rb (by simp)
 have c1 : Cl H1 H.next [.slice g.ba g.bn g.bcap, .slice g.ra g.rn g.rcap, iv g.inlet, iv g.reserve, iv g.winds, .slice ka g.bn kc] := c1
 refine Exists.intro _ (Exists.intro _ (And.intro c1.of (And.intro (show _ = some (Value.slice (some ⟨xb, 0, none⟩) g.bn g.bcap) from by rw [← eb]; rfl) ?_)))
 refine Exists.intro i (And.intro rfl (And.intro hi ?_))
 refine Exists.intro _ (Exists.intro _ (And.intro rb.of (And.intro (bgc_at (j := 0) hbi rfl) ?_)))
 obtain ⟨H2, fH2, kH2⟩ := span82_ok (kn := kn) (lo := lo) (H := H1) (a := (g.B i).need) (b := (g.B i).need) (by omega)
 refine Exists.intro _ (Exists.intro _ (And.intro (callX_args fH2) ?_))
 have mH2 := kH2.1
 have hk := hk.trans (kH2.mono (by simp))
 have hat := hat.keep kH2 (by simp)
 have cb := kH2.cl cb (by simp)
 have hsc := kH2.sc hsc (by simp)
 have hks := kH2.sl0 hks
 have rb := kH2.rd rb (by simp)
 have c1 := kH2.cl c1 (by simp)
 obtain ⟨_, eH3, lH3, gH3⟩ := id cb
 refine Exists.intro _ (Exists.intro _ (Exists.intro _ (And.intro gH3 (And.intro (by omega) (And.intro rfl (And.intro rfl (And.intro (by simp) ?_)))))))
 intro H3 hH3; obtain ⟨kH3, nH3, sH3⟩ := up_facts cb hH3; clear hH3
 have mH3 := kH3.1
 have hk := hk.new kH3 (fun b hb => by simp at hb ⊢; omega)
 have hat := hat.keep kH3 (fun x hx => by first | (simp at hx; done) | (simp at hx; omega))
 have hsc := kH3.sc hsc (by simp <;> omega)
 have hks := kH3.sl hks (fun b e => by have := fk2 b e; first | (simp; done) | (simp; omega))
 have rb := kH3.rd rb (by simp <;> omega)
 have c1 := kH3.cl c1 (by simp <;> omega)
 have cb : Cl H3 b [ov, .slice (some ⟨bb, 0, none⟩) 0 cap, iv ((g.B i).need), iv ((g.B i).need), iv 0, iv 0, iv 0, iv 0, iv 0, iv 0] := sH3
 first | refine wD_dreg ?_ | (refine wOps_nil ?_; refine wD_dreg ?_)
 refine wD_lda (b := H.next) (o := 0) rfl c1.rd (show row 6 _ _ = some [.slice g.ba g.bn g.bcap, .slice g.ra g.rn g.rcap, iv g.inlet, iv g.reserve, iv g.winds, .slice ka g.bn kc] from rfl) ?_
 refine wD_mov (v := pt b) rfl ?_
 refine wD_mov (v := iv (i : Int)) rfl ?_
 refine wD_pur (v := .agg #[iv 0, iv 0]) rfl (by kernel_rfl) ?_
 refine wD_mov (v := iv ((g.B i).need)) rfl ?_
 refine wD_addo (b := H.next) (o := 0) rfl ?_
 refine wD_addo (b := H.next) (o := 0) rfl ?_
 refine wD_ld (b := H.next) (o := 2) (v := iv g.inlet) rfl c1.rd rfl ?_
 obtain ⟨H4, fH4, kH4⟩ := min84_ok (kn := kn) (lo := H3.next) (H := H3) (a := (g.B i).need) (b := g.inlet) (by omega) (by omega)
 refine wD_callh (vs := [iv ((g.B i).need), iv g.inlet]) rfl (by kernel_rfl) (callX_args fH4) ?_
 have mH4 := kH4.1
 have hk := hk.trans (kH4.mono (by simp))
 have hat := hat.keep kH4 (by simp)
 have hsc := kH4.sc hsc (by simp)
 have hks := kH4.sl0 hks
 have rb := kH4.rd rb (by simp)
 have c1 := kH4.cl c1 (by simp)
 have cb := kH4.cl cb (by simp)
 obtain ⟨H5, fH5, kH5, cH5, dH5⟩ := flood_ok (kn := kn) (lo := lo) (H := H4) (i := i) (ov := ov) (n1 := 0) (n2 := 0) (mm := upq ((g.B i).need) g.inlet) hat v hi hks cb hsc hL hkc hk7 hb hbb hfb hfbb hne fk (by omega) (by omega) (by omega) (by omega) (by omega) rfl (by omega)
 refine wD_callf (vs := [.agg #[.slice g.ba g.bn g.bcap, .slice g.ra g.rn g.rcap, iv g.inlet, iv g.reserve, iv g.winds, .slice ka g.bn kc], pt b, iv (i : Int), .agg #[iv 0, iv 0], iv (upq ((g.B i).need) g.inlet)]) rfl (callX_args fH5) ?_
 have mH5 := kH5.1
 have hk := hk.new kH5 (fun b hb => by simp at hb ⊢; omega)
 have hat := hat.keep kH5 (fun x hx => by first | (simp at hx; done) | (simp at hx; omega))
 have hks := kH5.sl hks (fun b e => by have := fk2 b e; first | (simp; done) | (simp; omega))
 have rb := kH5.rd rb (by simp <;> omega)
 have c1 := kH5.cl c1 (by simp <;> omega)
 have cb := cH5
 have hsc := dH5
 refine wD_end (by repeat' first | exact True.intro | exact (fun h => h) | refine And.intro ?_ ?_ | (intro h; have h : (_ : Nat) = _ := h; omega)) ?_
 refine And.intro trivial (Exists.intro _ (And.intro rfl ⟨rfl, hk, cb, ?_⟩))
 exact hsc
set_option maxRecDepth 100000 in
set_option maxHeartbeats 4000000 in
theorem goOn_ok {g : Fh} {f i k cap b bb : Nat} {ka : Option Addr} {kc : Nat} {ov : Value} {e : Int} {x : Fs} {L : List Fs} (cb : Cl H b (ov :: slv bb k cap :: x.u)) (hk0 : 0 < k) (hx : L[k - 1]? = some x) (hxb : x.bed < g.bn) (hin : x.In 7) (hat : g.At f H) (v : g.Vd) (hi : i < g.bn) (hks : Sl H ka g.bn kc (spc g.ws)) (hsc : Sc H bb (flc L)) (hL : L.length = cap) (hkc : k < cap) (hk7 : k < 100) (hb : lo ≤ b) (hbb : lo ≤ bb) (hfb : f ≤ b) (hfbb : f ≤ bb) (hne : b ≠ bb) (fk : ∀ x, ka = some ⟨x, 0, none⟩ → x ≠ b ∧ x ≠ bb) (he : e = (i : Int)) (hlo : lo ≤ H.next) :
  (∃ w H', FnX Try.prog kn lo 72 [.agg (g.vw ka kc).toArray, pt b, iv e] H w H' ∧ w = unit ∧ g.rate x.bed i ≠ 0 ∧ Keep H H' [b, bb] ∧ Cl H' b (ov :: slv bb (k + 1) cap :: (g.nxt x i).u) ∧ Sc H' bb (putRow (flc L) (0 + k * 5) (g.nxt x i).c)) ∨
  ∃ w H', FnP Try.prog kn lo 72 [.agg (g.vw ka kc).toArray, pt b, iv e] H w H' ∧ w = .iface 125 (.agg #[]) ∧ g.rate x.bed i = 0 ∧ Keep H H' [] := by
 subst he
 refine fn_lv (kn := kn) (lo := lo) (H := H) (args := [.agg (g.vw ka kc).toArray, pt b, iv (i : Int)]) (Q := fun w H' => w = unit ∧ g.rate x.bed i ≠ 0 ∧ Keep H H' [b, bb] ∧ Cl H' b (ov :: slv bb (k + 1) cap :: (g.nxt x i).u) ∧ Sc H' bb (putRow (flc L) (0 + k * 5) (g.nxt x i).c)) (Z := fun w H' => w = .iface 125 (.agg #[]) ∧ g.rate x.bed i = 0 ∧ Keep H H' []) Try.func72 B72 N72 Z72 V72 (by simp) ?_
 have hk := Keep.refl H [b, bb]
 have hfl := hat.le; have ltb := cb.lt; have ltbb := hsc.lt; have hbn := v.n
 have bd := Fh.bd v hat hi
 obtain ⟨⟨d1, d2⟩, ⟨d3, d4⟩, ⟨d5, d6⟩, _, _, d7, d8, ⟨d9, d10⟩, ⟨d11, d12⟩⟩ := bd
 have hnd : g.need i = (g.B i).need := rfl
 have hinl := v.inl
 have fk2 : ∀ x, ka = some ⟨x, 0, none⟩ → (x ≠ b ∧ x ≠ bb) ∧ x < H.next := fun x e => ⟨fk x e, hks.old x e⟩
 have hkz := Keep.refl H []
 have hrn2 := v.rn
 obtain ⟨⟨_, _⟩, ⟨_, _⟩, ⟨_, _⟩, ⟨_, _⟩, ⟨_, _⟩, ⟨_, _⟩, ⟨_, _⟩, ⟨_, _⟩, ⟨_, _⟩, ⟨_, _⟩, ⟨_, _⟩, ⟨_, _⟩⟩ := hin
 obtain ⟨xb, eb, rb, lb⟩ := hat.bog (by omega)
 obtain ⟨xr, er, rr, lr⟩ := hat.rts (by omega)
 have hbi := getB (g := g) (i := i) (by rw [hat.bl]; exact hi)
 have hri := getR (g := g) (i := x.bed) (by rw [hat.rl]; omega)
 obtain ⟨hr, hrl, hrf⟩ := hat.row (i := x.bed) (by omega)
 have hrn := (v.r x.bed hxb).1
 rcases hr with ⟨_, h0, _⟩ | ⟨xi, ei, ri, _⟩
 ·omega
 have li := hrf xi ei; have li2 := ri.lt; have lb2 := rb.lt; have lr2 := rr.lt
 have hrj : (g.R x.bed).l[i]? = some (g.rate x.bed i) := getI (by omega)
 have hrr := (v.r x.bed hxb).2 _ (List.mem_of_getElem? hrj)
 intro H1 hH1; obtain ⟨kH1, nH1, c1⟩ := new_facts hH1; clear hH1
 have mH1 := kH1.1
 have hk := hk.trans (kH1.mono (by simp))
 have hat := hat.keep kH1 (by simp)
 have hkz := hkz.trans kH1
 have cb := kH1.cl cb (by simp)
 have hsc := kH1.sc hsc (by simp)
 have hks := kH1.sl0 hks
 have rb := kH1.rd rb (by simp)
 have rr := kH1.rd rr (by simp)
 have ri := kH1.rd ri (by simp)
 have c1 : Cl H1 H.next [.slice g.ba g.bn g.bcap, .slice g.ra g.rn g.rcap, iv g.inlet, iv g.reserve, iv g.winds, .slice ka g.bn kc] := c1
 refine Exists.intro _ (Exists.intro _ (And.intro cb.of (And.intro (show row 10 _ _ = some [ov, .slice (some ⟨bb, 0, none⟩) k cap, iv x.t1, iv x.t2, iv x.l1, iv x.l2, iv x.s1, iv x.s2, iv x.r1, iv x.r2] from rfl) ?_)))
 obtain ⟨H2, fH2, kH2⟩ := last_ok (kn := kn) (lo := lo) (H := H1) (y := x) (ov := ov) hsc.cl.rd hx hk0 (by omega) (by omega)
 refine Exists.intro _ (Exists.intro _ (And.intro (callX_args fH2) ?_))
 have mH2 := kH2.1
 have hk := hk.trans (kH2.mono (by simp))
 have hat := hat.keep kH2 (by simp)
 have hkz := hkz.trans kH2
 have cb := kH2.cl cb (by simp)
 have hsc := kH2.sc hsc (by simp)
 have hks := kH2.sl0 hks
 have rb := kH2.rd rb (by simp)
 have rr := kH2.rd rr (by simp)
 have ri := kH2.rd ri (by simp)
 have c1 := kH2.cl c1 (by simp)
 intro H3 hH3; obtain ⟨kH3, nH3, c3⟩ := new_facts hH3; clear hH3
 have c3 : Cl H3 H2.next [iv 0, iv 0, iv 0, iv 0, iv 0] := c3
 have mH3 := kH3.1
 have hk := hk.trans (kH3.mono (by simp))
 have hat := hat.keep kH3 (by simp)
 have hkz := hkz.trans kH3
 have cb := kH3.cl cb (by simp)
 have hsc := kH3.sc hsc (by simp)
 have hks := kH3.sl0 hks
 have rb := kH3.rd rb (by simp)
 have rr := kH3.rd rr (by simp)
 have ri := kH3.rd ri (by simp)
 have c1 := kH3.cl c1 (by simp)
 obtain ⟨_, eH4, lH4, gH4⟩ := id c3
 refine Exists.intro _ (Exists.intro _ (Exists.intro _ (And.intro gH4 (And.intro (by omega) (And.intro rfl (And.intro rfl (And.intro (by simp) ?_)))))))
 intro H4 hH4; obtain ⟨kH4, nH4, sH4⟩ := up_facts c3 hH4; clear hH4
 have mH4 := kH4.1
 have hk := hk.new kH4 (fun b hb => by simp at hb ⊢; omega)
 have hat := hat.keep kH4 (fun x hx => by first | (simp at hx; done) | (simp at hx; omega))
 have hkz := hkz.new kH4 (fun b hb => by simp at hb ⊢; omega)
 have cb := kH4.cl cb (by simp <;> omega)
 have hsc := kH4.sc hsc (by simp <;> omega)
 have hks := kH4.sl hks (fun b e => by have := fk2 b e; first | (simp; done) | (simp; omega))
 have rb := kH4.rd rb (by simp <;> omega)
 have rr := kH4.rd rr (by simp <;> omega)
 have ri := kH4.rd ri (by simp <;> omega)
 have c1 := kH4.cl c1 (by simp <;> omega)
 have c3 : Cl H4 H2.next [iv (x.bed : Int), iv x.f1, iv x.f2, iv x.d1, iv x.d2] := sH4
 refine Exists.intro _ (Exists.intro _ (And.intro c1.of (And.intro (show _ = some (Value.slice (some ⟨xr, 0, none⟩) g.rn g.rcap) from by rw [← er]; rfl) ?_)))
 refine Exists.intro _ (Exists.intro _ (And.intro c3.of (And.intro (show _ = some (iv (x.bed : Int)) from rfl) ?_)))
 refine Exists.intro x.bed (And.intro rfl (And.intro (by omega) ?_))
 refine Exists.intro _ (Exists.intro _ (And.intro rr.of (And.intro (show _ = some (Value.slice (some ⟨xi, 0, none⟩) ((g.R x.bed).n) ((g.R x.bed).cap)) from by rw [← ei]; exact (rwc_row hri)) ?_)))
 refine Exists.intro i (And.intro rfl (And.intro (by omega) ?_))
 refine Exists.intro _ (Exists.intro _ (And.intro ri.of (And.intro (ints_at hrj) ?_)))
 refine And.intro (fun q1 => ?_) (fun q1 => ?_)
 ·have q1 : (g.rate x.bed i) = 0 := by simpa using q1
  refine tri_reg D72 P72 ?_
  refine Or.inl (And.intro rfl (Exists.intro (Value.agg #[]) (And.intro (by kernel_rfl) ?_)))
  refine Or.inl (And.intro rfl (Exists.intro (Value.iface 125 (.agg #[])) (And.intro (by kernel_rfl) ?_)))
  exact And.intro rfl (Or.inl (Exists.intro _ (And.intro rfl (And.intro rfl (And.intro q1 hkz)))))
 ·have q1 : ¬ ((g.rate x.bed i) = 0) := by simpa using q1
  have hr1 : 1 ≤ g.rate x.bed i := (by omega); have hup := upq_in (a := (g.B i).need) (b := g.rate x.bed i) ⟨by omega, by omega⟩ hr1
  refine wD_seq ?_
  refine wD_addo (b := H.next) (o := 0) rfl ?_
  refine wD_addo (b := H.next) (o := 0) rfl ?_
  refine wD_ld (b := H.next) (o := 0) (v := .slice (some ⟨xb, 0, none⟩) g.bn g.bcap) rfl c1.rd (show _ = some (Value.slice (some ⟨xb, 0, none⟩) g.bn g.bcap) from by rw [← eb]; rfl) ?_
  refine wD_mov (v := iv (i : Int)) rfl ?_
  refine wD_idx (b := xb) (o := 0) (k := i) (j := (i : Int)) rfl rfl rfl hi ?_
  refine wD_addo (b := xb) (o := 0 + i * 4) rfl ?_
  refine wD_ld (b := xb) (o := 0 + i * 4) (v := iv ((g.B i).need)) rfl rb (bgc_at (j := 0) hbi rfl) ?_
  refine wD_mov (v := pt b) rfl ?_
  refine wD_nilc (a := ⟨b, 0, none⟩) rfl ?_
  refine wD_addo (b := b) (o := 0) rfl ?_
  refine wD_addo (b := b) (o := 2) rfl ?_
  refine wD_lda (b := b) (o := 8) rfl cb.rd (show row 2 _ _ = some [iv x.r1, iv x.r2] from rfl) ?_
  refine wD_alc ?_
  intro H5 kH5 nH5 c5
  have c5 : Cl H5 H4.next [iv 0, iv 0] := c5
  have mH5 := kH5.1
  have hk := hk.trans (kH5.mono (by simp))
  have hat := hat.keep kH5 (by simp)
  have cb := kH5.cl cb (by simp)
  have hsc := kH5.sc hsc (by simp)
  have hks := kH5.sl0 hks
  have rb := kH5.rd rb (by simp)
  have rr := kH5.rd rr (by simp)
  have ri := kH5.rd ri (by simp)
  have c1 := kH5.cl c1 (by simp)
  have c3 := kH5.cl c3 (by simp)
  refine wD_mov (v := iv ((g.B i).need)) rfl ?_
  refine wD_sta (b := H4.next) (o := 0) rfl rfl c5 (by omega) rfl rfl (by simp) ?_
  intro H6 kH6 nH6 sH6
  have mH6 := kH6.1
  have hk := hk.new kH6 (fun b hb => by simp at hb ⊢; omega)
  have hat := hat.keep kH6 (fun x hx => by first | (simp at hx; done) | (simp at hx; omega))
  have cb := kH6.cl cb (by simp <;> omega)
  have hsc := kH6.sc hsc (by simp <;> omega)
  have hks := kH6.sl hks (fun b e => by have := fk2 b e; first | (simp; done) | (simp; omega))
  have rb := kH6.rd rb (by simp <;> omega)
  have rr := kH6.rd rr (by simp <;> omega)
  have ri := kH6.rd ri (by simp <;> omega)
  have c1 := kH6.cl c1 (by simp <;> omega)
  have c3 := kH6.cl c3 (by simp <;> omega)
  have c5 : Cl H6 H4.next [iv x.r1, iv x.r2] := sH6
  refine wD_end (by repeat' first | exact True.intro | exact (fun h => h) | refine And.intro ?_ ?_ | (intro h; have h : (_ : Nat) = _ := h; omega)) ?_
  refine wD_seq ?_
  refine wD_mov (v := pt b) rfl ?_
  refine wD_mov (v := pt b) rfl ?_
  refine wD_nilc (a := ⟨b, 0, none⟩) rfl ?_
  refine wD_addo (b := b) (o := 0) rfl ?_
  refine wD_addo (b := b) (o := 2) rfl ?_
  refine wD_lda (b := b) (o := 2) rfl cb.rd (show row 2 _ _ = some [iv x.t1, iv x.t2] from rfl) ?_
  refine wD_mov (v := iv ((g.B i).need)) rfl ?_
  refine wD_addo (b := H4.next) (o := 0) rfl ?_
  refine wD_ld (b := H4.next) (o := 1) (v := iv x.r2) rfl c5.rd rfl ?_
  refine wD_sub (a := (g.B i).need) (b := x.r2) rfl rfl ⟨by omega, by omega⟩ ?_
  refine wD_mm (a := 0) (b := ((g.B i).need) - x.r2) rfl rfl ?_
  refine wD_mov (v := iv ((g.B i).need)) rfl ?_
  refine wD_addo (b := H4.next) (o := 0) rfl ?_
  refine wD_ld (b := H4.next) (o := 0) (v := iv x.r1) rfl c5.rd rfl ?_
  refine wD_sub (a := (g.B i).need) (b := x.r1) rfl rfl ⟨by omega, by omega⟩ ?_
  refine wD_mm (a := 0) (b := ((g.B i).need) - x.r1) rfl rfl ?_
  obtain ⟨H7, fH7, kH7⟩ := span82_ok (kn := kn) (lo := H6.next) (H := H6) (a := max 0 (((g.B i).need) - x.r2)) (b := max 0 (((g.B i).need) - x.r1)) (by omega)
  refine wD_callh (vs := [iv (max 0 (((g.B i).need) - x.r2)), iv (max 0 (((g.B i).need) - x.r1))]) rfl (by kernel_rfl) (callX_args fH7) ?_
  have mH7 := kH7.1
  have hk := hk.trans (kH7.mono (by simp))
  have hat := hat.keep kH7 (by simp)
  have cb := kH7.cl cb (by simp)
  have hsc := kH7.sc hsc (by simp)
  have hks := kH7.sl0 hks
  have rb := kH7.rd rb (by simp)
  have rr := kH7.rd rr (by simp)
  have ri := kH7.rd ri (by simp)
  have c1 := kH7.cl c1 (by simp)
  have c3 := kH7.cl c3 (by simp)
  have c5 := kH7.cl c5 (by simp)
  obtain ⟨H8, fH8, kH8⟩ := plus85_ok (kn := kn) (lo := lo) (H := H7) (a := x.t1) (b := x.t2) (c := max 0 (((g.B i).need) - x.r2)) (d := max 0 (((g.B i).need) - x.r1)) ⟨by omega, by omega, by omega, by omega⟩ (by omega)
  refine wD_callf (vs := [.agg #[iv x.t1, iv x.t2], .agg #[iv (max 0 (((g.B i).need) - x.r2)), iv (max 0 (((g.B i).need) - x.r1))]]) rfl (callX_args fH8) ?_
  have mH8 := kH8.1
  have hk := hk.trans (kH8.mono (by simp))
  have hat := hat.keep kH8 (by simp)
  have cb := kH8.cl cb (by simp)
  have hsc := kH8.sc hsc (by simp)
  have hks := kH8.sl0 hks
  have rb := kH8.rd rb (by simp)
  have rr := kH8.rd rr (by simp)
  have ri := kH8.rd ri (by simp)
  have c1 := kH8.cl c1 (by simp)
  have c3 := kH8.cl c3 (by simp)
  have c5 := kH8.cl c5 (by simp)
  refine wD_nilc (a := ⟨b, 0, none⟩) rfl ?_
  refine wD_addo (b := b) (o := 0) rfl ?_
  refine wD_addo (b := b) (o := 2) rfl ?_
  refine wD_sta (b := b) (o := 2) rfl rfl cb (by omega) rfl rfl (by simp) ?_
  intro H9 kH9 nH9 sH9
  have mH9 := kH9.1
  have hk := hk.new kH9 (fun b hb => by simp at hb ⊢; omega)
  have hat := hat.keep kH9 (fun x hx => by first | (simp at hx; done) | (simp at hx; omega))
  have hsc := kH9.sc hsc (by simp <;> omega)
  have hks := kH9.sl hks (fun b e => by have := fk2 b e; first | (simp; done) | (simp; omega))
  have rb := kH9.rd rb (by simp <;> omega)
  have rr := kH9.rd rr (by simp <;> omega)
  have ri := kH9.rd ri (by simp <;> omega)
  have c1 := kH9.cl c1 (by simp <;> omega)
  have c3 := kH9.cl c3 (by simp <;> omega)
  have c5 := kH9.cl c5 (by simp <;> omega)
  have cb : Cl H9 b [ov, .slice (some ⟨bb, 0, none⟩) k cap, iv (x.t1 + (max 0 (((g.B i).need) - x.r2))), iv (x.t2 + (max 0 (((g.B i).need) - x.r1))), iv x.l1, iv x.l2, iv x.s1, iv x.s2, iv x.r1, iv x.r2] := sH9
  refine wD_end (by repeat' first | exact True.intro | exact (fun h => h) | refine And.intro ?_ ?_ | (intro h; have h : (_ : Nat) = _ := h; omega)) ?_
  refine wD_seq ?_
  refine wD_mov (v := pt b) rfl ?_
  refine wD_mov (v := pt b) rfl ?_
  refine wD_nilc (a := ⟨b, 0, none⟩) rfl ?_
  refine wD_addo (b := b) (o := 0) rfl ?_
  refine wD_addo (b := b) (o := 2) rfl ?_
  refine wD_lda (b := b) (o := 6) rfl cb.rd (show row 2 _ _ = some [iv x.s1, iv x.s2] from rfl) ?_
  refine wD_addo (b := H4.next) (o := 0) rfl ?_
  refine wD_ld (b := H4.next) (o := 0) (v := iv x.r1) rfl c5.rd rfl ?_
  refine wD_mov (v := iv ((g.B i).need)) rfl ?_
  refine wD_sub (a := x.r1) (b := (g.B i).need) rfl rfl ⟨by omega, by omega⟩ ?_
  refine wD_mm (a := 0) (b := x.r1 - ((g.B i).need)) rfl rfl ?_
  refine wD_addo (b := H4.next) (o := 0) rfl ?_
  refine wD_ld (b := H4.next) (o := 1) (v := iv x.r2) rfl c5.rd rfl ?_
  refine wD_mov (v := iv ((g.B i).need)) rfl ?_
  refine wD_sub (a := x.r2) (b := (g.B i).need) rfl rfl ⟨by omega, by omega⟩ ?_
  refine wD_mm (a := 0) (b := x.r2 - ((g.B i).need)) rfl rfl ?_
  obtain ⟨H10, fH10, kH10⟩ := span82_ok (kn := kn) (lo := H9.next) (H := H9) (a := max 0 (x.r1 - ((g.B i).need))) (b := max 0 (x.r2 - ((g.B i).need))) (by omega)
  refine wD_callh (vs := [iv (max 0 (x.r1 - ((g.B i).need))), iv (max 0 (x.r2 - ((g.B i).need)))]) rfl (by kernel_rfl) (callX_args fH10) ?_
  have mH10 := kH10.1
  have hk := hk.trans (kH10.mono (by simp))
  have hat := hat.keep kH10 (by simp)
  have hsc := kH10.sc hsc (by simp)
  have hks := kH10.sl0 hks
  have rb := kH10.rd rb (by simp)
  have rr := kH10.rd rr (by simp)
  have ri := kH10.rd ri (by simp)
  have c1 := kH10.cl c1 (by simp)
  have c3 := kH10.cl c3 (by simp)
  have c5 := kH10.cl c5 (by simp)
  have cb := kH10.cl cb (by simp)
  obtain ⟨H11, fH11, kH11⟩ := plus85_ok (kn := kn) (lo := lo) (H := H10) (a := x.s1) (b := x.s2) (c := max 0 (x.r1 - ((g.B i).need))) (d := max 0 (x.r2 - ((g.B i).need))) ⟨by omega, by omega, by omega, by omega⟩ (by omega)
  refine wD_callf (vs := [.agg #[iv x.s1, iv x.s2], .agg #[iv (max 0 (x.r1 - ((g.B i).need))), iv (max 0 (x.r2 - ((g.B i).need)))]]) rfl (callX_args fH11) ?_
  have mH11 := kH11.1
  have hk := hk.trans (kH11.mono (by simp))
  have hat := hat.keep kH11 (by simp)
  have hsc := kH11.sc hsc (by simp)
  have hks := kH11.sl0 hks
  have rb := kH11.rd rb (by simp)
  have rr := kH11.rd rr (by simp)
  have ri := kH11.rd ri (by simp)
  have c1 := kH11.cl c1 (by simp)
  have c3 := kH11.cl c3 (by simp)
  have c5 := kH11.cl c5 (by simp)
  have cb := kH11.cl cb (by simp)
  refine wD_nilc (a := ⟨b, 0, none⟩) rfl ?_
  refine wD_addo (b := b) (o := 0) rfl ?_
  refine wD_addo (b := b) (o := 2) rfl ?_
  refine wD_sta (b := b) (o := 6) rfl rfl cb (by omega) rfl rfl (by simp) ?_
  intro H12 kH12 nH12 sH12
  have mH12 := kH12.1
  have hk := hk.new kH12 (fun b hb => by simp at hb ⊢; omega)
  have hat := hat.keep kH12 (fun x hx => by first | (simp at hx; done) | (simp at hx; omega))
  have hsc := kH12.sc hsc (by simp <;> omega)
  have hks := kH12.sl hks (fun b e => by have := fk2 b e; first | (simp; done) | (simp; omega))
  have rb := kH12.rd rb (by simp <;> omega)
  have rr := kH12.rd rr (by simp <;> omega)
  have ri := kH12.rd ri (by simp <;> omega)
  have c1 := kH12.cl c1 (by simp <;> omega)
  have c3 := kH12.cl c3 (by simp <;> omega)
  have c5 := kH12.cl c5 (by simp <;> omega)
  have cb : Cl H12 b [ov, .slice (some ⟨bb, 0, none⟩) k cap, iv (x.t1 + (max 0 (((g.B i).need) - x.r2))), iv (x.t2 + (max 0 (((g.B i).need) - x.r1))), iv x.l1, iv x.l2, iv (x.s1 + (max 0 (x.r1 - ((g.B i).need)))), iv (x.s2 + (max 0 (x.r2 - ((g.B i).need)))), iv x.r1, iv x.r2] := sH12
  refine wD_end (by repeat' first | exact True.intro | exact (fun h => h) | refine And.intro ?_ ?_ | (intro h; have h : (_ : Nat) = _ := h; omega)) ?_
  first | refine wD_dreg ?_ | (refine wOps_nil ?_; refine wD_dreg ?_)
  refine wD_lda (b := H.next) (o := 0) rfl c1.rd (show row 6 _ _ = some [.slice g.ba g.bn g.bcap, .slice g.ra g.rn g.rcap, iv g.inlet, iv g.reserve, iv g.winds, .slice ka g.bn kc] from rfl) ?_
  refine wD_mov (v := pt b) rfl ?_
  refine wD_mov (v := iv (i : Int)) rfl ?_
  refine wD_addo (b := H2.next) (o := 0) rfl ?_
  refine wD_lda (b := H2.next) (o := 3) rfl c3.rd (show row 2 _ _ = some [iv x.d1, iv x.d2] from rfl) ?_
  refine wD_mov (v := iv ((g.B i).need)) rfl ?_
  refine wD_mov (v := iv (g.rate x.bed i)) rfl ?_
  obtain ⟨H13, fH13, kH13⟩ := min84_ok (kn := kn) (lo := H12.next) (H := H12) (a := (g.B i).need) (b := (g.rate x.bed i)) (by omega) (by omega)
  refine wD_callh (vs := [iv ((g.B i).need), iv (g.rate x.bed i)]) rfl (by kernel_rfl) (callX_args fH13) ?_
  have mH13 := kH13.1
  have hk := hk.trans (kH13.mono (by simp))
  have hat := hat.keep kH13 (by simp)
  have hsc := kH13.sc hsc (by simp)
  have hks := kH13.sl0 hks
  have rb := kH13.rd rb (by simp)
  have rr := kH13.rd rr (by simp)
  have ri := kH13.rd ri (by simp)
  have c1 := kH13.cl c1 (by simp)
  have c3 := kH13.cl c3 (by simp)
  have c5 := kH13.cl c5 (by simp)
  have cb := kH13.cl cb (by simp)
  obtain ⟨H14, fH14, kH14, cH14, dH14⟩ := flood_ok (kn := kn) (lo := lo) (H := H13) (i := i) (ov := ov) (n1 := x.d1) (n2 := x.d2) (mm := upq ((g.B i).need) (g.rate x.bed i)) hat v hi hks cb hsc hL hkc hk7 hb hbb hfb hfbb hne fk (by omega) (by omega) (by omega) (by omega) (by omega) rfl (by omega)
  refine wD_callf (vs := [.agg #[.slice g.ba g.bn g.bcap, .slice g.ra g.rn g.rcap, iv g.inlet, iv g.reserve, iv g.winds, .slice ka g.bn kc], pt b, iv (i : Int), .agg #[iv x.d1, iv x.d2], iv (upq ((g.B i).need) (g.rate x.bed i))]) rfl (callX_args fH14) ?_
  have mH14 := kH14.1
  have hk := hk.new kH14 (fun b hb => by simp at hb ⊢; omega)
  have hat := hat.keep kH14 (fun x hx => by first | (simp at hx; done) | (simp at hx; omega))
  have hks := kH14.sl hks (fun b e => by have := fk2 b e; first | (simp; done) | (simp; omega))
  have rb := kH14.rd rb (by simp <;> omega)
  have rr := kH14.rd rr (by simp <;> omega)
  have ri := kH14.rd ri (by simp <;> omega)
  have c1 := kH14.cl c1 (by simp <;> omega)
  have c3 := kH14.cl c3 (by simp <;> omega)
  have c5 := kH14.cl c5 (by simp <;> omega)
  have cb := cH14
  have hsc := dH14
  refine wD_end (by repeat' first | exact True.intro | exact (fun h => h) | refine And.intro ?_ ?_ | (intro h; have h : (_ : Nat) = _ := h; omega)) ?_
  exact Or.inr (And.intro (.inl rfl) (Exists.intro _ (And.intro rfl ⟨rfl, by omega, hk, cb, hsc⟩)))
end
end Go.Ax
/-
 Flood: follow (53): an order, or the panic of one that cannot be, recovered (written by program).
-/
namespace Go.Ax
open Go Go.RowKit Go.Proofs
def Fx (H : Hp) (b : Nat) (cs : List Value) : Prop := b < H.next ∧ (H.t.get b = some (.ro cs) ∨ (∃ e, H.t.get b = some (.cells cs e false)) ∨ H.t.get b = some (.cells cs 3 true))
theorem Fx.rd {H : Hp} {b : Nat} {cs : List Value} (h : Fx H b cs) : Rd H b cs := by
 obtain ⟨h1, h2 | ⟨e, h2⟩ | h2⟩ := h <;> exact ⟨h1, by unfold cellsOf; rw [h2]⟩
theorem Fx.lt {H : Hp} {b : Nat} {cs : List Value} (h : Fx H b cs) : b < H.next := h.1
theorem Keep.fx {H H1 : Hp} {l : List Nat} (k : Keep H H1 l) {b : Nat} {cs : List Value} (h : Fx H b cs) (hl : b ∉ l) : Fx H1 b cs :=
 ⟨Nat.lt_of_lt_of_le h.1 k.1, by rw [k.2 b h.1 hl]; exact h.2⟩
theorem KeepB.fx {f : Nat} {H H1 : Hp} (k : KeepB f H H1) {b : Nat} {cs : List Value} (h : Fx H b cs) (hl : b < f) : Fx H1 b cs :=
 ⟨Nat.lt_of_lt_of_le h.1 k.1, by rw [k.2 b hl]; exact h.2⟩
theorem Sc.fx {H : Hp} {b : Nat} {cs : List Value} (h : Sc H b cs) : Fx H b cs := ⟨h.1, .inr (.inl h.2)⟩
theorem in3 : ∃ i, Try.prog.info? 3 = some i ∧ i.size = 1 := by
 have h : (Try.prog.info? 3).map (fun i => Nat.beq i.size 1) = some true := by kernel_rfl
 cases e : Try.prog.info? 3 with
 | none => rw [e] at h; cases h
 | some i => rw [e] at h; exact ⟨i, rfl, by simpa using h⟩
theorem u26 : Try.prog.underlying 26 = some (.slice 3) := by kernel_rfl
theorem heap_tail {lo : Nat} {H : Hp} {m cap b : Nat} {cs : List Value} (h0 : Fx H b cs) (hm : 1 ≤ m) (hc : m ≤ cap) :
  ∃ a c, (∀ (n : Nat) (S : Rg) (d : Option Tmp) (x y : Operand) (ty : TypeId) (p : String), evS S x = some (.slice (some ⟨b, 0, none⟩) m cap) → evS S y = some (iv 1) → heapOp Try.prog lo (frS n S) H ⟨d, .slice 26 x (some y) none none, ty, p, #[], none⟩ = some (.val (.slice a (m - 1) c) H, .read b)) ∧ (1 < m → a = some ⟨b, 1, none⟩) := by
 obtain ⟨i, hi, hs⟩ := in3
 have hB : ∀ (n : Nat) (S : Rg) (y : Operand), evS S y = some (iv 1) → boundOf (frS n S) 0 (some y) = some 1 := fun n S y hy => by unfold boundOf; simp only [ev_frS, hy]
 have hb0 : ∀ (n : Nat) (S : Rg), boundOf (frS n S) m none = some m := fun _ _ => rfl
 have hp : ({ block := b, off := 0, spot := none } : Addr).add (1 * 1) = ⟨b, 1, none⟩ := rfl
 obtain ⟨_, h2 | ⟨e, h2⟩ | h2⟩ := h0
 ·refine ⟨some (bif Nat.beq cap 1 then ({ block := b, off := 0, spot := none } : Addr) else ({ block := b, off := 0, spot := none } : Addr).add (1 * 1)), cap - 1, ?_, ?_⟩
  ·intro n S d x y ty p hx hy
   have hb := hB n S y hy
   unfold heapOp
   simp only [ev_frS, hx, u26, hi, hb, hb0, h2, hs, Nat.ble_eq_true_of_le hc, Nat.ble_eq_true_of_le hm, Bool.and_self, cond_true]
  ·intro hm1
   have : Nat.beq cap 1 = false := by
    cases h : Nat.beq cap 1
    ·rfl
    ·have := Nat.eq_of_beq_eq_true h; omega
   rw [this]; rfl
 ·refine ⟨some (bif Nat.beq cap 1 then ({ block := b, off := 0, spot := none } : Addr) else ({ block := b, off := 0, spot := none } : Addr).add (1 * 1)), cap - 1, ?_, ?_⟩
  ·intro n S d x y ty p hx hy
   have hb := hB n S y hy
   unfold heapOp
   simp only [ev_frS, hx, u26, hi, hb, hb0, h2, hs, Nat.ble_eq_true_of_le hc, Nat.ble_eq_true_of_le hm, Bool.and_self, cond_true]
  ·intro hm1
   have : Nat.beq cap 1 = false := by
    cases h : Nat.beq cap 1
    ·rfl
    ·have := Nat.eq_of_beq_eq_true h; omega
   rw [this]; rfl
 ·rcases Nat.lt_or_ge 1 m with h1 | h1
  ·have hne : Nat.beq 1 m = false := by
    cases h : Nat.beq 1 m
    ·rfl
    ·have := Nat.eq_of_beq_eq_true h; omega
   refine ⟨some ⟨b, 1, none⟩, cap - 1, ?_, fun _ => rfl⟩
   intro n S d x y ty p hx hy
   have hb := hB n S y hy
   unfold heapOp
   simp only [ev_frS, hx, u26, hi, hb, hb0, h2, hs, hne, Nat.beq_refl, Nat.ble_eq_true_of_le (Nat.le_refl m), Nat.ble_eq_true_of_le hm, show Nat.beq 1 0 = false from rfl, Bool.not_false, Bool.true_or, Bool.and_self, cond_true]
   rfl
  ·obtain rfl : m = 1 := by omega
   refine ⟨some ⟨0, 0, some 0⟩, 0, ?_, fun h => by omega⟩
   intro n S d x y ty p hx hy
   have hb := hB n S y hy
   unfold heapOp
   simp only [ev_frS, hx, u26, hi, hb, hb0, h2, hs, Nat.beq_refl, Nat.ble_eq_true_of_le (Nat.le_refl 1), show Nat.beq 1 0 = false from rfl, Bool.not_false, Bool.not_true, Bool.false_or, Bool.and_self, cond_true, cond_false]
theorem in52 : ∃ i, Try.prog.info? 52 = some i ∧ i.bytes ≤ 1000 := by
 have h : (Try.prog.info? 52).map (fun i => Nat.ble i.bytes 1000) = some true := by kernel_rfl
 cases e : Try.prog.info? 52 with
 | none => rw [e] at h; cases h
 | some i => rw [e] at h; exact ⟨i, rfl, Nat.le_of_ble_eq_true (by simpa using h)⟩
theorem heap_make34 {lo n : Nat} {S : Rg} {H : Hp} {d : Option Tmp} {ty : TypeId} {x y : Operand} {p : String} {m : Nat} (hx : evS S x = some (iv 0)) (hy : evS S y = some (iv (m : Int))) (hm : m ≤ 1000) :
  heapOp Try.prog lo (frS n S) H ⟨d, .makeSlice 34 x y, ty, p, #[], none⟩ = some (.val (.slice (some ⟨H.next, 0, none⟩) 0 m) (H.new (.cells (flc (List.replicate m Fs.z)) 52 false)), .heavy) := by
 obtain ⟨i, hi, hb⟩ := in52
 have h1 : Nat.ble (i.bytes * m) 1099511627776 = true := Nat.ble_eq_true_of_le (Nat.le_trans (Nat.mul_le_mul hb hm) (by decide))
 have hz : zeros (Value.agg #[iv 0, iv 0, iv 0, iv 0, iv 0]).cells.toList m = flc (List.replicate m Fs.z) := zeros_flat (f := Fs.c) (z := Fs.z) m
 unfold heapOp
 simp only [ev_frS, hx, hy, se34, z52, hi, show ((m : Nat) : Int) = Int.ofNat m from rfl, show (0 : Int) = Int.ofNat 0 from rfl, Nat.ble_eq_true_of_le (Nat.zero_le m), h1, Nat.ble_eq_true_of_le (show m ≤ 1048576 by omega), Bool.and_true, cond_true]
 rw [← hz]; rfl
theorem new_sc {H H1 : Hp} {cs : List Value} {e : TypeId} (h : H.new (.cells cs e false) = H1) : Sc H1 H.next cs := ⟨by rw [(new_facts h).2.1]; omega, e, new_get h⟩
theorem S70 : at_ Try.f70 [] = .seq (at_ Try.f70 [0]) (at_ Try.f70 [1]) := by kernel_rfl
theorem C70 : at_ Try.f70 [1] = .cond (.tmp 3) (at_ Try.f70 [1, 0]) (at_ Try.f70 [1, 1]) := by kernel_rfl
theorem K70 : at_ Try.f70 [1, 1] = .skip := by kernel_rfl
theorem D70a : at_ Try.f70 [0] = .region 0 (opsOf (at_ Try.f70 [0])) false := by kernel_rfl
theorem Q70a : lowRQs Try.prog 5 (opsOf (at_ Try.f70 [0])).toList (opsOf (at_ Try.f70 [0])).toList = some [(.rcv (some 2)), (.ro ⟨(some 3), none, (.pur ⟨(some 3), (.binOp .neq 20 (.tmp 2) (.const .nilIface) 20), 4, "", (List.toArray []), none⟩)⟩)] := by kernel_rfl
theorem D70b : at_ Try.f70 [1, 0] = .region 1 (opsOf (at_ Try.f70 [1, 0])) false := by kernel_rfl
theorem Q70b : lowRQs Try.prog 5 (opsOf (at_ Try.f70 [1, 0])).toList (opsOf (at_ Try.f70 [1, 0])).toList = some [(.ro ⟨(some 4), none, (.pur ⟨(some 4), (.build 78 (List.toArray [])), 78, "", (List.toArray []), none⟩)⟩), (.ro ⟨none, none, (.sta (.tmp 0) (.tmp 4) 10)⟩), (.ro ⟨none, none, (.st (.tmp 1) (.const (.int .i64 4)))⟩)] := by kernel_rfl
theorem a31 : isAggB Try.prog 31 = some false := by kernel_rfl
theorem res_cc {P : Program} {S : Rg} {H : Hp} {a b x y n : Nat} {t u : TypeId} {cs : List Value} {v : Value} (ha : lk S a = some (.pointer (some ⟨x, 0, none⟩))) (hb : lk S b = some (.pointer (some ⟨y, 0, none⟩))) (h1 : isAggB P t = some true) (hi : ∃ i, P.info? t = some i ∧ i.size = n) (hl : cs.length = n) (h2 : isAggB P u = some false) (h : Cl H x cs) (h' : Cl H y [v]) :
  resS P S H [.cell a t, .cell b u] = some [.agg cs.toArray, v] := by
 simp only [resS, ha, hb, load_agg h1 hi h.rd hl, load_one h2 h'.rd]
abbrev flumeV : Value := .iface 125 (.agg #[])
abbrev zc78 : List Value := [.slice none 0 0, .slice none 0 0, iv 0, iv 0, iv 0, iv 0, iv 0, iv 0, iv 0, iv 0]
theorem grow_set {l : List Fs} {k n : Nat} {x : Fs} (hl : l.length = k) (hk : k < n) : (l ++ List.replicate (n - k) Fs.z).set k x = (l ++ [x]) ++ List.replicate (n - (k + 1)) Fs.z := by
 rw [List.set_append_right _ _ (by omega), hl, Nat.sub_self]
 obtain ⟨d, hd⟩ : ∃ d, n - k = d + 1 := ⟨n - k - 1, by omega⟩
 rw [hd, List.replicate_succ, List.set_cons_zero, show n - (k + 1) = d by omega, List.append_assoc]; rfl
def no (us : List Int) : List Nat := us.map Int.toNat
theorem IsOrd.at {us : List Int} {n k : Nat} (h : IsOrd us n) (hk : k < n) : us[k]? = some (((no us).getD k 0 : Nat) : Int) ∧ (no us).getD k 0 < n := by
 have hl := h.len
 obtain ⟨x, hx⟩ := get_some (l := us) (i := k) (by omega)
 have hr := h.rng x (List.mem_of_getElem? hx)
 have e : (no us).getD k 0 = x.toNat := by
  unfold no; rw [List.getD_eq_getElem?_getD, List.getElem?_map, hx]; rfl
 rw [e, hx]
 exact ⟨by rw [Int.toNat_of_nonneg hr.1], by omega⟩
theorem Fh.st_in {g : Fh} {f : Nat} {H : Hp} (v : g.Vd) (a : g.At f H) {us : List Int} (ho : IsOrd us g.bn) : ∀ k, k < g.bn → g.can (no us) k = true → (g.st (no us) k).In ((k : Int) + 1)
 | 0, hk, _ => by
  have := Fh.first_in v (Fh.bd v a (ho.at hk).2)
  exact this
 | k + 1, hk, hc => by
  rw [Fh.can_step, Bool.and_eq_true] at hc
  have ih := Fh.st_in v a ho k (by omega) hc.1
  have hr : g.rate ((no us).getD k 0) ((no us).getD (k + 1) 0) ≠ 0 := of_decide_eq_true hc.2
  have h1 := (ho.at (show k < g.bn by omega)).2
  have h2 := (ho.at hk).2
  have hrr : 0 ≤ g.rate ((no us).getD k 0) ((no us).getD (k + 1) 0) := by
   have hl := (a.row (i := (no us).getD k 0) (by have := v.rn; omega)).2.1
   have hv := v.r _ h1
   have q : (g.R ((no us).getD k 0)).l[(no us).getD (k + 1) 0]? = some (g.rate ((no us).getD k 0) ((no us).getD (k + 1) 0)) := getI (by rw [hl, hv.1]; exact h2)
   exact (hv.2 _ (List.mem_of_getElem? q)).1
  have := Fh.nxt_in ih (by omega) (Fh.bd v a h2) (by rw [Fh.st_bed]; omega)
  exact this
theorem Fs.In.mono {x : Fs} {k l : Int} (h : x.In k) (hl : k ≤ l) : x.In l := by
 obtain ⟨a1, a2, a3, a4, a5, a6, a7, a8, a9, a10, a11, a12⟩ := h
 constructor <;> omega
section
variable {kn : FuncId → Option Bool} {lo : Nat} {H : Hp}
theorem def70_none {b c : Nat} : DefX Try.prog kn lo 70 [pt b, pt c] H none none H := by
 have key : ∃ H', DefX Try.prog kn lo 70 [pt b, pt c] H none none H' ∧ H' = H := ?_
 ·obtain ⟨H', h, rfl⟩ := key; exact h
 refine defX_of (P := Try.prog) (kn := kn) (lo := lo) (args := [pt b, pt c]) (H := H) (p := none) (p' := none) (Q := fun H' => H' = H) Try.func70 B70 (by rw [N70]; simp) (by rw [Z70]) ?_
 rw [N70]
 refine TriQ.seq S70 (TriQ.reg D70a Q70a ?_)
 refine And.intro rfl (Exists.intro (.bool false) (And.intro (by kernel_rfl) ?_))
 refine TriQ.cond C70 (t := false) rfl (fun e => by cases e) (fun _ => TriQ.skip K70 ?_)
 exact ⟨.inl rfl, rfl, rfl⟩
theorem def70_some {b c : Nat} {cs : List Value} {w : Value} (hb : Cl H b cs) (hl : cs.length = 10) (hc : Cl H c [w]) (hne : b ≠ c) (lb : lo ≤ b) (lc : lo ≤ c) : ∃ H', DefX Try.prog kn lo 70 [pt b, pt c] H (some (flumeV, false)) (some (flumeV, true)) H' ∧ Cl H' b zc78 ∧ Cl H' c [iv 4] ∧ Keep H H' [b, c] := by
 refine defX_of (P := Try.prog) (kn := kn) (lo := lo) (args := [pt b, pt c]) (H := H) (Q := fun H' => Cl H' b zc78 ∧ Cl H' c [iv 4] ∧ Keep H H' [b, c]) Try.func70 B70 (by rw [N70]; simp) (by rw [Z70]) ?_
 rw [N70]
 refine TriQ.seq S70 (TriQ.reg D70a Q70a ?_)
 refine And.intro rfl (Exists.intro (.bool true) (And.intro (by kernel_rfl) ?_))
 refine TriQ.cond C70 (t := true) rfl (fun _ => TriQ.reg D70b Q70b ?_) (fun e => by cases e)
 refine And.intro rfl (Exists.intro (.agg zc78.toArray) (And.intro (by kernel_rfl) ?_))
 obtain ⟨_, ea, la, ga⟩ := id hb
 refine Exists.intro _ (Exists.intro _ (Exists.intro _ (And.intro ga (And.intro lb (And.intro rfl (And.intro rfl (And.intro (by rw [hl]; decide) ?_)))))))
 intro H7 hH7
 obtain ⟨k7, n7, c7⟩ := up_facts hb hH7
 have hc7 := k7.cl hc (by simp; omega)
 obtain ⟨_, eb, l2, gb⟩ := id hc7
 refine Exists.intro _ (Exists.intro _ (Exists.intro _ (And.intro gb (And.intro lc (And.intro rfl (And.intro rfl (And.intro (by simp) ?_)))))))
 intro H8 hH8
 obtain ⟨k8, n8, c8⟩ := up_facts hc7 hH8
 have c7 : Cl H7 b zc78 := by
  have e : putRow cs 0 zc78 = zc78 := by
   match cs, hl with
   | [_, _, _, _, _, _, _, _, _, _], _ => rfl
  rw [← e]; exact c7
 have c8 : Cl H8 c [iv 4] := c8
 exact ⟨.inl rfl, rfl, k8.cl c7 (by simp; omega), c8, (k7.mono (by simp)).trans (k8.mono (by simp))⟩
set_option maxRecDepth 100000 in
set_option maxHeartbeats 4000000 in
theorem follow_ok {g : Fh} {f sb cap : Nat} {ka : Option Addr} {kc : Nat} {us : List Int} (hat : g.At f H) (v : g.Vd) (hks : Sl H ka g.bn kc (spc g.ws)) (ho : IsOrd us g.bn) (hfx : Fx H sb (ints us)) (hcap : g.bn ≤ cap) (hlo : lo ≤ H.next) :
  ∃ w H', FnX Try.prog kn lo 53 [.agg (g.vw ka kc).toArray, slv sb g.bn cap] H w H' ∧ Keep H H' [] ∧ ((g.can (no us) (g.bn - 1) = true ∧ ∃ bb, w = .tuple #[.agg (slv sb g.bn cap :: slv bb g.bn g.bn :: (g.st (no us) (g.bn - 1)).u).toArray, iv 0] ∧ H.next ≤ bb ∧ Sc H' bb (flc (g.fs (no us) g.bn))) ∨ (g.can (no us) (g.bn - 1) = false ∧ w = .tuple #[.agg zc78.toArray, iv 4])) := by
 refine fnX_of_triE (P := Try.prog) (kn := kn) (lo := lo) (args := [.agg (g.vw ka kc).toArray, slv sb g.bn cap]) (H := H) (Q := fun w H' => Keep H H' [] ∧ ((g.can (no us) (g.bn - 1) = true ∧ ∃ bb, w = .tuple #[.agg (slv sb g.bn cap :: slv bb g.bn g.bn :: (g.st (no us) (g.bn - 1)).u).toArray, iv 0] ∧ H.next ≤ bb ∧ Sc H' bb (flc (g.fs (no us) g.bn))) ∨ (g.can (no us) (g.bn - 1) = false ∧ w = .tuple #[.agg zc78.toArray, iv 4]))) Try.func53 B53 (by rw [N53]; simp) ?_
 rw [N53, Z53]
 have hfl := hat.le; have hbn := v.n; have lsb := hfx.lt
 have fk2 : ∀ x, ka = some ⟨x, 0, none⟩ → x < H.next := hks.old
 refine TriR.seqRR S53a (triR_reg D53a P53a ?_)
 refine Or.inl ?_
 intro H1 hH1; obtain ⟨k1, n1, c1⟩ := new_facts hH1; clear hH1
 refine Or.inl ?_
 intro H2 hH2; obtain ⟨k2, n2, c2⟩ := new_facts hH2; clear hH2
 refine Or.inl ?_
 intro H3 hH3; obtain ⟨k3, n3, c3⟩ := new_facts hH3; clear hH3
 refine TriR.seqRR S53b (triR_reg D53b P53b ?_)
 refine Or.inl ?_
 refine And.intro rfl (Exists.intro (.func (.func 70) #[] #[pt H1.next, pt H2.next]) (And.intro (by kernel_rfl) ?_))
 refine And.intro rfl ?_
 have hk := k1.trans (k2.trans k3)
 have c1 : Cl H3 H.next [.slice g.ba g.bn g.bcap, .slice g.ra g.rn g.rcap, iv g.inlet, iv g.reserve, iv g.winds, .slice ka g.bn kc] := k3.cl (k2.cl c1 (by simp)) (by simp)
 have c2 : Cl H3 H1.next zc78 := k3.cl c2 (by simp)
 have hat := hat.keep hk (by simp)
 have hks := hk.sl0 hks
 have hfx := hk.fx hfx (by simp)
 refine TriR.of (wC_lv V53 ?_)
 obtain ⟨H4, hH4⟩ : ∃ h, H3.new (.cells (flc (List.replicate g.bn Fs.z)) 52 false) = h := ⟨_, rfl⟩
 refine And.intro rfl (Or.inr (And.intro (by kernel_rfl) (Exists.intro _ (Exists.intro H4 (Exists.intro _ (And.intro ((heap_make34 (m := g.bn) rfl rfl (by omega)).trans (by rw [← hH4])) (And.intro (fun b e => by cases e) ?_)))))))
 obtain ⟨kH4, nH4, _⟩ := new_facts hH4; have hsc := new_sc hH4; clear hH4
 have mH4 := kH4.1
 have hk := hk.trans kH4
 have hat := hat.keep kH4 (by simp)
 have hks := kH4.sl0 hks
 have hfx := kH4.fx hfx (by simp)
 have c1 := kH4.cl c1 (by simp)
 have c2 := kH4.cl c2 (by simp)
 have c3 := kH4.cl c3 (by simp)
 refine And.intro rfl (Exists.intro (.agg #[.slice (some ⟨sb, 0, none⟩) g.bn cap, .slice (some ⟨H3.next, 0, none⟩) 0 g.bn, iv 0, iv 0, iv 0, iv 0, iv 0, iv 0, iv 0, iv 0]) (And.intro (by kernel_rfl) ?_))
 obtain ⟨_, eH5, lH5, gH5⟩ := id c2
 refine Exists.intro _ (Exists.intro _ (Exists.intro _ (And.intro gH5 (And.intro (by omega) (And.intro rfl (And.intro rfl (And.intro (by simp) ?_)))))))
 intro H5 hH5; obtain ⟨kH5, nH5, sH5⟩ := up_facts c2 hH5; clear hH5
 have mH5 := kH5.1
 have hk := hk.new kH5 (fun b hb => by simp at hb ⊢; omega)
 have hat := hat.keep kH5 (fun x hx => by first | (simp at hx; done) | (simp at hx; omega))
 have hks := kH5.sl hks (fun b e => by have := fk2 b e; first | (simp; done) | (simp; omega))
 have hfx := kH5.fx hfx (by simp <;> omega)
 have c1 := kH5.cl c1 (by simp <;> omega)
 have c3 := kH5.cl c3 (by simp <;> omega)
 have hsc := kH5.sc hsc (by simp <;> omega)
 have c2 : Cl H5 H1.next [.slice (some ⟨sb, 0, none⟩) g.bn cap, .slice (some ⟨H3.next, 0, none⟩) 0 g.bn, iv 0, iv 0, iv 0, iv 0, iv 0, iv 0, iv 0, iv 0] := sH5
 refine wD_seq ?_
 refine wD_lda (b := H.next) (o := 0) rfl c1.rd (show row 6 _ _ = some [.slice g.ba g.bn g.bcap, .slice g.ra g.rn g.rcap, iv g.inlet, iv g.reserve, iv g.winds, .slice ka g.bn kc] from rfl) ?_
 refine wD_mov (v := .slice (some ⟨sb, 0, none⟩) g.bn cap) rfl ?_
 refine wD_idx (b := sb) (o := 0) (k := 0) (j := 0) rfl rfl (by decide) (by omega) ?_
 refine wD_ld (b := sb) (o := 0 + 0 * 1) (v := iv (((no us).getD 0 0 : Nat) : Int)) rfl hfx.rd (ints_at (ho.at (by omega)).1) ?_
 obtain ⟨H6, fH6, kH6, cH6, dH6⟩ := begin_ok (kn := kn) (lo := lo) (H := H5) (i := (no us).getD 0 0) (b := H1.next) (bb := H3.next) (ov := slv sb g.bn cap) (e := (((no us).getD 0 0 : Nat) : Int)) c2 hat v (ho.at (by omega)).2 hks hsc (by simp) (by omega) (by omega) (by omega) (by omega) (by omega) (by omega) (fun x e => by have := fk2 x e; omega) rfl (by omega)
 refine wD_callf (vs := [.agg #[.slice g.ba g.bn g.bcap, .slice g.ra g.rn g.rcap, iv g.inlet, iv g.reserve, iv g.winds, .slice ka g.bn kc], pt H1.next, iv (((no us).getD 0 0 : Nat) : Int)]) rfl (callX_args fH6) ?_
 have mH6 := kH6.1
 have hk := hk.new kH6 (fun b hb => by simp at hb ⊢; omega)
 have hat := hat.keep kH6 (fun x hx => by first | (simp at hx; done) | (simp at hx; omega))
 have hks := kH6.sl hks (fun b e => by have := fk2 b e; first | (simp; done) | (simp; omega))
 have hfx := kH6.fx hfx (by simp <;> omega)
 have c1 := kH6.cl c1 (by simp <;> omega)
 have c3 := kH6.cl c3 (by simp <;> omega)
 have c2 : Cl H6 H1.next (slv sb g.bn cap :: slv H3.next 1 g.bn :: (g.st (no us) 0).u) := cH6
 have hsc : Sc H6 H3.next (flc (g.fs (no us) 1 ++ List.replicate (g.bn - 1) Fs.z)) := by rw [flc_put (by simp; omega)] at dH6; exact (grow_set (l := []) (k := 0) (n := g.bn) rfl (by omega)) ▸ dH6
 refine wD_end (by repeat' first | exact True.intro | exact (fun h => h) | refine And.intro ?_ ?_ | (intro h; have h : (_ : Nat) = _ := h; omega)) ?_
 obtain ⟨ta, tc, e20, hta⟩ := heap_tail (lo := lo) hfx (m := g.bn) (cap := cap) (by omega) hcap
 refine And.intro rfl (Or.inr (And.intro (by kernel_rfl) (Exists.intro _ (Exists.intro _ (Exists.intro _ (And.intro (e20 _ _ _ _ _ _ _ rfl rfl) (And.intro (fun b e => by cases e; exact hfx.lt) ?_)))))))
 obtain ⟨zb, hzb⟩ : ∃ z, z = H3.next := ⟨_, rfl⟩
 have lzb : H2.next < zb ∧ zb < H6.next := by rw [hzb]; omega
 rw [← hzb] at hsc c2
 refine loop_lv E53_1 V53l (fun j : Nat => [(2, pt H.next), (4, pt H1.next), (5, pt H2.next), (20, .slice ta (g.bn - 1) tc), (21, iv ((g.bn - 1 : Nat) : Int)), (22, iv (j : Int))])
  (fun q j H' => j + q = g.bn - 1 ∧ Keep H6 H' [H1.next, zb] ∧ Cl H' H1.next (slv sb g.bn cap :: slv zb (j + 1) g.bn :: (g.st (no us) j).u) ∧ Sc H' zb (flc (g.fs (no us) (j + 1) ++ List.replicate (g.bn - (j + 1)) Fs.z)) ∧ g.can (no us) j = true) (g.bn - 1) 0 ⟨by omega, Keep.refl _ _, c2, hsc, rfl⟩ ⟨rfl, rfl, rfl, rfl, rfl, rfl, trivial⟩ ?_
 rintro q j L1 ⟨hjq, hki, c2, hsc, hcan⟩
 have hk := hk.new hki (fun b hb => by simp at hb ⊢; omega)
 have hat := hat.keep hki (fun x hx => by first | (simp at hx; done) | (simp at hx; omega))
 have hks := hki.sl hks (fun b e => by have := fk2 b e; first | (simp; done) | (simp; omega))
 have hfx := hki.fx hfx (by simp <;> omega)
 have c1 := hki.cl c1 (by simp <;> omega)
 have c3 := hki.cl c3 (by simp <;> omega)
 have kb := hki
 have mi := hki.1
 refine And.intro (fun q1 => ?_) (fun q1 => ?_)
 ·have q1 : (j : Int) < ((g.bn - 1 : Nat) : Int) := of_decide_eq_true q1
  have hj : j < g.bn - 1 := by omega
  obtain rfl := hta (by omega)
  refine Exists.intro j (And.intro rfl (And.intro hj ?_))
  refine Exists.intro _ (Exists.intro _ (And.intro hfx.rd.of (And.intro (show _ = some (iv (((no us).getD (j + 1) 0 : Nat) : Int)) from by have q := ints_at (ho.at (show j + 1 < g.bn by omega)).1; rw [show 1 + j * 1 = 0 + (j + 1) * 1 by omega]; exact q) ?_)))
  refine tri_reg D53p P53p ?_
  refine Or.inl (Exists.intro _ (Exists.intro _ (And.intro c1.of (And.intro (show row 6 _ _ = some [.slice g.ba g.bn g.bcap, .slice g.ra g.rn g.rcap, iv g.inlet, iv g.reserve, iv g.winds, .slice ka g.bn kc] from rfl) ?_))))
  refine Or.inl ?_
  have hin := (Fh.st_in v hat ho j (by omega) hcan).mono (show (j : Int) + 1 ≤ 7 by omega)
  have hbed := Fh.st_bed g (no us) j
  have go := goOn_ok (kn := kn) (lo := lo) (H := L1) (i := (no us).getD (j + 1) 0) (x := g.st (no us) j) (e := (((no us).getD (j + 1) 0 : Nat) : Int)) c2 (by omega) (by rw [Nat.add_sub_cancel, List.getElem?_append_left (by rw [Fh.fs_len]; omega)]; exact Fh.fs_at (by omega)) (by rw [hbed]; exact (ho.at (by omega)).2) hin hat v (ho.at (by omega)).2 hks hsc (by simp [Fh.fs_len]; omega) (by omega) (by omega) (by omega) (by omega) (by omega) (by omega) (by omega) (fun x e => by have := fk2 x e; omega) rfl (by omega)
  rw [hbed] at go
  rcases go with ⟨_, H9, f9, rfl, hr, k9, c9, d9⟩ | ⟨_, H9, f9, rfl, hr, k9⟩
  ·refine Or.inl (Exists.intro _ (Exists.intro _ (And.intro (callX_args f9) ?_)))
   refine And.intro rfl ?_
   have m9 := k9.1
   have hk := hk.new k9 (fun b hb => by simp at hb ⊢; omega)
   have hat := hat.keep k9 (fun x hx => by first | (simp at hx; done) | (simp at hx; omega))
   have hks := k9.sl hks (fun b e => by have := fk2 b e; first | (simp; done) | (simp; omega))
   have hfx := k9.fx hfx (by simp <;> omega)
   have c1 := k9.cl c1 (by simp <;> omega)
   have c3 := k9.cl c3 (by simp <;> omega)
   have kb := kb.new k9 (fun b hb => by simp at hb ⊢; omega)
   have hcn : g.can (no us) (j + 1) = true := by rw [Fh.can_step, hcan, decide_eq_true hr]; rfl
   have c2 : Cl H9 H1.next (slv sb g.bn cap :: slv zb (j + 1 + 1) g.bn :: (g.st (no us) (j + 1)).u) := c9
   have hsc : Sc H9 zb (flc (g.fs (no us) (j + 1 + 1) ++ List.replicate (g.bn - (j + 1 + 1)) Fs.z)) := by rw [flc_put (by simp [Fh.fs_len]; omega), grow_set (Fh.fs_len _ _ _) (by omega)] at d9; rw [Fh.fs_step]; exact d9
   refine And.intro (show InR ((j : Int) + 1) from ⟨by omega, by omega⟩) ?_
   exact ⟨q - 1, j + 1, by omega, ⟨by omega, kb, c2, hsc, hcn⟩, rfl, rfl, rfl, rfl, rfl, rfl, trivial⟩
  ·refine Or.inr (Exists.intro _ (Exists.intro _ (And.intro (callP_args f9) ?_)))
   refine And.intro rfl ?_
   have m9 := k9.1
   have hk := hk.trans k9
   have hat := hat.keep k9 (by simp)
   have hks := k9.sl0 hks
   have hfx := k9.fx hfx (by simp)
   have c1 := k9.cl c1 (by simp)
   have c3 := k9.cl c3 (by simp)
   have kb := kb.trans (k9.mono (by simp))
   have hno : g.can (no us) (g.bn - 1) = false := by
    unfold Fh.can
    rw [List.all_eq_false]
    exact ⟨j, List.mem_range.2 hj, fun e => absurd hr (of_decide_eq_true e)⟩
   have c9 := k9.cl c2 (by simp)
   obtain ⟨H10, f10, d10, e10, k10⟩ := def70_some (kn := kn) (lo := lo) c9 rfl c3 (by omega) (by omega) (by omega)
   refine ⟨70, #[pt H1.next, pt H2.next], rfl, Or.inr ⟨flumeV, rfl, H10, f10, [.agg zc78.toArray, iv 4], res_cc rfl rfl a78 i78s rfl a31 d10 e10, ?_, Or.inr ⟨hno, rfl⟩⟩⟩
   exact hk.new k10 (fun x hx => .inr (by simp at hx; omega))
 ·have q1 : ¬ ((j : Int) < ((g.bn - 1 : Nat) : Int)) := of_decide_eq_false q1
  have hj : j = g.bn - 1 := by omega
  subst hj
  have hb1 : g.bn - 1 + 1 = g.bn := by omega
  rw [hb1] at c2 hsc
  rw [Nat.sub_self, List.replicate_zero, List.append_nil] at hsc
  have c2 : Cl L1 H1.next [.slice (some ⟨sb, 0, none⟩) g.bn cap, .slice (some ⟨zb, 0, none⟩) g.bn g.bn, iv ((g.st (no us) (g.bn - 1)).t1), iv ((g.st (no us) (g.bn - 1)).t2), iv ((g.st (no us) (g.bn - 1)).l1), iv ((g.st (no us) (g.bn - 1)).l2), iv ((g.st (no us) (g.bn - 1)).s1), iv ((g.st (no us) (g.bn - 1)).s2), iv ((g.st (no us) (g.bn - 1)).r1), iv ((g.st (no us) (g.bn - 1)).r2)] := c2
  refine Exists.intro _ (Exists.intro _ (And.intro c2.of (And.intro (show row 10 _ _ = some [.slice (some ⟨sb, 0, none⟩) g.bn cap, .slice (some ⟨zb, 0, none⟩) g.bn g.bn, iv ((g.st (no us) (g.bn - 1)).t1), iv ((g.st (no us) (g.bn - 1)).t2), iv ((g.st (no us) (g.bn - 1)).l1), iv ((g.st (no us) (g.bn - 1)).l2), iv ((g.st (no us) (g.bn - 1)).s1), iv ((g.st (no us) (g.bn - 1)).s2), iv ((g.st (no us) (g.bn - 1)).r1), iv ((g.st (no us) (g.bn - 1)).r2)] from rfl) ?_)))
  obtain ⟨_, eH7, lH7, gH7⟩ := id c2
  refine Exists.intro _ (Exists.intro _ (Exists.intro _ (And.intro gH7 (And.intro (by omega) (And.intro rfl (And.intro rfl (And.intro (by simp) ?_)))))))
  intro H7 hH7; obtain ⟨kH7, nH7, sH7⟩ := up_facts c2 hH7; clear hH7
  have mH7 := kH7.1
  have hk := hk.new kH7 (fun b hb => by simp at hb ⊢; omega)
  have hat := hat.keep kH7 (fun x hx => by first | (simp at hx; done) | (simp at hx; omega))
  have hks := kH7.sl hks (fun b e => by have := fk2 b e; first | (simp; done) | (simp; omega))
  have hfx := kH7.fx hfx (by simp <;> omega)
  have c1 := kH7.cl c1 (by simp <;> omega)
  have c3 := kH7.cl c3 (by simp <;> omega)
  have hsc := kH7.sc hsc (by simp <;> omega)
  have c2 : Cl H7 H1.next [.slice (some ⟨sb, 0, none⟩) g.bn cap, .slice (some ⟨zb, 0, none⟩) g.bn g.bn, iv ((g.st (no us) (g.bn - 1)).t1), iv ((g.st (no us) (g.bn - 1)).t2), iv ((g.st (no us) (g.bn - 1)).l1), iv ((g.st (no us) (g.bn - 1)).l2), iv ((g.st (no us) (g.bn - 1)).s1), iv ((g.st (no us) (g.bn - 1)).s2), iv ((g.st (no us) (g.bn - 1)).r1), iv ((g.st (no us) (g.bn - 1)).r2)] := sH7
  obtain ⟨_, eH8, lH8, gH8⟩ := id c3
  refine Exists.intro _ (Exists.intro _ (Exists.intro _ (And.intro gH8 (And.intro (by omega) (And.intro rfl (And.intro rfl (And.intro (by simp) ?_)))))))
  intro H8 hH8; obtain ⟨kH8, nH8, sH8⟩ := up_facts c3 hH8; clear hH8
  have mH8 := kH8.1
  have hk := hk.new kH8 (fun b hb => by simp at hb ⊢; omega)
  have hat := hat.keep kH8 (fun x hx => by first | (simp at hx; done) | (simp at hx; omega))
  have hks := kH8.sl hks (fun b e => by have := fk2 b e; first | (simp; done) | (simp; omega))
  have hfx := kH8.fx hfx (by simp <;> omega)
  have c1 := kH8.cl c1 (by simp <;> omega)
  have hsc := kH8.sc hsc (by simp <;> omega)
  have c2 := kH8.cl c2 (by simp <;> omega)
  have c3 : Cl H8 H2.next [iv 0] := sH8
  exact ⟨70, #[pt H1.next, pt H2.next], rfl, Or.inl ⟨Or.inr rfl, H8, def70_none, _, res_cc rfl rfl a78 i78s rfl a31 c2 c3, hk, Or.inl ⟨hcan, zb, rfl, by omega, hsc⟩⟩⟩
end
end Go.Ax
/-
 Flood: newCourse (39), Times (16), Through (18) and what they call (44, 42) (written by program).
-/
namespace Go.Ax
open Go Go.RowKit Go.Proofs
structure Lf (H : Hp) (sa : Option Addr) (m cap : Nat) (us : List Int) : Prop where
 sl : Sl H sa m cap (ints us)
 len : us.length = m
 fx : ∀ b, sa = some ⟨b, 0, none⟩ → Fx H b (ints us)
theorem Lf.old {H : Hp} {sa : Option Addr} {m cap : Nat} {us : List Int} (h : Lf H sa m cap us) (b : Nat) (e : sa = some ⟨b, 0, none⟩) : b < H.next := (h.fx b e).lt
def Fh.la (g : Fh) (us : List Int) : Fs := g.st (no us) (g.bn - 1)
noncomputable def Fh.er (g : Fh) (us : List Int) : Int := bif g.ok then (bif ordB us g.bn then (bif g.can (no us) (g.bn - 1) then (bif decide (g.reserve < (g.la us).t2) then 10 else 0) else 4) else 2) else 1
theorem Fh.er4 {g : Fh} {us : List Int} (h : g.ok = true) (h2 : ordB us g.bn = true) (h3 : g.can (no us) (g.bn - 1) = false) : g.er us = 4 := by unfold Fh.er; rw [h, h2, h3]; rfl
theorem Fh.er10 {g : Fh} {us : List Int} (h : g.ok = true) (h2 : ordB us g.bn = true) (h3 : g.can (no us) (g.bn - 1) = true) (h4 : g.reserve < (g.la us).t2) : g.er us = 10 := by unfold Fh.er; rw [h, h2, h3, decide_eq_true h4]; rfl
structure Fh.Good (g : Fh) (us : List Int) : Prop where
 ok : g.ok = true
 ord : IsOrd us g.bn
 can : g.can (no us) (g.bn - 1) = true
 en : (g.la us).t2 ≤ g.reserve
theorem Fh.er0 {g : Fh} {us : List Int} (h : g.Good us) : g.er us = 0 := by unfold Fh.er; rw [h.ok, ordB_is h.ord, h.can, decide_eq_false (by have := h.en; omega)]; rfl
theorem Lf.at {H : Hp} {sa : Option Addr} {m cap : Nat} {us : List Int} (h : Lf H sa m cap us) {n : Nat} (ho : IsOrd us n) (hn : 1 ≤ n) : ∃ b, sa = some ⟨b, 0, none⟩ ∧ m = n ∧ n ≤ cap ∧ Fx H b (ints us) := by
 have hm : m = n := by have := h.len; have := ho.len; omega
 rcases h.sl with ⟨_, h0, _⟩ | ⟨b, e, _, hc⟩
 ·omega
 ·exact ⟨b, e, hm, by omega, h.fx b e⟩
def cntD (l : List Fs) (m : Int) : Nat := l.countP fun x => decide (x.d2 ≤ m)
section
variable {kn : FuncId → Option Bool} {lo : Nat} {H : Hp}
theorem enough_ok {g : Fh} {v1 v2 kv : Value} {t1 t2 l1 l2 s1 s2 r1 r2 : Int} : ∃ H', FnX Try.prog kn lo 44 [.agg #[.slice g.ba g.bn g.bcap, .slice g.ra g.rn g.rcap, iv g.inlet, iv g.reserve, iv g.winds, kv], .agg #[v1, v2, iv t1, iv t2, iv l1, iv l2, iv s1, iv s2, iv r1, iv r2]] H (.bool (decide (t2 ≤ g.reserve))) H' ∧ Keep H H' [] := by
 have key := fnX_low (kn := kn) (lo := lo) (H := H) (args := [.agg #[.slice g.ba g.bn g.bcap, .slice g.ra g.rn g.rcap, iv g.inlet, iv g.reserve, iv g.winds, kv], .agg #[v1, v2, iv t1, iv t2, iv l1, iv l2, iv s1, iv s2, iv r1, iv r2]]) (Q := fun w H' => w = .bool (decide (t2 ≤ g.reserve)) ∧ Keep H H' []) Try.func44 B44 N44 Z44 L44 (by simp) ?_
 ·obtain ⟨w, H', h, rfl, q⟩ := key; exact ⟨H', h, q⟩
 have hk := Keep.refl H []
 intro H1 hH1; obtain ⟨kH1, nH1, c1⟩ := new_facts hH1; clear hH1
 have mH1 := kH1.1
 have hk := hk.trans kH1
 have c1 : Cl H1 H.next [.slice g.ba g.bn g.bcap, .slice g.ra g.rn g.rcap, iv g.inlet, iv g.reserve, iv g.winds, kv] := c1
 intro H2 hH2; obtain ⟨kH2, nH2, c2⟩ := new_facts hH2; clear hH2
 have mH2 := kH2.1
 have hk := hk.trans kH2
 have c1 := kH2.cl c1 (by simp)
 have c2 : Cl H2 H1.next [v1, v2, iv t1, iv t2, iv l1, iv l2, iv s1, iv s2, iv r1, iv r2] := c2
 refine Exists.intro _ (Exists.intro _ (And.intro c2.of (And.intro (show _ = some (iv t2) from rfl) ?_)))
 refine Exists.intro _ (Exists.intro _ (And.intro c1.of (And.intro (show _ = some (iv g.reserve) from rfl) ?_)))
 exact And.intro trivial (Exists.intro _ (And.intro rfl ⟨rfl, hk⟩))
end
end Go.Ax
/-! Steps of plain regions, one theorem each (written by program, out of those of drawn regions). -/
namespace Go.Ax
open Go Go.RowKit
section
variable {P : Program} {kn : FuncId → Option Bool} {lo n : Nat} {r : List RO} {S : Rg} {H : Hp} {K : Rg → Hp → Prop} {d : Option Nat} {x y : Operand} {rd : Bool} {a b : Int}
theorem wN_seq {ops : List RO} {c : RC} {K : Exit → Rg → Hp → Prop} (h : wOps P kn lo n ops S H fun S' H' => wC P kn lo n rd c S' H' K) : wC P kn lo n rd (.seq (.reg ops) c) S H K := h
theorem wN_reg {ops : List RO} {K : Exit → Rg → Hp → Prop} (h : wOps P kn lo n ops S H fun S' H' => K .normal S' H') : wC P kn lo n rd (.reg ops) S H K := h
theorem wN_skip {K : Exit → Rg → Hp → Prop} (h : K .normal S H) : wC P kn lo n rd .skip S H K := h
theorem wN_blk {id : Nat} {ops : List RO} {K : Exit → Rg → Hp → Prop} (h : wOps P kn lo n ops S H fun S' H' => K .normal S' H') : wC P kn lo n rd (.block id (.reg ops)) S H K := h
theorem wN_end (h : K S H) : wOps P kn lo n [] S H K := h
theorem wN_box {e : TypeId} {v : Value} (hx : evS S x = some v) (h : ∀ H1, Keep H H1 [] → H1.next = H.next + 1 → Cl H1 H.next v.cells.toList → wOps P kn lo n r (putS S d (.pointer (some ⟨H.next, 0, none⟩))) H1 K) : wOps P kn lo n (⟨d, none, .box e x⟩ :: r) S H K := by
 simp only [wOps, wRO, wRI, hx]
 intro H1 hH1
 obtain ⟨k1, n1, c1⟩ := new_facts hH1
 exact h H1 k1 n1 c1
theorem wN_idxa {b o len size k : Nat} {kd : IntKind} {j : Int} (hx : evS S x = some (.pointer (some ⟨b, o, none⟩))) (hy : evS S y = some (.int kd j)) (hj : j = (k : Int)) (hk : k < len) (h : wOps P kn lo n r (putS S d (.pointer (some ⟨b, o + k * size, none⟩))) H K) : wOps P kn lo n (⟨d, none, .idxa x y len size⟩ :: r) S H K := by
 simp only [wOps, wRO, wRI, hx, hy]; exact ⟨k, hj, hk, h⟩
theorem wN_mov {v : Value} (hx : evS S x = some v) (h : wOps P kn lo n r (putS S d v) H K) : wOps P kn lo n (⟨d, none, .mov x⟩ :: r) S H K := by
 show match evS S x with | some v => wOps P kn lo n r (putS S d v) H K | none => False
 rw [hx]; exact h
theorem wN_addo {b o off : Nat} (hx : evS S x = some (.pointer (some ⟨b, o, none⟩))) (h : wOps P kn lo n r (putS S d (.pointer (some ⟨b, o + off, none⟩))) H K) : wOps P kn lo n (⟨d, none, .addo x off⟩ :: r) S H K := by
 simp only [wOps, wRO, wRI, hx]; exact h
theorem wN_ld {b o m : Nat} {cs : List Value} {v : Value} (hx : evS S x = some (.pointer (some ⟨b, o, none⟩))) (hc : Rd H b cs) (hv : cs[o]? = some v) (h : wOps P kn lo n r (putS S d v) H K) : wOps P kn lo n (⟨d, none, .ld x m⟩ :: r) S H K := by
 simp only [wOps, wRO, wRI, hx]; exact ⟨cs, v, hc.of, hv, h⟩
theorem wN_pur {o : Oper} {v : Value} (hd : defd S o.op.operands.toList = true) (hv : pureOp P (frS n S) o = some v) (h : wOps P kn lo n r (putS S d v) H K) : wOps P kn lo n (⟨d, none, .pur o⟩ :: r) S H K := ⟨hd, v, hv, h⟩
theorem wN_sta {b o m : Nat} {cs : List Value} {v : Value} (hx : evS S x = some (.pointer (some ⟨b, o, none⟩))) (hy : evS S y = some v) (hc : Cl H b cs) (hl : lo ≤ b) (hm : v.cells.toList.length = m) (h1 : v.cells.toList.all one = true) (ho : o + m ≤ cs.length)
  (h : ∀ H1, Keep H H1 [b] → H1.next = H.next → Cl H1 b (putRow cs o v.cells.toList) → wOps P kn lo n r (putS S d undef) H1 K) : wOps P kn lo n (⟨d, none, .sta x y m⟩ :: r) S H K := by
 simp only [wOps, wRO, wRI, hx, hy]
 obtain ⟨_, e, l, g⟩ := id hc
 exact ⟨cs, e, l, g, hl, hm, h1, ho, fun H1 hH1 => by obtain ⟨a, b, c⟩ := up_facts hc hH1; exact h H1 a b c⟩
theorem wN_lda {b o m : Nat} {cs q : List Value} (hx : evS S x = some (.pointer (some ⟨b, o, none⟩))) (hc : Rd H b cs) (hv : row m cs o = some q) (h : wOps P kn lo n r (putS S d (.agg q.toArray)) H K) : wOps P kn lo n (⟨d, none, .lda x m⟩ :: r) S H K := by
 simp only [wOps, wRO, wRI, hx]; exact ⟨cs, q, hc.of, hv, h⟩
theorem wN_len {a : Option Addr} {m c : Nat} (hx : evS S x = some (.slice a m c)) (h : wOps P kn lo n r (putS S d (.int .i64 (m : Int))) H K) : wOps P kn lo n (⟨d, none, .len x⟩ :: r) S H K := by
 simp only [wOps, wRO, wRI, hx]; exact h
theorem wN_add {a b : Int} (hx : evS S x = some (.int .i64 a)) (hy : evS S y = some (.int .i64 b)) (h2 : InR (a + b)) (h : wOps P kn lo n r (putS S d (.int .i64 (a + b))) H K) : wOps P kn lo n (⟨d, none, .ari .add x y⟩ :: r) S H K := by
 simp only [wOps, wRO, wRI, hx, hy]; exact ⟨h2, h⟩
theorem wN_idx {b o len cap size k : Nat} {kd : IntKind} {j : Int} (hx : evS S x = some (.slice (some ⟨b, o, none⟩) len cap)) (hy : evS S y = some (.int kd j)) (hj : j = (k : Int)) (hk : k < len) (h : wOps P kn lo n r (putS S d (.pointer (some ⟨b, o + k * size, none⟩))) H K) : wOps P kn lo n (⟨d, none, .idx x y size⟩ :: r) S H K := by
 simp only [wOps, wRO, wRI, hx, hy]; exact ⟨k, hj, hk, h⟩
theorem wN_callf {c : Call} {t : Target} {vs : List Value} {v : Value} {H' : Hp} (ht : targetS S c = some (t, vs)) (hc : CallsX P kn lo t vs H v H') (h : wOps P kn lo n r (putS S d v) H' K) : wOps P kn lo n (⟨d, none, .call c true⟩ :: r) S H K := by
 simp only [wOps, wRO, wRI, ht, Bool.not_true, Bool.false_and, cond_false, cond_true]; exact ⟨v, H', hc, h⟩
theorem wN_mul {a b : Int} (hx : evS S x = some (.int .i64 a)) (hy : evS S y = some (.int .i64 b)) (h2 : InR (a * b)) (h : wOps P kn lo n r (putS S d (.int .i64 (a * b))) H K) : wOps P kn lo n (⟨d, none, .ari .mul x y⟩ :: r) S H K := by
 simp only [wOps, wRO, wRI, hx, hy]; exact ⟨h2, h⟩
theorem wN_sub {a b : Int} (hx : evS S x = some (.int .i64 a)) (hy : evS S y = some (.int .i64 b)) (h2 : InR (a - b)) (h : wOps P kn lo n r (putS S d (.int .i64 (a - b))) H K) : wOps P kn lo n (⟨d, none, .ari .sub x y⟩ :: r) S H K := by
 simp only [wOps, wRO, wRI, hx, hy]; exact ⟨h2, h⟩
theorem wN_g {g : Nat} {t : Bool} {ri : RI} (hg : lk S g = some (.bool t)) (h : wOps P kn lo n (⟨d, none, ri⟩ :: r) S H K) : wOps P kn lo n (⟨d, some (g, t), ri⟩ :: r) S H K := by
 cases t <;> (simp only [wOps, wRO, hg] at h ⊢; exact h)
theorem wN_mm {small : Bool} {a b : Int} (hx : evS S x = some (.int .i64 a)) (hy : evS S y = some (.int .i64 b)) (h : wOps P kn lo n r (putS S d (.int .i64 (bif small then min a b else max a b))) H K) : wOps P kn lo n (⟨d, none, .mm small x y⟩ :: r) S H K := by
 simp only [wOps, wRO, wRI, hx, hy]; exact h
theorem wN_st {b o : Nat} {cs : List Value} {v : Value} (hx : evS S x = some (.pointer (some ⟨b, o, none⟩))) (hy : evS S y = some v) (hc : Cl H b cs) (hl : lo ≤ b) (hv : v.cells.toList = [v]) (h1 : one v = true) (ho : o < cs.length)
  (h : ∀ H1, Keep H H1 [b] → H1.next = H.next → Cl H1 b (cs.set o v) → wOps P kn lo n r (putS S d undef) H1 K) : wOps P kn lo n (⟨d, none, .st x y⟩ :: r) S H K := by
 simp only [wOps, wRO, wRI, hx, hy]
 obtain ⟨_, e, l, g⟩ := id hc
 exact ⟨cs, e, l, g, hl, hv, h1, ho, fun H1 hH1 => by obtain ⟨a, b, c⟩ := up_facts hc hH1; exact h H1 a b c⟩
theorem wN_gs {g : Nat} {t : Bool} {ri : RI} (hg : lk S g = some (.bool (!t))) (h : wOps P kn lo n r (putS S d undef) H K) : wOps P kn lo n (⟨d, some (g, t), ri⟩ :: r) S H K := by
 cases t <;> (simp only [wOps, wRO, hg, Bool.not_true, Bool.not_false, cond_true, cond_false] at h ⊢; exact h)
theorem wN_eql {x y : _} {a : Int} (hx : evS S x = some (.int .i64 a)) (hy : evS S y = some (.int .i64 a)) (h : wOps P kn lo n r (putS S d (.bool true)) H K) : wOps P kn lo n (⟨d, none, .cmpb .eql x y⟩ :: r) S H K := by
 simp only [wOps, wRO, wRI, hx, hy]; intro u hu; have : u = true := by rw [← hu]; simp
 subst this; exact h
theorem wN_alc {e : TypeId} {z : List Value} (h : ∀ H1, Keep H H1 [] → H1.next = H.next + 1 → Cl H1 H.next z → wOps P kn lo n r (putS S d (.pointer (some ⟨H.next, 0, none⟩))) H1 K) : wOps P kn lo n (⟨d, none, .alc e z⟩ :: r) S H K := by
 simp only [wOps, wRO, wRI]
 intro H1 hH1
 obtain ⟨k1, n1, c1⟩ := new_facts hH1
 exact h H1 k1 n1 c1
theorem wN_memh {o : Oper} {v : Value} {H' : Hp} {k : Kd} (hd : defd S o.op.operands.toList = true) (hp : pureOp P (frS n S) o = none) (hh : heapOp P lo (frS n S) H o = some (.val v H', k)) (hb : ∀ b, k = .read b → b < H.next)
  (h : wOps P kn lo n r (putS S d v) H' K) : wOps P kn lo n (⟨d, none, .mem o⟩ :: r) S H K := ⟨hd, .inr ⟨hp, v, H', k, hh, hb, h⟩⟩
theorem wN_c_lss (hx : evS S x = some (.int .i64 a)) (hy : evS S y = some (.int .i64 b)) (h : wOps P kn lo n r (putS S d (.bool (decide (a < b)))) H K) : wOps P kn lo n (⟨d, none, .cmp .lss x y⟩ :: r) S H K := by
 simp only [wOps, wRO, wRI, hx, hy]; exact h
theorem wN_b_lss (hx : evS S x = some (.int .i64 a)) (hy : evS S y = some (.int .i64 b)) (h : ∀ t, (decide (a < b)) = t → wOps P kn lo n r (putS S d (.bool t)) H K) : wOps P kn lo n (⟨d, none, .cmpb .lss x y⟩ :: r) S H K := by
 simp only [wOps, wRO, wRI, hx, hy]; exact h
theorem wN_b_leq (hx : evS S x = some (.int .i64 a)) (hy : evS S y = some (.int .i64 b)) (h : ∀ t, (decide (a ≤ b)) = t → wOps P kn lo n r (putS S d (.bool t)) H K) : wOps P kn lo n (⟨d, none, .cmpb .leq x y⟩ :: r) S H K := by
 simp only [wOps, wRO, wRI, hx, hy]; exact h
theorem wN_c_gtr (hx : evS S x = some (.int .i64 a)) (hy : evS S y = some (.int .i64 b)) (h : wOps P kn lo n r (putS S d (.bool (decide (a > b)))) H K) : wOps P kn lo n (⟨d, none, .cmp .gtr x y⟩ :: r) S H K := by
 simp only [wOps, wRO, wRI, hx, hy]; exact h
theorem wN_b_gtr (hx : evS S x = some (.int .i64 a)) (hy : evS S y = some (.int .i64 b)) (h : ∀ t, (decide (a > b)) = t → wOps P kn lo n r (putS S d (.bool t)) H K) : wOps P kn lo n (⟨d, none, .cmpb .gtr x y⟩ :: r) S H K := by
 simp only [wOps, wRO, wRI, hx, hy]; exact h
theorem wN_c_geq (hx : evS S x = some (.int .i64 a)) (hy : evS S y = some (.int .i64 b)) (h : wOps P kn lo n r (putS S d (.bool (decide (a ≥ b)))) H K) : wOps P kn lo n (⟨d, none, .cmp .geq x y⟩ :: r) S H K := by
 simp only [wOps, wRO, wRI, hx, hy]; exact h
theorem wN_c_eql (hx : evS S x = some (.int .i64 a)) (hy : evS S y = some (.int .i64 b)) (h : wOps P kn lo n r (putS S d (.bool (a == b))) H K) : wOps P kn lo n (⟨d, none, .cmp .eql x y⟩ :: r) S H K := by
 simp only [wOps, wRO, wRI, hx, hy]; exact h
theorem wN_b_eql (hx : evS S x = some (.int .i64 a)) (hy : evS S y = some (.int .i64 b)) (h : ∀ t, (a == b) = t → wOps P kn lo n r (putS S d (.bool t)) H K) : wOps P kn lo n (⟨d, none, .cmpb .eql x y⟩ :: r) S H K := by
 simp only [wOps, wRO, wRI, hx, hy]; exact h
theorem wN_c_neq (hx : evS S x = some (.int .i64 a)) (hy : evS S y = some (.int .i64 b)) (h : wOps P kn lo n r (putS S d (.bool (a != b))) H K) : wOps P kn lo n (⟨d, none, .cmp .neq x y⟩ :: r) S H K := by
 simp only [wOps, wRO, wRI, hx, hy]; exact h
theorem wN_gu {g : Nat} {t : Bool} {vs : Array Value} {ri : RI} (hg : lk S g = some (.tuple vs)) (h : wOps P kn lo n r (putS S d undef) H K) : wOps P kn lo n (⟨d, some (g, t), ri⟩ :: r) S H K := by
 simp only [wOps, wRO, hg]; exact h
end
end Go.Ax
/-
 Flood: the document's times (41), errors (40), Times (17), Through (19) (written by program).
-/
namespace Go.Ax
open Go Go.RowKit Go.Proofs
def Fh.lb (g : Fh) (o : List Nat) : Nat → Int × Int
 | 0 => (0, 0)
 | k + 1 => ((g.st o k).l1, (g.st o k).l2)
theorem Fh.lb_st (g : Fh) (o : List Nat) : ∀ k, (g.st o k).l1 = (g.lb o k).1 + g.k1 (o.getD k 0) ∧ (g.st o k).l2 = (g.lb o k).2 + g.k2 (o.getD k 0)
 | 0 => ⟨rfl, rfl⟩
 | _ + 1 => ⟨rfl, rfl⟩
theorem Fh.st_d (g : Fh) (o : List Nat) : ∀ k, (g.st o k).d1 = (g.st o k).f1 + (g.W (o.getD k 0)).1 ∧ (g.st o k).d2 = (g.st o k).f2 + (g.W (o.getD k 0)).2
 | 0 => ⟨rfl, rfl⟩
 | _ + 1 => ⟨rfl, rfl⟩
theorem Fh.st_r (g : Fh) (o : List Nat) : ∀ k, (g.st o k).r1 = g.need (o.getD k 0) - g.k2 (o.getD k 0) ∧ (g.st o k).r2 = g.need (o.getD k 0) - g.k1 (o.getD k 0)
 | 0 => ⟨rfl, rfl⟩
 | _ + 1 => ⟨rfl, rfl⟩
def bkv : Value → Option Nat
 | .slice (some ⟨b, _, _⟩) _ _ => some b
 | _ => none
theorem heap_append_out {P : Program} {lo : Nat} {H : Hp} {t0 t1 e ep : TypeId} {size k cap2 f : Nat} {a : Option Addr} {v : Value} {cs news : List Value} (he : sliceElem P t0 = some (e, size)) (ht : P.underlying t1 = some (.slice ep))
  (hs : Sl H a 1 cap2 news) (hl : news.length = 1 * size) (hz : 0 < size) (hone : news.all one = true) (hcl : cs.length = k * size) (hk : k < 1000) (ha : Acc lo f e H v k cs) (hlo : lo ≤ H.next) (hf : f ≤ H.next) :
  ∃ H1 kd, (∀ (n : Nat) (S : Rg) (d : Option Tmp) (x y : Operand) (ty : TypeId) (p : String), evS S x = some v → evS S y = some (.slice a 1 cap2) → heapOp P lo (frS n S) H ⟨d, .call ⟨.builtin .append, #[x, y], #[t0, t1]⟩, ty, p, #[], none⟩ = some (.val (.slice (some ⟨H.next, 0, none⟩) (k + 1) (k + 1)) H1, kd)) ∧ (kd = .heavy ∨ ∃ b, kd = .store b ∧ f ≤ b) ∧
   Acc lo f e H1 (.slice (some ⟨H.next, 0, none⟩) (k + 1) (k + 1)) (k + 1) (cs ++ news) ∧ Keep H H1 (bkv v).toList := by
 rcases ha with ⟨rfl, rfl, rfl⟩ | ⟨b, rfl, h0, hb, hlb, hn, hg⟩
 ·refine ⟨H.new (.cells news e true), .heavy, ?_, .inl rfl, ?_, (new_facts rfl).1.mono (by simp)⟩
  ·intro n S d x y ty p hx hy
   unfold heapOp
   simp only [evs, ev_frS, hx, hy, builtinV, List.getElem?_toArray, List.getElem?_cons_zero, List.getElem?_cons_succ, he, ht, src_of hs hl, appendV]
   rfl
  ·refine .inr ⟨H.next, rfl, by omega, hf, hlo, Nat.lt_succ_self _, ?_⟩
   show (H.t.set H.next _).get H.next = _
   rw [Tr.get_set, if_pos rfl]; rfl
 ·have h1 : Nat.ble (0 + (k + 1) * size) cs.length = false := by
   cases h : Nat.ble (0 + (k + 1) * size) cs.length with
   | false => rfl
   | true => have := Nat.le_of_ble_eq_true h; rw [hcl, Nat.succ_mul] at this; omega
  have h2 : Nat.beq (0 + k * size) cs.length = true := by rw [hcl, Nat.zero_add]; exact Nat.beq_refl _
  have h3 : Nat.ble (k + 1) 1048576 = true := Nat.ble_eq_true_of_le (by omega)
  have h4 : Nat.beq e e = true := Nat.beq_refl e
  refine ⟨({ H with t := H.t.set b .dead } : Hp).new (.cells (cs ++ news) e true), .store b, ?_, .inr ⟨b, rfl, hb⟩, ?_, ?_⟩
  ·intro n S d x y ty p hx hy
   unfold heapOp
   simp only [evs, ev_frS, hx, hy, builtinV, List.getElem?_toArray, List.getElem?_cons_zero, List.getElem?_cons_succ, he, ht, src_of hs hl, appendV, hg, h1, h2, h3, h4, hone, Nat.ble_eq_true_of_le hlb, Bool.and_self, cond_true, cond_false, List.drop_zero, show Nat.beq 1 0 = false from rfl]
  ·refine .inr ⟨H.next, rfl, by omega, hf, hlo, Nat.lt_succ_self _, ?_⟩
   show ((H.t.set b .dead).set H.next _).get H.next = _
   rw [Tr.get_set, if_pos rfl]
  ·refine ⟨Nat.le_succ _, fun c hc hn => ?_⟩
   have hne : c ≠ b := by simpa [bkv] using hn
   show ((H.t.set b .dead).set H.next _).get c = _
   rw [Tr.get_set, if_neg (by omega), Tr.get_set, if_neg hne]
theorem bkv_in {lo f : Nat} {e : TypeId} {H : Hp} {v : Value} {n : Nat} {cs : List Value} (h : Acc lo f e H v n cs) : ∀ x ∈ (bkv v).toList, f ≤ x ∧ x < H.next := by
 intro x hx
 rcases h with ⟨_, _, rfl⟩ | ⟨b, rfl, _, h2, _, h3, _⟩
 ·simp [bkv] at hx
 ·simp [bkv] at hx; subst hx; exact ⟨h2, h3⟩
theorem Acc.keepX {lo f : Nat} {e : TypeId} {H H1 : Hp} {b0 n m x : Nat} {cs : List Value} (h : Acc lo f e H (.slice (some ⟨b0, 0, none⟩) m m) n cs) (k : Keep H H1 [x]) (hx : b0 ≠ x) : Acc lo f e H1 (.slice (some ⟨b0, 0, none⟩) m m) n cs := by
 rcases h with ⟨_, _, q⟩ | ⟨b, q, h0, h2, h3, h4, h5⟩
 ·cases q
 ·cases q
  exact .inr ⟨b0, rfl, h0, h2, h3, Nat.lt_of_lt_of_le h4 k.1, by rw [k.2 b0 h4 (by simp; omega)]; exact h5⟩
theorem Acc.lt {lo f : Nat} {e : TypeId} {H : Hp} {b0 n m : Nat} {cs : List Value} (h : Acc lo f e H (.slice (some ⟨b0, 0, none⟩) m m) n cs) : b0 < H.next := by
 rcases h with ⟨_, _, q⟩ | ⟨b, q, h0, h2, h3, h4, h5⟩
 ·cases q
 ·cases q; exact h4
theorem u_eq {g : Fh} {o : List Nat} {i bi : Nat} (e : o.getD i 0 = bi) : (g.st o i).u = [iv (g.st o i).t1, iv (g.st o i).t2, iv ((g.lb o i).1 + min (g.B bi).need ((g.W bi).1 * (g.B bi).l1)), iv ((g.lb o i).2 + min (g.B bi).need ((g.W bi).2 * (g.B bi).l2)), iv (g.st o i).s1, iv (g.st o i).s2,
  iv ((g.B bi).need - min (g.B bi).need ((g.W bi).2 * (g.B bi).l2)), iv ((g.B bi).need - min (g.B bi).need ((g.W bi).1 * (g.B bi).l1))] := by
 subst e
 show [iv (g.st o i).t1, iv (g.st o i).t2, iv (g.st o i).l1, iv (g.st o i).l2, iv (g.st o i).s1, iv (g.st o i).s2, iv (g.st o i).r1, iv (g.st o i).r2] = _
 rw [(Fh.lb_st g o i).1, (Fh.lb_st g o i).2, (Fh.st_r g o i).1, (Fh.st_r g o i).2]; rfl
theorem nx_eq {g : Fh} {o : List Nat} {i bi bj : Nat} (e : o.getD i 0 = bi) (e2 : o.getD (i + 1) 0 = bj) :
  (g.st o (i + 1)).t1 = (g.st o i).t1 + max 0 ((g.B bj).need - ((g.B bi).need - min (g.B bi).need ((g.W bi).1 * (g.B bi).l1))) ∧ (g.st o (i + 1)).t2 = (g.st o i).t2 + max 0 ((g.B bj).need - ((g.B bi).need - min (g.B bi).need ((g.W bi).2 * (g.B bi).l2))) ∧
  (g.st o (i + 1)).s1 = (g.st o i).s1 + max 0 (((g.B bi).need - min (g.B bi).need ((g.W bi).2 * (g.B bi).l2)) - (g.B bj).need) ∧ (g.st o (i + 1)).s2 = (g.st o i).s2 + max 0 (((g.B bi).need - min (g.B bi).need ((g.W bi).1 * (g.B bi).l1)) - (g.B bj).need) ∧
  (g.st o (i + 1)).f1 = (g.st o i).f1 + (g.W bi).1 + upq (g.B bj).need (g.rate bi bj) ∧ (g.st o (i + 1)).f2 = (g.st o i).f2 + (g.W bi).2 + upq (g.B bj).need (g.rate bi bj) ∧
  (g.lb o (i + 1)).1 = (g.lb o i).1 + min (g.B bi).need ((g.W bi).1 * (g.B bi).l1) ∧ (g.lb o (i + 1)).2 = (g.lb o i).2 + min (g.B bi).need ((g.W bi).2 * (g.B bi).l2) := by
 subst e; subst e2
 refine ⟨?_, ?_, ?_, ?_, ?_, ?_, (Fh.lb_st g o i).1, (Fh.lb_st g o i).2⟩
 ·show (g.st o i).t1 + max 0 (_ - (g.st o i).r2) = _; rw [(Fh.st_r g o i).2]; rfl
 ·show (g.st o i).t2 + max 0 (_ - (g.st o i).r1) = _; rw [(Fh.st_r g o i).1]; rfl
 ·show (g.st o i).s1 + max 0 ((g.st o i).r1 - _) = _; rw [(Fh.st_r g o i).1]; rfl
 ·show (g.st o i).s2 + max 0 ((g.st o i).r2 - _) = _; rw [(Fh.st_r g o i).2]; rfl
 ·show (g.st o i).d1 + upq _ (g.rate (g.st o i).bed _) = _; rw [(Fh.st_d g o i).1, Fh.st_bed]; rfl
 ·show (g.st o i).d2 + upq _ (g.rate (g.st o i).bed _) = _; rw [(Fh.st_d g o i).2, Fh.st_bed]; rfl
theorem c_eq {g : Fh} {o : List Nat} {i bi : Nat} (e : o.getD i 0 = bi) : (g.st o i).c = [iv (bi : Int), iv (g.st o i).f1, iv (g.st o i).f2, iv ((g.st o i).f1 + (g.W bi).1), iv ((g.st o i).f2 + (g.W bi).2)] := by
 subst e
 show [iv ((g.st o i).bed : Int), iv (g.st o i).f1, iv (g.st o i).f2, iv (g.st o i).d1, iv (g.st o i).d2] = _
 rw [Fh.st_bed, (Fh.st_d g o i).1, (Fh.st_d g o i).2]
theorem flc_app (l : List Fs) (x : Fs) : flc (l ++ [x]) = flc l ++ x.c := by unfold flc; rw [List.flatMap_append]; simp
theorem lb_in {g : Fh} {o : List Nat} (hst : ∀ k, k < g.bn → g.can o k = true → (g.st o k).In ((k : Int) + 1)) : ∀ i, i < g.bn → g.can o i = true → (0 ≤ (g.lb o i).1 ∧ (g.lb o i).1 ≤ (i : Int) * 70000000000) ∧ 0 ≤ (g.lb o i).2 ∧ (g.lb o i).2 ≤ (i : Int) * 70000000000
 | 0, _, _ => by simp [Fh.lb]
 | k + 1, h, hc => by
  rw [Fh.can_step, Bool.and_eq_true] at hc
  have q := hst k (by omega) hc.1
  have q1 := q.l1; have q2 := q.l2
  show (0 ≤ (g.st o k).l1 ∧ (g.st o k).l1 ≤ _) ∧ 0 ≤ (g.st o k).l2 ∧ (g.st o k).l2 ≤ _
  omega
theorem can_false {g : Fh} {o : List Nat} {j n : Nat} (hj : j < n) (hr : g.rate (o.getD j 0) (o.getD (j + 1) 0) = 0) : g.can o n = false := by
 unfold Fh.can
 rw [List.all_eq_false]
 exact ⟨j, List.mem_range.2 hj, fun e => absurd hr (of_decide_eq_true e)⟩
section
variable {kn : FuncId → Option Bool} {lo : Nat} {H : Hp}
set_option maxRecDepth 100000 in
set_option maxHeartbeats 4000000 in
theorem times_ok {g : Fh} {f sb cap : Nat} {us : List Int} {o : List Nat} (hat : g.At f H) (v : g.Vd) (hor : IsOrd us g.bn) (eo : o = no us) (rs : Rd H sb (ints us)) (hlo : lo ≤ H.next) :
  ∃ w H', FnX Try.prog kn lo 41 [.agg g.v.toArray, slv sb g.bn cap] H w H' ∧ Keep H H' [] ∧ ((g.can o (g.bn - 1) = true ∧ ∃ la lc, w = .tuple #[.slice la g.bn lc, .agg (g.st o (g.bn - 1)).u.toArray, .bool true] ∧ Sl H' la g.bn lc (flc (g.fs o g.bn)) ∧ ∀ x, la = some ⟨x, 0, none⟩ → H.next ≤ x) ∨ (g.can o (g.bn - 1) = false ∧ w = .tuple #[.slice none 0 0, .agg Fs.z.u.toArray, .bool false])) := by
 refine fnX_low (kn := kn) (lo := lo) (H := H) (args := [.agg g.v.toArray, slv sb g.bn cap]) (Q := fun w H' => Keep H H' [] ∧ ((g.can o (g.bn - 1) = true ∧ ∃ la lc, w = .tuple #[.slice la g.bn lc, .agg (g.st o (g.bn - 1)).u.toArray, .bool true] ∧ Sl H' la g.bn lc (flc (g.fs o g.bn)) ∧ ∀ x, la = some ⟨x, 0, none⟩ → H.next ≤ x) ∨ (g.can o (g.bn - 1) = false ∧ w = .tuple #[.slice none 0 0, .agg Fs.z.u.toArray, .bool false]))) Try.func41 B41 N41 Z41 L41 (by simp) ?_
 have ho : ∀ {k : Nat}, k < g.bn → us[k]? = some ((o.getD k 0 : Nat) : Int) ∧ o.getD k 0 < g.bn := fun hk => by subst eo; exact hor.at hk
 have hk := Keep.refl H []
 have hfl := hat.le; have hbn := v.n; have hrn2 := v.rn; have hinl := v.inl; have lsb := rs.lt
 have hst : ∀ k, k < g.bn → g.can o k = true → (g.st o k).In ((k : Int) + 1) := fun k h1 h2 => by subst eo; exact Fh.st_in v hat hor k h1 h2
 have b0 := Fh.bd v hat (ho (show 0 < g.bn by omega)).2
 obtain ⟨p1, p2⟩ := b0.need
 have pnd : g.need (o.getD 0 0) = (g.B (o.getD 0 0)).need := rfl
 have hup0 := upq_in (a := (g.B (o.getD 0 0)).need) (b := g.inlet) ⟨by omega, by omega⟩ hinl.1
 obtain ⟨xb, eb, rb, lb⟩ := hat.bog (by omega)
 obtain ⟨xr, er, rr, lr⟩ := hat.rts (by omega)
 refine wN_seq ?_
 refine wN_box (v := .agg g.v.toArray) rfl ?_
 intro H1 kH1 nH1 c1
 have c1 : Cl H1 H.next [.slice g.ba g.bn g.bcap, .slice g.ra g.rn g.rcap, iv g.inlet, iv g.reserve, iv g.winds] := c1
 have mH1 := kH1.1
 have hk := hk.trans kH1
 have hat := hat.keep kH1 (by simp)
 have rs := kH1.rd rs (by simp)
 have rb := kH1.rd rb (by simp)
 have rr := kH1.rd rr (by simp)
 refine wN_mov (v := .slice none 0 0) rfl ?_
 refine wN_alc ?_
 intro H2 kH2 nH2 c2
 have c2 : Cl H2 H1.next [iv 0, iv 0, iv 0, iv 0, iv 0, iv 0, iv 0, iv 0] := c2
 have mH2 := kH2.1
 have hk := hk.trans kH2
 have hat := hat.keep kH2 (by simp)
 have rs := kH2.rd rs (by simp)
 have rb := kH2.rd rb (by simp)
 have rr := kH2.rd rr (by simp)
 have c1 := kH2.cl c1 (by simp)
 refine wN_mov (v := .bool false) rfl ?_
 refine wN_end ?_
 refine wN_seq ?_
 refine wN_mov (v := .slice none 0 0) rfl ?_
 refine wN_end ?_
 refine wD_seq ?_
 refine wD_addo (b := H.next) (o := 0) rfl ?_
 refine wD_ld (b := H.next) (o := 0) (v := .slice (some ⟨xb, 0, none⟩) g.bn g.bcap) rfl c1.rd (show _ = some (Value.slice (some ⟨xb, 0, none⟩) g.bn g.bcap) from by rw [← eb]; rfl) ?_
 refine wD_mov (v := .slice (some ⟨sb, 0, none⟩) g.bn cap) rfl ?_
 refine wD_idx (b := sb) (o := 0) (k := 0) (j := 0) rfl rfl (by decide) (by omega) ?_
 refine wD_ld (b := sb) (o := 0 + 0 * 1) (v := iv ((o.getD 0 0 : Nat) : Int)) rfl rs (ints_at (ho (show 0 < g.bn by omega)).1) ?_
 refine wD_idx (b := xb) (o := 0) (k := (o.getD 0 0)) (j := ((o.getD 0 0 : Nat) : Int)) rfl rfl rfl (ho (by omega)).2 ?_
 refine wD_lda (b := xb) (o := 0 + (o.getD 0 0) * 4) rfl rb (bgc_row (getB (g := g) (i := (o.getD 0 0)) (by rw [hat.bl]; exact (ho (by omega)).2))) ?_
 refine wD_alc ?_
 intro H3 kH3 nH3 c3
 have c3 : Cl H3 H2.next [iv 0, iv 0, iv 0, .slice none 0 0] := c3
 have mH3 := kH3.1
 have hk := hk.trans kH3
 have hat := hat.keep kH3 (by simp)
 have rs := kH3.rd rs (by simp)
 have rb := kH3.rd rb (by simp)
 have rr := kH3.rd rr (by simp)
 have c1 := kH3.cl c1 (by simp)
 have c2 := kH3.cl c2 (by simp)
 refine wD_sta (b := H2.next) (o := 0) rfl rfl c3 (by omega) rfl rfl (by simp) ?_
 intro H4 kH4 nH4 sH4
 have mH4 := kH4.1
 have hk := hk.new kH4 (fun b hb => by simp at hb ⊢; omega)
 have hat := hat.keep kH4 (fun x hx => by first | (simp at hx; done) | (simp at hx; omega))
 have rs := kH4.rd rs (by simp <;> omega)
 have rb := kH4.rd rb (by simp <;> omega)
 have rr := kH4.rd rr (by simp <;> omega)
 have c1 := kH4.cl c1 (by simp <;> omega)
 have c2 := kH4.cl c2 (by simp <;> omega)
 have c3 : Cl H4 H2.next [iv ((g.B (o.getD 0 0)).need), iv ((g.B (o.getD 0 0)).l1), iv ((g.B (o.getD 0 0)).l2), .slice ((g.B (o.getD 0 0)).wa) ((g.B (o.getD 0 0)).wn) ((g.B (o.getD 0 0)).wcap)] := sH4
 refine wD_end (by repeat' first | exact True.intro | exact (fun h => h) | refine And.intro ?_ ?_ | (intro h; have h : (_ : Nat) = _ := h; omega)) ?_
 refine wN_seq ?_
 refine wN_addo (b := H2.next) (o := 0) rfl ?_
 refine wN_ld (b := H2.next) (o := 0) (v := iv ((g.B (o.getD 0 0)).need)) rfl c3.rd rfl ?_
 obtain ⟨H5, fH5, kH5⟩ := one54_ok (kn := kn) (lo := lo) (H := H4) (a := (g.B (o.getD 0 0)).need) (by omega)
 refine wN_callf (vs := [iv ((g.B (o.getD 0 0)).need)]) rfl (callX_args fH5) ?_
 have mH5 := kH5.1
 have hk := hk.trans kH5
 have hat := hat.keep kH5 (by simp)
 have rs := kH5.rd rs (by simp)
 have rb := kH5.rd rb (by simp)
 have rr := kH5.rd rr (by simp)
 have c1 := kH5.cl c1 (by simp)
 have c2 := kH5.cl c2 (by simp)
 have c3 := kH5.cl c3 (by simp)
 refine wN_pur (v := .agg #[iv ((g.B (o.getD 0 0)).need), iv ((g.B (o.getD 0 0)).need), iv 0, iv 0, iv 0, iv 0, iv 0, iv 0]) rfl (by kernel_rfl) ?_
 refine wN_alc ?_
 intro H6 kH6 nH6 c6
 have c6 : Cl H6 H5.next [iv 0, iv 0, iv 0, iv 0, iv 0, iv 0, iv 0, iv 0] := c6
 have mH6 := kH6.1
 have hk := hk.trans kH6
 have hat := hat.keep kH6 (by simp)
 have rs := kH6.rd rs (by simp)
 have rb := kH6.rd rb (by simp)
 have rr := kH6.rd rr (by simp)
 have c1 := kH6.cl c1 (by simp)
 have c2 := kH6.cl c2 (by simp)
 have c3 := kH6.cl c3 (by simp)
 refine wN_sta (b := H5.next) (o := 0) rfl rfl c6 (by omega) rfl rfl (by simp) ?_
 intro H7 kH7 nH7 sH7
 have mH7 := kH7.1
 have hk := hk.new kH7 (fun b hb => by simp at hb ⊢; omega)
 have hat := hat.keep kH7 (fun x hx => by first | (simp at hx; done) | (simp at hx; omega))
 have rs := kH7.rd rs (by simp <;> omega)
 have rb := kH7.rd rb (by simp <;> omega)
 have rr := kH7.rd rr (by simp <;> omega)
 have c1 := kH7.cl c1 (by simp <;> omega)
 have c2 := kH7.cl c2 (by simp <;> omega)
 have c3 := kH7.cl c3 (by simp <;> omega)
 have c6 : Cl H7 H5.next [iv ((g.B (o.getD 0 0)).need), iv ((g.B (o.getD 0 0)).need), iv 0, iv 0, iv 0, iv 0, iv 0, iv 0] := sH7
 refine wN_end ?_
 refine wN_seq ?_
 refine wN_addo (b := H2.next) (o := 0) rfl ?_
 refine wN_ld (b := H2.next) (o := 0) (v := iv ((g.B (o.getD 0 0)).need)) rfl c3.rd rfl ?_
 refine wN_addo (b := H.next) (o := 0) rfl ?_
 refine wN_ld (b := H.next) (o := 2) (v := iv g.inlet) rfl c1.rd rfl ?_
 obtain ⟨H8, fH8, kH8⟩ := up55_ok (kn := kn) (lo := lo) (H := H7) (a := (g.B (o.getD 0 0)).need) (b := g.inlet) (by omega) (by omega)
 refine wN_callf (vs := [iv ((g.B (o.getD 0 0)).need), iv g.inlet]) rfl (callX_args fH8) ?_
 have mH8 := kH8.1
 have hk := hk.trans kH8
 have hat := hat.keep kH8 (by simp)
 have rs := kH8.rd rs (by simp)
 have rb := kH8.rd rb (by simp)
 have rr := kH8.rd rr (by simp)
 have c1 := kH8.cl c1 (by simp)
 have c2 := kH8.cl c2 (by simp)
 have c3 := kH8.cl c3 (by simp)
 have c6 := kH8.cl c6 (by simp)
 obtain ⟨H9, fH9, kH9⟩ := one54_ok (kn := kn) (lo := lo) (H := H8) (a := upq ((g.B (o.getD 0 0)).need) g.inlet) (by omega)
 refine wN_callf (vs := [iv (upq ((g.B (o.getD 0 0)).need) g.inlet)]) rfl (callX_args fH9) ?_
 have mH9 := kH9.1
 have hk := hk.trans kH9
 have hat := hat.keep kH9 (by simp)
 have rs := kH9.rd rs (by simp)
 have rb := kH9.rd rb (by simp)
 have rr := kH9.rd rr (by simp)
 have c1 := kH9.cl c1 (by simp)
 have c2 := kH9.cl c2 (by simp)
 have c3 := kH9.cl c3 (by simp)
 have c6 := kH9.cl c6 (by simp)
 refine wN_alc ?_
 intro H10 kH10 nH10 c10
 have c10 : Cl H10 H9.next [iv 0, iv 0] := c10
 have mH10 := kH10.1
 have hk := hk.trans kH10
 have hat := hat.keep kH10 (by simp)
 have rs := kH10.rd rs (by simp)
 have rb := kH10.rd rb (by simp)
 have rr := kH10.rd rr (by simp)
 have c1 := kH10.cl c1 (by simp)
 have c2 := kH10.cl c2 (by simp)
 have c3 := kH10.cl c3 (by simp)
 have c6 := kH10.cl c6 (by simp)
 refine wN_sta (b := H9.next) (o := 0) rfl rfl c10 (by omega) rfl rfl (by simp) ?_
 intro H11 kH11 nH11 sH11
 have mH11 := kH11.1
 have hk := hk.new kH11 (fun b hb => by simp at hb ⊢; omega)
 have hat := hat.keep kH11 (fun x hx => by first | (simp at hx; done) | (simp at hx; omega))
 have rs := kH11.rd rs (by simp <;> omega)
 have rb := kH11.rd rb (by simp <;> omega)
 have rr := kH11.rd rr (by simp <;> omega)
 have c1 := kH11.cl c1 (by simp <;> omega)
 have c2 := kH11.cl c2 (by simp <;> omega)
 have c3 := kH11.cl c3 (by simp <;> omega)
 have c6 := kH11.cl c6 (by simp <;> omega)
 have c10 : Cl H11 H9.next [iv (upq ((g.B (o.getD 0 0)).need) g.inlet), iv (upq ((g.B (o.getD 0 0)).need) g.inlet)] := sH11
 refine wN_end ?_
 refine wN_seq ?_
 refine wN_mov (v := iv 0) rfl ?_
 refine wN_end ?_
 obtain ⟨z2, hz2⟩ : ∃ z, z = H.next := ⟨_, rfl⟩
 obtain ⟨z5, hz5⟩ : ∃ z, z = H1.next := ⟨_, rfl⟩
 obtain ⟨z9, hz9⟩ : ∃ z, z = H5.next := ⟨_, rfl⟩
 obtain ⟨z10, hz10⟩ : ∃ z, z = H9.next := ⟨_, rfl⟩
 obtain ⟨ff, hff⟩ : ∃ z, z = H11.next := ⟨_, rfl⟩
 have b36 : z2 < z5 ∧ z5 < z9 ∧ z9 < z10 ∧ z10 < ff ∧ H.next ≤ z2 := by omega
 rw [← hz2] at c1
 rw [← hz5] at c2
 rw [← hz9] at c6
 rw [← hz10] at c10
 rw [← hz2, ← hz5, ← hz9, ← hz10]
 have hfm : ff ≤ H11.next := by omega
 clear hz2 hz5 hz9 hz10 hff
 have c10 : Cl H11 z10 [iv (g.st o 0).f1, iv (g.st o 0).f2] := by have e : (g.st o 0).f1 = upq (g.B (o.getD 0 0)).need g.inlet := Int.zero_add _; have e2 : (g.st o 0).f2 = upq (g.B (o.getD 0 0)).need g.inlet := Int.zero_add _; rw [e, e2]; exact c10
 have c6 : Cl H11 z9 [iv ((g.st o 0).t1), iv ((g.st o 0).t2), iv ((g.lb o 0).1), iv ((g.lb o 0).2), iv ((g.st o 0).s1), iv ((g.st o 0).s2), iv 0, iv 0] := c6
 refine loop_low (fn := Try.f41) E41_1 N41 L41x1 (fun x0 : Value × Nat => [(1, .slice (some ⟨sb, 0, none⟩) g.bn cap), (2, pt z2), (5, pt z5), (7, x0.1), (9, pt z9), (10, pt z10), (11, iv (x0.2 : Int))])
  (fun q x0 H' => x0.2 + q = g.bn ∧ x0.2 < g.bn ∧ Keep H H' [] ∧ g.At f H' ∧ Rd H' sb (ints us) ∧ Rd H' xb (bgc g.bs) ∧ Rd H' xr (rwc g.rs) ∧ Cl H' z2 [.slice g.ba g.bn g.bcap, .slice g.ra g.rn g.rcap, iv g.inlet, iv g.reserve, iv g.winds] ∧ Cl H' z5 Fs.z.u ∧ Cl H' z9 [iv ((g.st o x0.2).t1), iv ((g.st o x0.2).t2), iv ((g.lb o x0.2).1), iv ((g.lb o x0.2).2), iv ((g.st o x0.2).s1), iv ((g.st o x0.2).s2), iv 0, iv 0] ∧ Cl H' z10 [iv (g.st o x0.2).f1, iv (g.st o x0.2).f2] ∧ Acc lo ff 52 H' x0.1 x0.2 (flc (g.fs o x0.2)) ∧ ff ≤ H'.next ∧ g.can o x0.2 = true) g.bn (.slice none 0 0, 0) ⟨by show 0 + g.bn = g.bn; omega, by show 0 < g.bn; omega, hk, hat, rs, rb, rr, c1, c2, c6, c10, .inl ⟨rfl, rfl, rfl⟩, hfm, rfl⟩ ⟨rfl, rfl, rfl, rfl, rfl, rfl, rfl, trivial⟩ ?_
 rintro q ⟨wv, i⟩ L1 ⟨hik, hin2, hk, hat, rs, rb, rr, c2, c5, c9, c10, hacc, hfl2, hcan⟩
 simp only at hik hacc
 have hm := hk.1
 have kacc := Keep.refl L1 []
 obtain ⟨bi, ebi⟩ : ∃ z, o.getD i 0 = z := ⟨_, rfl⟩
 have hoi := (ho (show i < g.bn by omega)).2
 rw [ebi] at hoi
 have hui := (ho (show i < g.bn by omega)).1
 rw [ebi] at hui
 have bd := Fh.bd v hat hoi
 have nb : 1 ≤ (g.B bi).need ∧ (g.B bi).need ≤ 68719476736 := bd.need
 have hin := (hst i (by omega) hcan).mono (show (i : Int) + 1 ≤ 7 by omega)
 have hlbi := lb_in hst i hin2 hcan
 refine wN_seq ?_
 refine wN_mov (v := iv (i : Int)) rfl ?_
 refine wN_mov (v := .slice (some ⟨sb, 0, none⟩) g.bn cap) rfl ?_
 refine wN_len (m := g.bn) rfl ?_
 refine wN_c_lss (a := (i : Int)) (b := (g.bn : Int)) rfl rfl ?_
 refine wN_end ?_
 refine And.intro (fun q1 => ?_) (fun q1 => ?_)
 ·have q1 : (i : Int) < (g.bn : Int) := of_decide_eq_true q1
  refine wN_seq ?_
  refine wN_mov (v := .slice (some ⟨sb, 0, none⟩) g.bn cap) rfl ?_
  refine wN_mov (v := iv (i : Int)) rfl ?_
  refine wN_idx (b := sb) (o := 0) (k := i) (j := (i : Int)) rfl rfl rfl hin2 ?_
  refine wN_ld (b := sb) (o := 0 + i * 1) (v := iv (bi : Int)) rfl rs (ints_at hui) ?_
  refine wN_mov (v := iv (bi : Int)) rfl ?_
  refine wN_end ?_
  refine wN_seq ?_
  refine wN_addo (b := z2) (o := 0) rfl ?_
  refine wN_ld (b := z2) (o := 0) (v := .slice (some ⟨xb, 0, none⟩) g.bn g.bcap) rfl c2.rd (show _ = some (Value.slice (some ⟨xb, 0, none⟩) g.bn g.bcap) from by rw [← eb]; rfl) ?_
  refine wN_mov (v := iv (bi : Int)) rfl ?_
  refine wN_idx (b := xb) (o := 0) (k := bi) (j := (bi : Int)) rfl rfl rfl hoi ?_
  refine wN_lda (b := xb) (o := 0 + bi * 4) rfl rb (bgc_row (getB (g := g) (i := bi) (by rw [hat.bl]; omega))) ?_
  refine wN_alc ?_
  intro H12 kH12 nH12 c12
  have c12 : Cl H12 L1.next [iv 0, iv 0, iv 0, .slice none 0 0] := c12
  have mH12 := kH12.1
  have hk := hk.trans kH12
  have hat := hat.keep kH12 (by simp)
  have rs := kH12.rd rs (by simp)
  have rb := kH12.rd rb (by simp)
  have rr := kH12.rd rr (by simp)
  have c2 := kH12.cl c2 (by simp)
  have c5 := kH12.cl c5 (by simp)
  have c9 := kH12.cl c9 (by simp)
  have c10 := kH12.cl c10 (by simp)
  have kacc := kacc.trans kH12
  refine wN_sta (b := L1.next) (o := 0) rfl rfl c12 (by omega) rfl rfl (by simp) ?_
  intro H13 kH13 nH13 sH13
  have mH13 := kH13.1
  have hk := hk.new kH13 (fun b hb => by simp at hb ⊢; omega)
  have hat := hat.keep kH13 (fun x hx => by first | (simp at hx; done) | (simp at hx; omega))
  have rs := kH13.rd rs (by simp <;> omega)
  have rb := kH13.rd rb (by simp <;> omega)
  have rr := kH13.rd rr (by simp <;> omega)
  have c2 := kH13.cl c2 (by simp <;> omega)
  have c5 := kH13.cl c5 (by simp <;> omega)
  have c9 := kH13.cl c9 (by simp <;> omega)
  have c10 := kH13.cl c10 (by simp <;> omega)
  have kacc := kacc.new kH13 (fun b hb => by simp at hb ⊢; omega)
  have c12 : Cl H13 L1.next [iv ((g.B bi).need), iv ((g.B bi).l1), iv ((g.B bi).l2), .slice ((g.B bi).wa) ((g.B bi).wn) ((g.B bi).wcap)] := sH13
  refine wN_end ?_
  refine wN_seq ?_
  refine wN_lda (b := z2) (o := 0) rfl c2.rd (show row 5 _ _ = some [.slice g.ba g.bn g.bcap, .slice g.ra g.rn g.rcap, iv g.inlet, iv g.reserve, iv g.winds] from rfl) ?_
  refine wN_mov (v := iv (bi : Int)) rfl ?_
  obtain ⟨H14, fH14, kH14⟩ := WorkOf_ok (kn := kn) (lo := lo) (H := H13) (i := bi) hat v hoi rfl (by omega)
  refine wN_callf (vs := [.agg #[.slice g.ba g.bn g.bcap, .slice g.ra g.rn g.rcap, iv g.inlet, iv g.reserve, iv g.winds], iv (bi : Int)]) rfl (callX_args fH14) ?_
  have mH14 := kH14.1
  have hk := hk.trans kH14
  have hat := hat.keep kH14 (by simp)
  have rs := kH14.rd rs (by simp)
  have rb := kH14.rd rb (by simp)
  have rr := kH14.rd rr (by simp)
  have c2 := kH14.cl c2 (by simp)
  have c5 := kH14.cl c5 (by simp)
  have c9 := kH14.cl c9 (by simp)
  have c10 := kH14.cl c10 (by simp)
  have kacc := kacc.trans kH14
  have c12 := kH14.cl c12 (by simp)
  refine wN_alc ?_
  intro H15 kH15 nH15 c15
  have c15 : Cl H15 H14.next [iv 0, iv 0] := c15
  have mH15 := kH15.1
  have hk := hk.trans kH15
  have hat := hat.keep kH15 (by simp)
  have rs := kH15.rd rs (by simp)
  have rb := kH15.rd rb (by simp)
  have rr := kH15.rd rr (by simp)
  have c2 := kH15.cl c2 (by simp)
  have c5 := kH15.cl c5 (by simp)
  have c9 := kH15.cl c9 (by simp)
  have c10 := kH15.cl c10 (by simp)
  have kacc := kacc.trans kH15
  have c12 := kH15.cl c12 (by simp)
  refine wN_sta (b := H14.next) (o := 0) rfl rfl c15 (by omega) rfl rfl (by simp) ?_
  intro H16 kH16 nH16 sH16
  have mH16 := kH16.1
  have hk := hk.new kH16 (fun b hb => by simp at hb ⊢; omega)
  have hat := hat.keep kH16 (fun x hx => by first | (simp at hx; done) | (simp at hx; omega))
  have rs := kH16.rd rs (by simp <;> omega)
  have rb := kH16.rd rb (by simp <;> omega)
  have rr := kH16.rd rr (by simp <;> omega)
  have c2 := kH16.cl c2 (by simp <;> omega)
  have c5 := kH16.cl c5 (by simp <;> omega)
  have c9 := kH16.cl c9 (by simp <;> omega)
  have c10 := kH16.cl c10 (by simp <;> omega)
  have kacc := kacc.new kH16 (fun b hb => by simp at hb ⊢; omega)
  have c12 := kH16.cl c12 (by simp <;> omega)
  have c15 : Cl H16 H14.next [iv ((g.W bi).1), iv ((g.W bi).2)] := sH16
  refine wN_end ?_
  refine wN_seq ?_
  refine wN_lda (b := z10) (o := 0) rfl c10.rd (show row 2 _ _ = some [iv ((g.st o i).f1), iv ((g.st o i).f2)] from rfl) ?_
  refine wN_lda (b := H14.next) (o := 0) rfl c15.rd (show row 2 _ _ = some [iv ((g.W bi).1), iv ((g.W bi).2)] from rfl) ?_
  obtain ⟨H17, fH17, kH17⟩ := plus56_ok (kn := kn) (lo := lo) (H := H16) (a := (g.st o i).f1) (b := (g.st o i).f2) (c := (g.W bi).1) (d := (g.W bi).2) ⟨by (have z1 := hin.f1; have z2 := hin.f2; have z3 := hin.t1; have z4 := hin.t2; have z5 := hin.s1; have z6 := hin.s2; have y1 := bd.w1; have y2 := bd.w2; have y4 := bd.m1; have y5 := bd.m2; have y6 := nb; have y7 := hlbi; omega), by (have z1 := hin.f1; have z2 := hin.f2; have z3 := hin.t1; have z4 := hin.t2; have z5 := hin.s1; have z6 := hin.s2; have y1 := bd.w1; have y2 := bd.w2; have y4 := bd.m1; have y5 := bd.m2; have y6 := nb; have y7 := hlbi; omega), by (have z1 := hin.f1; have z2 := hin.f2; have z3 := hin.t1; have z4 := hin.t2; have z5 := hin.s1; have z6 := hin.s2; have y1 := bd.w1; have y2 := bd.w2; have y4 := bd.m1; have y5 := bd.m2; have y6 := nb; have y7 := hlbi; omega), by (have z1 := hin.f1; have z2 := hin.f2; have z3 := hin.t1; have z4 := hin.t2; have z5 := hin.s1; have z6 := hin.s2; have y1 := bd.w1; have y2 := bd.w2; have y4 := bd.m1; have y5 := bd.m2; have y6 := nb; have y7 := hlbi; omega)⟩ (by omega)
  refine wN_callf (vs := [.agg #[iv ((g.st o i).f1), iv ((g.st o i).f2)], .agg #[iv ((g.W bi).1), iv ((g.W bi).2)]]) rfl (callX_args fH17) ?_
  have mH17 := kH17.1
  have hk := hk.trans kH17
  have hat := hat.keep kH17 (by simp)
  have rs := kH17.rd rs (by simp)
  have rb := kH17.rd rb (by simp)
  have rr := kH17.rd rr (by simp)
  have c2 := kH17.cl c2 (by simp)
  have c5 := kH17.cl c5 (by simp)
  have c9 := kH17.cl c9 (by simp)
  have c10 := kH17.cl c10 (by simp)
  have kacc := kacc.trans kH17
  have c12 := kH17.cl c12 (by simp)
  have c15 := kH17.cl c15 (by simp)
  refine wN_alc ?_
  intro H18 kH18 nH18 c18
  have c18 : Cl H18 H17.next [iv 0, iv 0] := c18
  have mH18 := kH18.1
  have hk := hk.trans kH18
  have hat := hat.keep kH18 (by simp)
  have rs := kH18.rd rs (by simp)
  have rb := kH18.rd rb (by simp)
  have rr := kH18.rd rr (by simp)
  have c2 := kH18.cl c2 (by simp)
  have c5 := kH18.cl c5 (by simp)
  have c9 := kH18.cl c9 (by simp)
  have c10 := kH18.cl c10 (by simp)
  have kacc := kacc.trans kH18
  have c12 := kH18.cl c12 (by simp)
  have c15 := kH18.cl c15 (by simp)
  refine wN_sta (b := H17.next) (o := 0) rfl rfl c18 (by omega) rfl rfl (by simp) ?_
  intro H19 kH19 nH19 sH19
  have mH19 := kH19.1
  have hk := hk.new kH19 (fun b hb => by simp at hb ⊢; omega)
  have hat := hat.keep kH19 (fun x hx => by first | (simp at hx; done) | (simp at hx; omega))
  have rs := kH19.rd rs (by simp <;> omega)
  have rb := kH19.rd rb (by simp <;> omega)
  have rr := kH19.rd rr (by simp <;> omega)
  have c2 := kH19.cl c2 (by simp <;> omega)
  have c5 := kH19.cl c5 (by simp <;> omega)
  have c9 := kH19.cl c9 (by simp <;> omega)
  have c10 := kH19.cl c10 (by simp <;> omega)
  have kacc := kacc.new kH19 (fun b hb => by simp at hb ⊢; omega)
  have c12 := kH19.cl c12 (by simp <;> omega)
  have c15 := kH19.cl c15 (by simp <;> omega)
  have c18 : Cl H19 H17.next [iv (((g.st o i).f1) + ((g.W bi).1)), iv (((g.st o i).f2) + ((g.W bi).2))] := sH19
  refine wN_end ?_
  refine wN_seq ?_
  refine wN_mov (v := wv) rfl ?_
  refine wN_mov (v := iv (bi : Int)) rfl ?_
  refine wN_lda (b := z10) (o := 0) rfl c10.rd (show row 2 _ _ = some [iv ((g.st o i).f1), iv ((g.st o i).f2)] from rfl) ?_
  refine wN_lda (b := H17.next) (o := 0) rfl c18.rd (show row 2 _ _ = some [iv (((g.st o i).f1) + ((g.W bi).1)), iv (((g.st o i).f2) + ((g.W bi).2))] from rfl) ?_
  refine wN_pur (v := .agg #[iv (bi : Int), iv ((g.st o i).f1), iv ((g.st o i).f2), iv (((g.st o i).f1) + ((g.W bi).1)), iv (((g.st o i).f2) + ((g.W bi).2))]) rfl (by kernel_rfl) ?_
  obtain ⟨H20, hH20⟩ : ∃ H20, H19.new (.cells [iv (bi : Int), iv ((g.st o i).f1), iv ((g.st o i).f2), iv (((g.st o i).f1) + ((g.W bi).1)), iv (((g.st o i).f2) + ((g.W bi).2))] 52 false) = H20 := ⟨_, rfl⟩
  refine wN_memh (H' := H20) (k := .heavy) rfl (by kernel_rfl) ((heap_build1 (v := .agg #[iv (bi : Int), iv ((g.st o i).f1), iv ((g.st o i).f2), iv (((g.st o i).f1) + ((g.W bi).1)), iv (((g.st o i).f2) + ((g.W bi).2))]) se34 z52 rfl rfl rfl (by decide)).trans (by rw [← hH20]; rfl)) (fun b e => by cases e) ?_
  obtain ⟨kH20, nH20, c20⟩ := new_facts hH20; clear hH20
  have c20 : Cl H20 H19.next [iv (bi : Int), iv ((g.st o i).f1), iv ((g.st o i).f2), iv (((g.st o i).f1) + ((g.W bi).1)), iv (((g.st o i).f2) + ((g.W bi).2))] := c20
  have mH20 := kH20.1
  have hk := hk.trans kH20
  have hat := hat.keep kH20 (by simp)
  have rs := kH20.rd rs (by simp)
  have rb := kH20.rd rb (by simp)
  have rr := kH20.rd rr (by simp)
  have c2 := kH20.cl c2 (by simp)
  have c5 := kH20.cl c5 (by simp)
  have c9 := kH20.cl c9 (by simp)
  have c10 := kH20.cl c10 (by simp)
  have kacc := kacc.trans kH20
  have c12 := kH20.cl c12 (by simp)
  have c15 := kH20.cl c15 (by simp)
  have c18 := kH20.cl c18 (by simp)
  have ib := bkv_in hacc
  obtain ⟨H21, kdH21, eH21, dH21, aH21, kbH21⟩ := heap_append_out (P := Try.prog) (lo := lo) (k := i) (t1 := 34) se34 u34 (c20.sl (Nat.le_refl 1)) rfl (by decide) rfl (by rw [flc_len, Fh.fs_len]) (by omega) (hacc.keep kacc) (by omega) (by omega)
  refine wN_memh (k := kdH21) rfl (by cases wv <;> kernel_rfl) (eH21 _ _ _ _ _ _ _ rfl rfl) (reg_ok dH21 _) ?_
  have mH21 := kbH21.1
  have hk := hk.new kbH21 (fun b hb => .inr (by have := ib b hb; omega))
  have hat := hat.keep kbH21 (fun x hx => by have := ib x hx; omega)
  have rs := kbH21.rd rs (fun q => by have := ib _ q; omega)
  have rb := kbH21.rd rb (fun q => by have := ib _ q; omega)
  have rr := kbH21.rd rr (fun q => by have := ib _ q; omega)
  have c2 := kbH21.cl c2 (fun q => by have := ib _ q; omega)
  have c5 := kbH21.cl c5 (fun q => by have := ib _ q; omega)
  have c9 := kbH21.cl c9 (fun q => by have := ib _ q; omega)
  have c10 := kbH21.cl c10 (fun q => by have := ib _ q; omega)
  have c12 := kbH21.cl c12 (fun q => by have := ib _ q; omega)
  have c15 := kbH21.cl c15 (fun q => by have := ib _ q; omega)
  have c18 := kbH21.cl c18 (fun q => by have := ib _ q; omega)
  have hacc : Acc lo ff 52 H21 (.slice (some ⟨H20.next, 0, none⟩) (i + 1) (i + 1)) (i + 1) (flc (g.fs o i) ++ [iv (bi : Int), iv ((g.st o i).f1), iv ((g.st o i).f2), iv (((g.st o i).f1) + ((g.W bi).1)), iv (((g.st o i).f2) + ((g.W bi).2))]) := aH21
  have lacc := hacc.lt
  rw [← c_eq ebi, ← flc_app, ← Fh.fs_step] at hacc
  refine wN_mov (v := .slice (some ⟨H20.next, 0, none⟩) (i + 1) (i + 1)) rfl ?_
  refine wN_end ?_
  refine wN_seq ?_
  refine wN_addo (b := L1.next) (o := 0) rfl ?_
  refine wN_ld (b := L1.next) (o := 0) (v := iv ((g.B bi).need)) rfl c12.rd rfl ?_
  refine wN_addo (b := L1.next) (o := 0) rfl ?_
  refine wN_addo (b := L1.next) (o := 1) rfl ?_
  refine wN_ld (b := L1.next) (o := 1) (v := iv ((g.B bi).l1)) rfl c12.rd rfl ?_
  refine wN_addo (b := H14.next) (o := 0) rfl ?_
  refine wN_ld (b := H14.next) (o := 0) (v := iv ((g.W bi).1)) rfl c15.rd rfl ?_
  refine wN_mul (a := (g.B bi).l1) (b := (g.W bi).1) rfl rfl (show InR ((g.B bi).l1 * (g.W bi).1) from by rw [Int.mul_comm]; have q1 := bd.m1; have q2 := bd.m2; exact ⟨by omega, by omega⟩) ?_
  rw [Int.mul_comm ((g.B bi).l1) ((g.W bi).1)]
  refine wN_mm (a := (g.B bi).need) (b := (g.W bi).1 * (g.B bi).l1) rfl rfl ?_
  refine wN_addo (b := L1.next) (o := 0) rfl ?_
  refine wN_ld (b := L1.next) (o := 0) (v := iv ((g.B bi).need)) rfl c12.rd rfl ?_
  refine wN_addo (b := L1.next) (o := 0) rfl ?_
  refine wN_addo (b := L1.next) (o := 1) rfl ?_
  refine wN_ld (b := L1.next) (o := 2) (v := iv ((g.B bi).l2)) rfl c12.rd rfl ?_
  refine wN_addo (b := H14.next) (o := 0) rfl ?_
  refine wN_ld (b := H14.next) (o := 1) (v := iv ((g.W bi).2)) rfl c15.rd rfl ?_
  refine wN_mul (a := (g.B bi).l2) (b := (g.W bi).2) rfl rfl (show InR ((g.B bi).l2 * (g.W bi).2) from by rw [Int.mul_comm]; have q1 := bd.m1; have q2 := bd.m2; exact ⟨by omega, by omega⟩) ?_
  rw [Int.mul_comm ((g.B bi).l2) ((g.W bi).2)]
  refine wN_mm (a := (g.B bi).need) (b := (g.W bi).2 * (g.B bi).l2) rfl rfl ?_
  refine wN_pur (v := .agg #[iv (min ((g.B bi).need) ((g.W bi).1 * (g.B bi).l1)), iv (min ((g.B bi).need) ((g.W bi).2 * (g.B bi).l2))]) rfl (by kernel_rfl) ?_
  refine wN_alc ?_
  intro H22 kH22 nH22 c22
  have c22 : Cl H22 H21.next [iv 0, iv 0] := c22
  have mH22 := kH22.1
  have hk := hk.trans kH22
  have hat := hat.keep kH22 (by simp)
  have rs := kH22.rd rs (by simp)
  have rb := kH22.rd rb (by simp)
  have rr := kH22.rd rr (by simp)
  have c2 := kH22.cl c2 (by simp)
  have c5 := kH22.cl c5 (by simp)
  have c9 := kH22.cl c9 (by simp)
  have c10 := kH22.cl c10 (by simp)
  have c12 := kH22.cl c12 (by simp)
  have c15 := kH22.cl c15 (by simp)
  have c18 := kH22.cl c18 (by simp)
  have hacc := hacc.keep kH22
  refine wN_sta (b := H21.next) (o := 0) rfl rfl c22 (by omega) rfl rfl (by simp) ?_
  intro H23 kH23 nH23 sH23
  have mH23 := kH23.1
  have hk := hk.new kH23 (fun b hb => by simp at hb ⊢; omega)
  have hat := hat.keep kH23 (fun x hx => by first | (simp at hx; done) | (simp at hx; omega))
  have rs := kH23.rd rs (by simp <;> omega)
  have rb := kH23.rd rb (by simp <;> omega)
  have rr := kH23.rd rr (by simp <;> omega)
  have c2 := kH23.cl c2 (by simp <;> omega)
  have c5 := kH23.cl c5 (by simp <;> omega)
  have c9 := kH23.cl c9 (by simp <;> omega)
  have c10 := kH23.cl c10 (by simp <;> omega)
  have c12 := kH23.cl c12 (by simp <;> omega)
  have c15 := kH23.cl c15 (by simp <;> omega)
  have c18 := kH23.cl c18 (by simp <;> omega)
  have hacc := hacc.keepX kH23 (by omega)
  have c22 : Cl H23 H21.next [iv (min ((g.B bi).need) ((g.W bi).1 * (g.B bi).l1)), iv (min ((g.B bi).need) ((g.W bi).2 * (g.B bi).l2))] := sH23
  refine wN_end ?_
  refine wN_seq ?_
  refine wN_addo (b := L1.next) (o := 0) rfl ?_
  refine wN_ld (b := L1.next) (o := 0) (v := iv ((g.B bi).need)) rfl c12.rd rfl ?_
  refine wN_addo (b := H21.next) (o := 0) rfl ?_
  refine wN_ld (b := H21.next) (o := 1) (v := iv (min ((g.B bi).need) ((g.W bi).2 * (g.B bi).l2))) rfl c22.rd rfl ?_
  refine wN_sub (a := (g.B bi).need) (b := min ((g.B bi).need) ((g.W bi).2 * (g.B bi).l2)) rfl rfl ⟨by (have z1 := hin.f1; have z2 := hin.f2; have z3 := hin.t1; have z4 := hin.t2; have z5 := hin.s1; have z6 := hin.s2; have y1 := bd.w1; have y2 := bd.w2; have y4 := bd.m1; have y5 := bd.m2; have y6 := nb; have y7 := hlbi; omega), by (have z1 := hin.f1; have z2 := hin.f2; have z3 := hin.t1; have z4 := hin.t2; have z5 := hin.s1; have z6 := hin.s2; have y1 := bd.w1; have y2 := bd.w2; have y4 := bd.m1; have y5 := bd.m2; have y6 := nb; have y7 := hlbi; omega)⟩ ?_
  refine wN_addo (b := L1.next) (o := 0) rfl ?_
  refine wN_ld (b := L1.next) (o := 0) (v := iv ((g.B bi).need)) rfl c12.rd rfl ?_
  refine wN_addo (b := H21.next) (o := 0) rfl ?_
  refine wN_ld (b := H21.next) (o := 0) (v := iv (min ((g.B bi).need) ((g.W bi).1 * (g.B bi).l1))) rfl c22.rd rfl ?_
  refine wN_sub (a := (g.B bi).need) (b := min ((g.B bi).need) ((g.W bi).1 * (g.B bi).l1)) rfl rfl ⟨by (have z1 := hin.f1; have z2 := hin.f2; have z3 := hin.t1; have z4 := hin.t2; have z5 := hin.s1; have z6 := hin.s2; have y1 := bd.w1; have y2 := bd.w2; have y4 := bd.m1; have y5 := bd.m2; have y6 := nb; have y7 := hlbi; omega), by (have z1 := hin.f1; have z2 := hin.f2; have z3 := hin.t1; have z4 := hin.t2; have z5 := hin.s1; have z6 := hin.s2; have y1 := bd.w1; have y2 := bd.w2; have y4 := bd.m1; have y5 := bd.m2; have y6 := nb; have y7 := hlbi; omega)⟩ ?_
  refine wN_pur (v := .agg #[iv (((g.B bi).need) - (min ((g.B bi).need) ((g.W bi).2 * (g.B bi).l2))), iv (((g.B bi).need) - (min ((g.B bi).need) ((g.W bi).1 * (g.B bi).l1)))]) rfl (by kernel_rfl) ?_
  refine wN_alc ?_
  intro H24 kH24 nH24 c24
  have c24 : Cl H24 H23.next [iv 0, iv 0] := c24
  have mH24 := kH24.1
  have hk := hk.trans kH24
  have hat := hat.keep kH24 (by simp)
  have rs := kH24.rd rs (by simp)
  have rb := kH24.rd rb (by simp)
  have rr := kH24.rd rr (by simp)
  have c2 := kH24.cl c2 (by simp)
  have c5 := kH24.cl c5 (by simp)
  have c9 := kH24.cl c9 (by simp)
  have c10 := kH24.cl c10 (by simp)
  have c12 := kH24.cl c12 (by simp)
  have c15 := kH24.cl c15 (by simp)
  have c18 := kH24.cl c18 (by simp)
  have hacc := hacc.keep kH24
  have c22 := kH24.cl c22 (by simp)
  refine wN_sta (b := H23.next) (o := 0) rfl rfl c24 (by omega) rfl rfl (by simp) ?_
  intro H25 kH25 nH25 sH25
  have mH25 := kH25.1
  have hk := hk.new kH25 (fun b hb => by simp at hb ⊢; omega)
  have hat := hat.keep kH25 (fun x hx => by first | (simp at hx; done) | (simp at hx; omega))
  have rs := kH25.rd rs (by simp <;> omega)
  have rb := kH25.rd rb (by simp <;> omega)
  have rr := kH25.rd rr (by simp <;> omega)
  have c2 := kH25.cl c2 (by simp <;> omega)
  have c5 := kH25.cl c5 (by simp <;> omega)
  have c9 := kH25.cl c9 (by simp <;> omega)
  have c10 := kH25.cl c10 (by simp <;> omega)
  have c12 := kH25.cl c12 (by simp <;> omega)
  have c15 := kH25.cl c15 (by simp <;> omega)
  have c18 := kH25.cl c18 (by simp <;> omega)
  have hacc := hacc.keepX kH25 (by omega)
  have c22 := kH25.cl c22 (by simp <;> omega)
  have c24 : Cl H25 H23.next [iv (((g.B bi).need) - (min ((g.B bi).need) ((g.W bi).2 * (g.B bi).l2))), iv (((g.B bi).need) - (min ((g.B bi).need) ((g.W bi).1 * (g.B bi).l1)))] := sH25
  refine wN_end ?_
  refine wN_seq ?_
  refine wN_addo (b := z9) (o := 0) rfl ?_
  refine wN_lda (b := z9) (o := 2) rfl c9.rd (show row 2 _ _ = some [iv ((g.lb o i).1), iv ((g.lb o i).2)] from rfl) ?_
  refine wN_lda (b := H21.next) (o := 0) rfl c22.rd (show row 2 _ _ = some [iv (min ((g.B bi).need) ((g.W bi).1 * (g.B bi).l1)), iv (min ((g.B bi).need) ((g.W bi).2 * (g.B bi).l2))] from rfl) ?_
  obtain ⟨H26, fH26, kH26⟩ := plus56_ok (kn := kn) (lo := lo) (H := H25) (a := (g.lb o i).1) (b := (g.lb o i).2) (c := min ((g.B bi).need) ((g.W bi).1 * (g.B bi).l1)) (d := min ((g.B bi).need) ((g.W bi).2 * (g.B bi).l2)) ⟨by (have z1 := hin.f1; have z2 := hin.f2; have z3 := hin.t1; have z4 := hin.t2; have z5 := hin.s1; have z6 := hin.s2; have y1 := bd.w1; have y2 := bd.w2; have y4 := bd.m1; have y5 := bd.m2; have y6 := nb; have y7 := hlbi; omega), by (have z1 := hin.f1; have z2 := hin.f2; have z3 := hin.t1; have z4 := hin.t2; have z5 := hin.s1; have z6 := hin.s2; have y1 := bd.w1; have y2 := bd.w2; have y4 := bd.m1; have y5 := bd.m2; have y6 := nb; have y7 := hlbi; omega), by (have z1 := hin.f1; have z2 := hin.f2; have z3 := hin.t1; have z4 := hin.t2; have z5 := hin.s1; have z6 := hin.s2; have y1 := bd.w1; have y2 := bd.w2; have y4 := bd.m1; have y5 := bd.m2; have y6 := nb; have y7 := hlbi; omega), by (have z1 := hin.f1; have z2 := hin.f2; have z3 := hin.t1; have z4 := hin.t2; have z5 := hin.s1; have z6 := hin.s2; have y1 := bd.w1; have y2 := bd.w2; have y4 := bd.m1; have y5 := bd.m2; have y6 := nb; have y7 := hlbi; omega)⟩ (by omega)
  refine wN_callf (vs := [.agg #[iv ((g.lb o i).1), iv ((g.lb o i).2)], .agg #[iv (min ((g.B bi).need) ((g.W bi).1 * (g.B bi).l1)), iv (min ((g.B bi).need) ((g.W bi).2 * (g.B bi).l2))]]) rfl (callX_args fH26) ?_
  have mH26 := kH26.1
  have hk := hk.trans kH26
  have hat := hat.keep kH26 (by simp)
  have rs := kH26.rd rs (by simp)
  have rb := kH26.rd rb (by simp)
  have rr := kH26.rd rr (by simp)
  have c2 := kH26.cl c2 (by simp)
  have c5 := kH26.cl c5 (by simp)
  have c9 := kH26.cl c9 (by simp)
  have c10 := kH26.cl c10 (by simp)
  have c12 := kH26.cl c12 (by simp)
  have c15 := kH26.cl c15 (by simp)
  have c18 := kH26.cl c18 (by simp)
  have hacc := hacc.keep kH26
  have c22 := kH26.cl c22 (by simp)
  have c24 := kH26.cl c24 (by simp)
  refine wN_addo (b := z9) (o := 0) rfl ?_
  refine wN_sta (b := z9) (o := 2) rfl rfl c9 (by omega) rfl rfl (by simp) ?_
  intro H27 kH27 nH27 sH27
  have mH27 := kH27.1
  have hk := hk.new kH27 (fun b hb => by simp at hb ⊢; omega)
  have hat := hat.keep kH27 (fun x hx => by first | (simp at hx; done) | (simp at hx; omega))
  have rs := kH27.rd rs (by simp <;> omega)
  have rb := kH27.rd rb (by simp <;> omega)
  have rr := kH27.rd rr (by simp <;> omega)
  have c2 := kH27.cl c2 (by simp <;> omega)
  have c5 := kH27.cl c5 (by simp <;> omega)
  have c10 := kH27.cl c10 (by simp <;> omega)
  have c12 := kH27.cl c12 (by simp <;> omega)
  have c15 := kH27.cl c15 (by simp <;> omega)
  have c18 := kH27.cl c18 (by simp <;> omega)
  have hacc := hacc.keepX kH27 (by omega)
  have c22 := kH27.cl c22 (by simp <;> omega)
  have c24 := kH27.cl c24 (by simp <;> omega)
  have c9 : Cl H27 z9 [iv ((g.st o i).t1), iv ((g.st o i).t2), iv (((g.lb o i).1) + (min ((g.B bi).need) ((g.W bi).1 * (g.B bi).l1))), iv (((g.lb o i).2) + (min ((g.B bi).need) ((g.W bi).2 * (g.B bi).l2))), iv ((g.st o i).s1), iv ((g.st o i).s2), iv 0, iv 0] := sH27
  refine wN_end ?_
  refine wN_seq ?_
  refine wN_mov (v := iv (i : Int)) rfl ?_
  refine wN_mov (v := .slice (some ⟨sb, 0, none⟩) g.bn cap) rfl ?_
  refine wN_len (m := g.bn) rfl ?_
  refine wN_sub (a := (g.bn : Int)) (b := 1) rfl rfl ⟨by omega, by omega⟩ ?_
  refine wN_c_eql (a := (i : Int)) (b := (g.bn : Int) - 1) rfl rfl ?_
  refine wN_end ?_
  refine And.intro (fun q2 => ?_) (fun q2 => ?_)
  ·have q2 : (i : Int) = ((g.bn : Int) - 1) := by simpa using q2
   have hil : i = g.bn - 1 := by omega
   refine wN_seq ?_
   refine wN_lda (b := H23.next) (o := 0) rfl c24.rd (show row 2 _ _ = some [iv (((g.B bi).need) - (min ((g.B bi).need) ((g.W bi).2 * (g.B bi).l2))), iv (((g.B bi).need) - (min ((g.B bi).need) ((g.W bi).1 * (g.B bi).l1)))] from rfl) ?_
   refine wN_addo (b := z9) (o := 0) rfl ?_
   refine wN_sta (b := z9) (o := 6) rfl rfl c9 (by omega) rfl rfl (by simp) ?_
   intro H28 kH28 nH28 sH28
   have mH28 := kH28.1
   have hk := hk.new kH28 (fun b hb => by simp at hb ⊢; omega)
   have hat := hat.keep kH28 (fun x hx => by first | (simp at hx; done) | (simp at hx; omega))
   have rs := kH28.rd rs (by simp <;> omega)
   have rb := kH28.rd rb (by simp <;> omega)
   have rr := kH28.rd rr (by simp <;> omega)
   have c2 := kH28.cl c2 (by simp <;> omega)
   have c5 := kH28.cl c5 (by simp <;> omega)
   have c10 := kH28.cl c10 (by simp <;> omega)
   have c12 := kH28.cl c12 (by simp <;> omega)
   have c15 := kH28.cl c15 (by simp <;> omega)
   have c18 := kH28.cl c18 (by simp <;> omega)
   have hacc := hacc.keepX kH28 (by omega)
   have c22 := kH28.cl c22 (by simp <;> omega)
   have c24 := kH28.cl c24 (by simp <;> omega)
   have c9 : Cl H28 z9 [iv ((g.st o i).t1), iv ((g.st o i).t2), iv (((g.lb o i).1) + (min ((g.B bi).need) ((g.W bi).1 * (g.B bi).l1))), iv (((g.lb o i).2) + (min ((g.B bi).need) ((g.W bi).2 * (g.B bi).l2))), iv ((g.st o i).s1), iv ((g.st o i).s2), iv (((g.B bi).need) - (min ((g.B bi).need) ((g.W bi).2 * (g.B bi).l2))), iv (((g.B bi).need) - (min ((g.B bi).need) ((g.W bi).1 * (g.B bi).l1)))] := sH28
   refine wN_end ?_
   refine wD_seq ?_
   refine wD_mov (v := .slice (some ⟨H20.next, 0, none⟩) (i + 1) (i + 1)) rfl ?_
   refine wD_lda (b := z9) (o := 0) rfl c9.rd (show row 8 _ _ = some [iv ((g.st o i).t1), iv ((g.st o i).t2), iv (((g.lb o i).1) + (min ((g.B bi).need) ((g.W bi).1 * (g.B bi).l1))), iv (((g.lb o i).2) + (min ((g.B bi).need) ((g.W bi).2 * (g.B bi).l2))), iv ((g.st o i).s1), iv ((g.st o i).s2), iv (((g.B bi).need) - (min ((g.B bi).need) ((g.W bi).2 * (g.B bi).l2))), iv (((g.B bi).need) - (min ((g.B bi).need) ((g.W bi).1 * (g.B bi).l1)))] from rfl) ?_
   refine wD_mov (v := .slice (some ⟨H20.next, 0, none⟩) (i + 1) (i + 1)) rfl ?_
   refine wD_sta (b := z5) (o := 0) rfl rfl c5 (by omega) rfl rfl (by simp) ?_
   intro H29 kH29 nH29 sH29
   have mH29 := kH29.1
   have hk := hk.new kH29 (fun b hb => by simp at hb ⊢; omega)
   have hat := hat.keep kH29 (fun x hx => by first | (simp at hx; done) | (simp at hx; omega))
   have rs := kH29.rd rs (by simp <;> omega)
   have rb := kH29.rd rb (by simp <;> omega)
   have rr := kH29.rd rr (by simp <;> omega)
   have c2 := kH29.cl c2 (by simp <;> omega)
   have c10 := kH29.cl c10 (by simp <;> omega)
   have c12 := kH29.cl c12 (by simp <;> omega)
   have c15 := kH29.cl c15 (by simp <;> omega)
   have c18 := kH29.cl c18 (by simp <;> omega)
   have hacc := hacc.keepX kH29 (by omega)
   have c22 := kH29.cl c22 (by simp <;> omega)
   have c24 := kH29.cl c24 (by simp <;> omega)
   have c9 := kH29.cl c9 (by simp <;> omega)
   have c5 : Cl H29 z5 [iv ((g.st o i).t1), iv ((g.st o i).t2), iv (((g.lb o i).1) + (min ((g.B bi).need) ((g.W bi).1 * (g.B bi).l1))), iv (((g.lb o i).2) + (min ((g.B bi).need) ((g.W bi).2 * (g.B bi).l2))), iv ((g.st o i).s1), iv ((g.st o i).s2), iv (((g.B bi).need) - (min ((g.B bi).need) ((g.W bi).2 * (g.B bi).l2))), iv (((g.B bi).need) - (min ((g.B bi).need) ((g.W bi).1 * (g.B bi).l1)))] := sH29
   refine wD_mov (v := .bool true) rfl ?_
   refine wD_end (by repeat' first | exact True.intro | exact (fun h => h) | refine And.intro ?_ ?_ | (intro h; have h : (_ : Nat) = _ := h; omega)) ?_
   have cz : Cl H29 z5 (g.st o i).u := by rw [u_eq ebi]; exact c5
   obtain ⟨la, lc, elv, hls, hlf3⟩ := hacc.sl
   have hb1 : i + 1 = g.bn := by omega
   rw [hb1] at hls elv
   have ib1 : g.bn - 1 = i := by omega
   refine And.intro trivial (Exists.intro _ (And.intro (res_tct (cs := (g.st o i).u) rfl rfl a36 i36s rfl cz rfl) ⟨hk, .inl ⟨by rw [ib1]; exact hcan, la, lc, ?_, hls, fun x e => by have := hlf3 x e; omega⟩⟩))
   rw [ib1, hb1, elv]; rfl
  ·have q2 : ¬ ((i : Int) = ((g.bn : Int) - 1)) := by simpa using q2
   have hi1 : i + 1 < g.bn := by omega
   obtain ⟨bj, ebj⟩ : ∃ z, o.getD (i + 1) 0 = z := ⟨_, rfl⟩
   have ho1 := (ho hi1).2; rw [ebj] at ho1
   have huj := (ho hi1).1; rw [ebj] at huj
   obtain ⟨hr, hrl, hrf⟩ := hat.row (i := bi) (by omega)
   have hrn := (v.r _ hoi).1
   rcases hr with ⟨_, h0, _⟩ | ⟨xi, ei, ri, _⟩
   ·omega
   have li := hrf xi ei; have li2 := ri.lt
   have hrj : (g.R bi).l[bj]? = some (g.rate bi bj) := getI (by omega)
   have hrr := (v.r _ hoi).2 _ (List.mem_of_getElem? hrj)
   refine wD_seq ?_
   refine wD_addo (b := z2) (o := 0) rfl ?_
   refine wD_ld (b := z2) (o := 1) (v := .slice (some ⟨xr, 0, none⟩) g.rn g.rcap) rfl c2.rd (show _ = some (Value.slice (some ⟨xr, 0, none⟩) g.rn g.rcap) from by rw [← er]; rfl) ?_
   refine wD_mov (v := iv (bi : Int)) rfl ?_
   refine wD_idx (b := xr) (o := 0) (k := bi) (j := (bi : Int)) rfl rfl rfl (by omega) ?_
   refine wD_ld (b := xr) (o := 0 + bi * 1) (v := .slice (some ⟨xi, 0, none⟩) ((g.R bi).n) ((g.R bi).cap)) rfl rr (show _ = some (Value.slice (some ⟨xi, 0, none⟩) ((g.R bi).n) ((g.R bi).cap)) from by rw [← ei]; exact (rwc_row (getR (g := g) (i := bi) (by rw [hat.rl]; omega)))) ?_
   refine wD_mov (v := .slice (some ⟨sb, 0, none⟩) g.bn cap) rfl ?_
   refine wD_mov (v := iv (i : Int)) rfl ?_
   refine wD_add (a := (i : Int)) (b := 1) rfl rfl ⟨by omega, by omega⟩ ?_
   refine wD_idx (b := sb) (o := 0) (k := (i + 1)) (j := (i : Int) + 1) rfl rfl (by omega) hi1 ?_
   refine wD_ld (b := sb) (o := 0 + (i + 1) * 1) (v := iv (bj : Int)) rfl rs (ints_at huj) ?_
   refine wD_idx (b := xi) (o := 0) (k := bj) (j := (bj : Int)) rfl rfl rfl (by omega) ?_
   refine wD_ld (b := xi) (o := 0 + bj * 1) (v := iv (g.rate bi bj)) rfl ri (ints_at hrj) ?_
   refine wD_mov (v := iv (g.rate bi bj)) rfl ?_
   refine wD_end (by repeat' first | exact True.intro | exact (fun h => h) | refine And.intro ?_ ?_ | (intro h; have h : (_ : Nat) = _ := h; omega)) ?_
   refine wN_seq ?_
   refine wN_mov (v := iv (g.rate bi bj)) rfl ?_
   refine wN_c_eql (a := (g.rate bi bj)) (b := 0) rfl rfl ?_
   refine wN_end ?_
   refine And.intro (fun q3 => ?_) (fun q3 => ?_)
   ·have q3 : (g.rate bi bj) = 0 := by simpa using q3
    refine wN_seq ?_
    refine wN_pur (v := .agg #[iv 0, iv 0, iv 0, iv 0, iv 0, iv 0, iv 0, iv 0]) rfl (by kernel_rfl) ?_
    refine wN_mov (v := .slice none 0 0) rfl ?_
    refine wN_sta (b := z5) (o := 0) rfl rfl c5 (by omega) rfl rfl (by simp) ?_
    intro H30 kH30 nH30 sH30
    have mH30 := kH30.1
    have hk := hk.new kH30 (fun b hb => by simp at hb ⊢; omega)
    have hat := hat.keep kH30 (fun x hx => by first | (simp at hx; done) | (simp at hx; omega))
    have rs := kH30.rd rs (by simp <;> omega)
    have rb := kH30.rd rb (by simp <;> omega)
    have rr := kH30.rd rr (by simp <;> omega)
    have c2 := kH30.cl c2 (by simp <;> omega)
    have c10 := kH30.cl c10 (by simp <;> omega)
    have c12 := kH30.cl c12 (by simp <;> omega)
    have c15 := kH30.cl c15 (by simp <;> omega)
    have c18 := kH30.cl c18 (by simp <;> omega)
    have hacc := hacc.keepX kH30 (by omega)
    have c22 := kH30.cl c22 (by simp <;> omega)
    have c24 := kH30.cl c24 (by simp <;> omega)
    have c9 := kH30.cl c9 (by simp <;> omega)
    have ri := kH30.rd ri (by simp <;> omega)
    have c5 : Cl H30 z5 [iv 0, iv 0, iv 0, iv 0, iv 0, iv 0, iv 0, iv 0] := sH30
    refine wN_mov (v := .bool false) rfl ?_
    refine wN_end ?_
    exact And.intro trivial (Exists.intro _ (And.intro (res_tct rfl rfl a36 i36s rfl c5 rfl) ⟨hk, .inr ⟨can_false (show i < g.bn - 1 by omega) (by rw [ebi, ebj]; omega), rfl⟩⟩))
   ·have q3 : ¬ ((g.rate bi bj) = 0) := by simpa using q3
    have hr1 : 1 ≤ g.rate bi bj := (by omega); have bd2 := Fh.bd v hat ho1; have nb2 : 1 ≤ (g.B bj).need ∧ (g.B bj).need ≤ 68719476736 := bd2.need
    have hup := upq_in (a := (g.B bj).need) (b := g.rate bi bj) ⟨by omega, by omega⟩ hr1
    have hcn : g.can o (i + 1) = true := by rw [Fh.can_step, hcan, ebi, ebj, decide_eq_true (show g.rate bi bj ≠ 0 by omega)]; rfl
    refine wD_seq ?_
    refine wD_addo (b := z2) (o := 0) rfl ?_
    refine wD_ld (b := z2) (o := 0) (v := .slice (some ⟨xb, 0, none⟩) g.bn g.bcap) rfl c2.rd (show _ = some (Value.slice (some ⟨xb, 0, none⟩) g.bn g.bcap) from by rw [← eb]; rfl) ?_
    refine wD_mov (v := .slice (some ⟨sb, 0, none⟩) g.bn cap) rfl ?_
    refine wD_mov (v := iv (i : Int)) rfl ?_
    refine wD_add (a := (i : Int)) (b := 1) rfl rfl ⟨by omega, by omega⟩ ?_
    refine wD_idx (b := sb) (o := 0) (k := (i + 1)) (j := (i : Int) + 1) rfl rfl (by omega) hi1 ?_
    refine wD_ld (b := sb) (o := 0 + (i + 1) * 1) (v := iv (bj : Int)) rfl rs (ints_at huj) ?_
    refine wD_idx (b := xb) (o := 0) (k := bj) (j := (bj : Int)) rfl rfl rfl ho1 ?_
    refine wD_addo (b := xb) (o := 0 + bj * 4) rfl ?_
    refine wD_ld (b := xb) (o := 0 + bj * 4) (v := iv ((g.B bj).need)) rfl rb (bgc_at (j := 0) (getB (g := g) (i := bj) (by rw [hat.bl]; omega)) rfl) ?_
    refine wD_mov (v := iv ((g.B bj).need)) rfl ?_
    refine wD_end (by repeat' first | exact True.intro | exact (fun h => h) | refine And.intro ?_ ?_ | (intro h; have h : (_ : Nat) = _ := h; omega)) ?_
    refine wD_seq ?_
    refine wD_addo (b := z9) (o := 0) rfl ?_
    refine wD_lda (b := z9) (o := 0) rfl c9.rd (show row 2 _ _ = some [iv ((g.st o i).t1), iv ((g.st o i).t2)] from rfl) ?_
    refine wD_mov (v := iv ((g.B bj).need)) rfl ?_
    obtain ⟨H31, fH31, kH31⟩ := one54_ok (kn := kn) (lo := H27.next) (H := H27) (a := (g.B bj).need) (by omega)
    refine wD_callh (vs := [iv ((g.B bj).need)]) rfl (by kernel_rfl) (callX_args fH31) ?_
    have mH31 := kH31.1
    have hk := hk.trans kH31
    have hat := hat.keep kH31 (by simp)
    have rs := kH31.rd rs (by simp)
    have rb := kH31.rd rb (by simp)
    have rr := kH31.rd rr (by simp)
    have c2 := kH31.cl c2 (by simp)
    have c5 := kH31.cl c5 (by simp)
    have c10 := kH31.cl c10 (by simp)
    have c12 := kH31.cl c12 (by simp)
    have c15 := kH31.cl c15 (by simp)
    have c18 := kH31.cl c18 (by simp)
    have hacc := hacc.keep kH31
    have c22 := kH31.cl c22 (by simp)
    have c24 := kH31.cl c24 (by simp)
    have c9 := kH31.cl c9 (by simp)
    have ri := kH31.rd ri (by simp)
    refine wD_lda (b := H23.next) (o := 0) rfl c24.rd (show row 2 _ _ = some [iv (((g.B bi).need) - (min ((g.B bi).need) ((g.W bi).2 * (g.B bi).l2))), iv (((g.B bi).need) - (min ((g.B bi).need) ((g.W bi).1 * (g.B bi).l1)))] from rfl) ?_
    obtain ⟨H32, fH32, kH32⟩ := over57_ok (kn := kn) (lo := H31.next) (H := H31) (a := (g.B bj).need) (b := (g.B bj).need) (c := ((g.B bi).need) - (min ((g.B bi).need) ((g.W bi).2 * (g.B bi).l2))) (d := ((g.B bi).need) - (min ((g.B bi).need) ((g.W bi).1 * (g.B bi).l1))) ⟨by (have z1 := hin.f1; have z2 := hin.f2; have z3 := hin.t1; have z4 := hin.t2; have z5 := hin.s1; have z6 := hin.s2; have y1 := bd.w1; have y2 := bd.w2; have y4 := bd.m1; have y5 := bd.m2; have y6 := nb; have y7 := hlbi; omega), by (have z1 := hin.f1; have z2 := hin.f2; have z3 := hin.t1; have z4 := hin.t2; have z5 := hin.s1; have z6 := hin.s2; have y1 := bd.w1; have y2 := bd.w2; have y4 := bd.m1; have y5 := bd.m2; have y6 := nb; have y7 := hlbi; omega), by (have z1 := hin.f1; have z2 := hin.f2; have z3 := hin.t1; have z4 := hin.t2; have z5 := hin.s1; have z6 := hin.s2; have y1 := bd.w1; have y2 := bd.w2; have y4 := bd.m1; have y5 := bd.m2; have y6 := nb; have y7 := hlbi; omega), by (have z1 := hin.f1; have z2 := hin.f2; have z3 := hin.t1; have z4 := hin.t2; have z5 := hin.s1; have z6 := hin.s2; have y1 := bd.w1; have y2 := bd.w2; have y4 := bd.m1; have y5 := bd.m2; have y6 := nb; have y7 := hlbi; omega)⟩ (by omega)
    refine wD_callh (vs := [.agg #[iv ((g.B bj).need), iv ((g.B bj).need)], .agg #[iv (((g.B bi).need) - (min ((g.B bi).need) ((g.W bi).2 * (g.B bi).l2))), iv (((g.B bi).need) - (min ((g.B bi).need) ((g.W bi).1 * (g.B bi).l1)))]]) rfl (by kernel_rfl) (callX_args fH32) ?_
    have mH32 := kH32.1
    have hk := hk.trans kH32
    have hat := hat.keep kH32 (by simp)
    have rs := kH32.rd rs (by simp)
    have rb := kH32.rd rb (by simp)
    have rr := kH32.rd rr (by simp)
    have c2 := kH32.cl c2 (by simp)
    have c5 := kH32.cl c5 (by simp)
    have c10 := kH32.cl c10 (by simp)
    have c12 := kH32.cl c12 (by simp)
    have c15 := kH32.cl c15 (by simp)
    have c18 := kH32.cl c18 (by simp)
    have hacc := hacc.keep kH32
    have c22 := kH32.cl c22 (by simp)
    have c24 := kH32.cl c24 (by simp)
    have c9 := kH32.cl c9 (by simp)
    have ri := kH32.rd ri (by simp)
    obtain ⟨H33, fH33, kH33⟩ := plus56_ok (kn := kn) (lo := lo) (H := H32) (a := (g.st o i).t1) (b := (g.st o i).t2) (c := max 0 ((g.B bj).need - (((g.B bi).need) - (min ((g.B bi).need) ((g.W bi).1 * (g.B bi).l1))))) (d := max 0 ((g.B bj).need - (((g.B bi).need) - (min ((g.B bi).need) ((g.W bi).2 * (g.B bi).l2))))) ⟨by (have z1 := hin.f1; have z2 := hin.f2; have z3 := hin.t1; have z4 := hin.t2; have z5 := hin.s1; have z6 := hin.s2; have y1 := bd.w1; have y2 := bd.w2; have y4 := bd.m1; have y5 := bd.m2; have y6 := nb; have y7 := hlbi; omega), by (have z1 := hin.f1; have z2 := hin.f2; have z3 := hin.t1; have z4 := hin.t2; have z5 := hin.s1; have z6 := hin.s2; have y1 := bd.w1; have y2 := bd.w2; have y4 := bd.m1; have y5 := bd.m2; have y6 := nb; have y7 := hlbi; omega), by (have z1 := hin.f1; have z2 := hin.f2; have z3 := hin.t1; have z4 := hin.t2; have z5 := hin.s1; have z6 := hin.s2; have y1 := bd.w1; have y2 := bd.w2; have y4 := bd.m1; have y5 := bd.m2; have y6 := nb; have y7 := hlbi; omega), by (have z1 := hin.f1; have z2 := hin.f2; have z3 := hin.t1; have z4 := hin.t2; have z5 := hin.s1; have z6 := hin.s2; have y1 := bd.w1; have y2 := bd.w2; have y4 := bd.m1; have y5 := bd.m2; have y6 := nb; have y7 := hlbi; omega)⟩ (by omega)
    refine wD_callf (vs := [.agg #[iv ((g.st o i).t1), iv ((g.st o i).t2)], .agg #[iv (max 0 ((g.B bj).need - (((g.B bi).need) - (min ((g.B bi).need) ((g.W bi).1 * (g.B bi).l1))))), iv (max 0 ((g.B bj).need - (((g.B bi).need) - (min ((g.B bi).need) ((g.W bi).2 * (g.B bi).l2)))))]]) rfl (callX_args fH33) ?_
    have mH33 := kH33.1
    have hk := hk.trans kH33
    have hat := hat.keep kH33 (by simp)
    have rs := kH33.rd rs (by simp)
    have rb := kH33.rd rb (by simp)
    have rr := kH33.rd rr (by simp)
    have c2 := kH33.cl c2 (by simp)
    have c5 := kH33.cl c5 (by simp)
    have c10 := kH33.cl c10 (by simp)
    have c12 := kH33.cl c12 (by simp)
    have c15 := kH33.cl c15 (by simp)
    have c18 := kH33.cl c18 (by simp)
    have hacc := hacc.keep kH33
    have c22 := kH33.cl c22 (by simp)
    have c24 := kH33.cl c24 (by simp)
    have c9 := kH33.cl c9 (by simp)
    have ri := kH33.rd ri (by simp)
    refine wD_addo (b := z9) (o := 0) rfl ?_
    refine wD_sta (b := z9) (o := 0) rfl rfl c9 (by omega) rfl rfl (by simp) ?_
    intro H34 kH34 nH34 sH34
    have mH34 := kH34.1
    have hk := hk.new kH34 (fun b hb => by simp at hb ⊢; omega)
    have hat := hat.keep kH34 (fun x hx => by first | (simp at hx; done) | (simp at hx; omega))
    have rs := kH34.rd rs (by simp <;> omega)
    have rb := kH34.rd rb (by simp <;> omega)
    have rr := kH34.rd rr (by simp <;> omega)
    have c2 := kH34.cl c2 (by simp <;> omega)
    have c5 := kH34.cl c5 (by simp <;> omega)
    have c10 := kH34.cl c10 (by simp <;> omega)
    have c12 := kH34.cl c12 (by simp <;> omega)
    have c15 := kH34.cl c15 (by simp <;> omega)
    have c18 := kH34.cl c18 (by simp <;> omega)
    have hacc := hacc.keepX kH34 (by omega)
    have c22 := kH34.cl c22 (by simp <;> omega)
    have c24 := kH34.cl c24 (by simp <;> omega)
    have ri := kH34.rd ri (by simp <;> omega)
    have c9 : Cl H34 z9 [iv (((g.st o i).t1) + (max 0 ((g.B bj).need - (((g.B bi).need) - (min ((g.B bi).need) ((g.W bi).1 * (g.B bi).l1)))))), iv (((g.st o i).t2) + (max 0 ((g.B bj).need - (((g.B bi).need) - (min ((g.B bi).need) ((g.W bi).2 * (g.B bi).l2)))))), iv (((g.lb o i).1) + (min ((g.B bi).need) ((g.W bi).1 * (g.B bi).l1))), iv (((g.lb o i).2) + (min ((g.B bi).need) ((g.W bi).2 * (g.B bi).l2))), iv ((g.st o i).s1), iv ((g.st o i).s2), iv 0, iv 0] := sH34
    refine wD_end (by repeat' first | exact True.intro | exact (fun h => h) | refine And.intro ?_ ?_ | (intro h; have h : (_ : Nat) = _ := h; omega)) ?_
    refine wD_seq ?_
    refine wD_addo (b := z9) (o := 0) rfl ?_
    refine wD_lda (b := z9) (o := 4) rfl c9.rd (show row 2 _ _ = some [iv ((g.st o i).s1), iv ((g.st o i).s2)] from rfl) ?_
    refine wD_lda (b := H23.next) (o := 0) rfl c24.rd (show row 2 _ _ = some [iv (((g.B bi).need) - (min ((g.B bi).need) ((g.W bi).2 * (g.B bi).l2))), iv (((g.B bi).need) - (min ((g.B bi).need) ((g.W bi).1 * (g.B bi).l1)))] from rfl) ?_
    refine wD_mov (v := iv ((g.B bj).need)) rfl ?_
    obtain ⟨H35, fH35, kH35⟩ := one54_ok (kn := kn) (lo := H34.next) (H := H34) (a := (g.B bj).need) (by omega)
    refine wD_callh (vs := [iv ((g.B bj).need)]) rfl (by kernel_rfl) (callX_args fH35) ?_
    have mH35 := kH35.1
    have hk := hk.trans kH35
    have hat := hat.keep kH35 (by simp)
    have rs := kH35.rd rs (by simp)
    have rb := kH35.rd rb (by simp)
    have rr := kH35.rd rr (by simp)
    have c2 := kH35.cl c2 (by simp)
    have c5 := kH35.cl c5 (by simp)
    have c10 := kH35.cl c10 (by simp)
    have c12 := kH35.cl c12 (by simp)
    have c15 := kH35.cl c15 (by simp)
    have c18 := kH35.cl c18 (by simp)
    have hacc := hacc.keep kH35
    have c22 := kH35.cl c22 (by simp)
    have c24 := kH35.cl c24 (by simp)
    have ri := kH35.rd ri (by simp)
    have c9 := kH35.cl c9 (by simp)
    obtain ⟨H36, fH36, kH36⟩ := over57_ok (kn := kn) (lo := H35.next) (H := H35) (a := ((g.B bi).need) - (min ((g.B bi).need) ((g.W bi).2 * (g.B bi).l2))) (b := ((g.B bi).need) - (min ((g.B bi).need) ((g.W bi).1 * (g.B bi).l1))) (c := (g.B bj).need) (d := (g.B bj).need) ⟨by (have z1 := hin.f1; have z2 := hin.f2; have z3 := hin.t1; have z4 := hin.t2; have z5 := hin.s1; have z6 := hin.s2; have y1 := bd.w1; have y2 := bd.w2; have y4 := bd.m1; have y5 := bd.m2; have y6 := nb; have y7 := hlbi; omega), by (have z1 := hin.f1; have z2 := hin.f2; have z3 := hin.t1; have z4 := hin.t2; have z5 := hin.s1; have z6 := hin.s2; have y1 := bd.w1; have y2 := bd.w2; have y4 := bd.m1; have y5 := bd.m2; have y6 := nb; have y7 := hlbi; omega), by (have z1 := hin.f1; have z2 := hin.f2; have z3 := hin.t1; have z4 := hin.t2; have z5 := hin.s1; have z6 := hin.s2; have y1 := bd.w1; have y2 := bd.w2; have y4 := bd.m1; have y5 := bd.m2; have y6 := nb; have y7 := hlbi; omega), by (have z1 := hin.f1; have z2 := hin.f2; have z3 := hin.t1; have z4 := hin.t2; have z5 := hin.s1; have z6 := hin.s2; have y1 := bd.w1; have y2 := bd.w2; have y4 := bd.m1; have y5 := bd.m2; have y6 := nb; have y7 := hlbi; omega)⟩ (by omega)
    refine wD_callh (vs := [.agg #[iv (((g.B bi).need) - (min ((g.B bi).need) ((g.W bi).2 * (g.B bi).l2))), iv (((g.B bi).need) - (min ((g.B bi).need) ((g.W bi).1 * (g.B bi).l1)))], .agg #[iv ((g.B bj).need), iv ((g.B bj).need)]]) rfl (by kernel_rfl) (callX_args fH36) ?_
    have mH36 := kH36.1
    have hk := hk.trans kH36
    have hat := hat.keep kH36 (by simp)
    have rs := kH36.rd rs (by simp)
    have rb := kH36.rd rb (by simp)
    have rr := kH36.rd rr (by simp)
    have c2 := kH36.cl c2 (by simp)
    have c5 := kH36.cl c5 (by simp)
    have c10 := kH36.cl c10 (by simp)
    have c12 := kH36.cl c12 (by simp)
    have c15 := kH36.cl c15 (by simp)
    have c18 := kH36.cl c18 (by simp)
    have hacc := hacc.keep kH36
    have c22 := kH36.cl c22 (by simp)
    have c24 := kH36.cl c24 (by simp)
    have ri := kH36.rd ri (by simp)
    have c9 := kH36.cl c9 (by simp)
    obtain ⟨H37, fH37, kH37⟩ := plus56_ok (kn := kn) (lo := lo) (H := H36) (a := (g.st o i).s1) (b := (g.st o i).s2) (c := max 0 (((g.B bi).need) - (min ((g.B bi).need) ((g.W bi).2 * (g.B bi).l2)) - ((g.B bj).need))) (d := max 0 (((g.B bi).need) - (min ((g.B bi).need) ((g.W bi).1 * (g.B bi).l1)) - ((g.B bj).need))) ⟨by (have z1 := hin.f1; have z2 := hin.f2; have z3 := hin.t1; have z4 := hin.t2; have z5 := hin.s1; have z6 := hin.s2; have y1 := bd.w1; have y2 := bd.w2; have y4 := bd.m1; have y5 := bd.m2; have y6 := nb; have y7 := hlbi; omega), by (have z1 := hin.f1; have z2 := hin.f2; have z3 := hin.t1; have z4 := hin.t2; have z5 := hin.s1; have z6 := hin.s2; have y1 := bd.w1; have y2 := bd.w2; have y4 := bd.m1; have y5 := bd.m2; have y6 := nb; have y7 := hlbi; omega), by (have z1 := hin.f1; have z2 := hin.f2; have z3 := hin.t1; have z4 := hin.t2; have z5 := hin.s1; have z6 := hin.s2; have y1 := bd.w1; have y2 := bd.w2; have y4 := bd.m1; have y5 := bd.m2; have y6 := nb; have y7 := hlbi; omega), by (have z1 := hin.f1; have z2 := hin.f2; have z3 := hin.t1; have z4 := hin.t2; have z5 := hin.s1; have z6 := hin.s2; have y1 := bd.w1; have y2 := bd.w2; have y4 := bd.m1; have y5 := bd.m2; have y6 := nb; have y7 := hlbi; omega)⟩ (by omega)
    refine wD_callf (vs := [.agg #[iv ((g.st o i).s1), iv ((g.st o i).s2)], .agg #[iv (max 0 (((g.B bi).need) - (min ((g.B bi).need) ((g.W bi).2 * (g.B bi).l2)) - ((g.B bj).need))), iv (max 0 (((g.B bi).need) - (min ((g.B bi).need) ((g.W bi).1 * (g.B bi).l1)) - ((g.B bj).need)))]]) rfl (callX_args fH37) ?_
    have mH37 := kH37.1
    have hk := hk.trans kH37
    have hat := hat.keep kH37 (by simp)
    have rs := kH37.rd rs (by simp)
    have rb := kH37.rd rb (by simp)
    have rr := kH37.rd rr (by simp)
    have c2 := kH37.cl c2 (by simp)
    have c5 := kH37.cl c5 (by simp)
    have c10 := kH37.cl c10 (by simp)
    have c12 := kH37.cl c12 (by simp)
    have c15 := kH37.cl c15 (by simp)
    have c18 := kH37.cl c18 (by simp)
    have hacc := hacc.keep kH37
    have c22 := kH37.cl c22 (by simp)
    have c24 := kH37.cl c24 (by simp)
    have ri := kH37.rd ri (by simp)
    have c9 := kH37.cl c9 (by simp)
    refine wD_addo (b := z9) (o := 0) rfl ?_
    refine wD_sta (b := z9) (o := 4) rfl rfl c9 (by omega) rfl rfl (by simp) ?_
    intro H38 kH38 nH38 sH38
    have mH38 := kH38.1
    have hk := hk.new kH38 (fun b hb => by simp at hb ⊢; omega)
    have hat := hat.keep kH38 (fun x hx => by first | (simp at hx; done) | (simp at hx; omega))
    have rs := kH38.rd rs (by simp <;> omega)
    have rb := kH38.rd rb (by simp <;> omega)
    have rr := kH38.rd rr (by simp <;> omega)
    have c2 := kH38.cl c2 (by simp <;> omega)
    have c5 := kH38.cl c5 (by simp <;> omega)
    have c10 := kH38.cl c10 (by simp <;> omega)
    have c12 := kH38.cl c12 (by simp <;> omega)
    have c15 := kH38.cl c15 (by simp <;> omega)
    have c18 := kH38.cl c18 (by simp <;> omega)
    have hacc := hacc.keepX kH38 (by omega)
    have c22 := kH38.cl c22 (by simp <;> omega)
    have c24 := kH38.cl c24 (by simp <;> omega)
    have ri := kH38.rd ri (by simp <;> omega)
    have c9 : Cl H38 z9 [iv (((g.st o i).t1) + (max 0 ((g.B bj).need - (((g.B bi).need) - (min ((g.B bi).need) ((g.W bi).1 * (g.B bi).l1)))))), iv (((g.st o i).t2) + (max 0 ((g.B bj).need - (((g.B bi).need) - (min ((g.B bi).need) ((g.W bi).2 * (g.B bi).l2)))))), iv (((g.lb o i).1) + (min ((g.B bi).need) ((g.W bi).1 * (g.B bi).l1))), iv (((g.lb o i).2) + (min ((g.B bi).need) ((g.W bi).2 * (g.B bi).l2))), iv (((g.st o i).s1) + (max 0 (((g.B bi).need) - (min ((g.B bi).need) ((g.W bi).2 * (g.B bi).l2)) - ((g.B bj).need)))), iv (((g.st o i).s2) + (max 0 (((g.B bi).need) - (min ((g.B bi).need) ((g.W bi).1 * (g.B bi).l1)) - ((g.B bj).need)))), iv 0, iv 0] := sH38
    refine wD_end (by repeat' first | exact True.intro | exact (fun h => h) | refine And.intro ?_ ?_ | (intro h; have h : (_ : Nat) = _ := h; omega)) ?_
    first | refine wD_dreg ?_ | (refine wOps_nil ?_; refine wD_dreg ?_)
    refine wD_lda (b := H17.next) (o := 0) rfl c18.rd (show row 2 _ _ = some [iv (((g.st o i).f1) + ((g.W bi).1)), iv (((g.st o i).f2) + ((g.W bi).2))] from rfl) ?_
    refine wD_mov (v := iv ((g.B bj).need)) rfl ?_
    refine wD_mov (v := iv (g.rate bi bj)) rfl ?_
    obtain ⟨H39, fH39, kH39⟩ := up55_ok (kn := kn) (lo := H38.next) (H := H38) (a := (g.B bj).need) (b := (g.rate bi bj)) (by omega) (by omega)
    refine wD_callh (vs := [iv ((g.B bj).need), iv (g.rate bi bj)]) rfl (by kernel_rfl) (callX_args fH39) ?_
    have mH39 := kH39.1
    have hk := hk.trans kH39
    have hat := hat.keep kH39 (by simp)
    have rs := kH39.rd rs (by simp)
    have rb := kH39.rd rb (by simp)
    have rr := kH39.rd rr (by simp)
    have c2 := kH39.cl c2 (by simp)
    have c5 := kH39.cl c5 (by simp)
    have c10 := kH39.cl c10 (by simp)
    have c12 := kH39.cl c12 (by simp)
    have c15 := kH39.cl c15 (by simp)
    have c18 := kH39.cl c18 (by simp)
    have hacc := hacc.keep kH39
    have c22 := kH39.cl c22 (by simp)
    have c24 := kH39.cl c24 (by simp)
    have ri := kH39.rd ri (by simp)
    have c9 := kH39.cl c9 (by simp)
    obtain ⟨H40, fH40, kH40⟩ := one54_ok (kn := kn) (lo := H39.next) (H := H39) (a := upq ((g.B bj).need) (g.rate bi bj)) (by omega)
    refine wD_callh (vs := [iv (upq ((g.B bj).need) (g.rate bi bj))]) rfl (by kernel_rfl) (callX_args fH40) ?_
    have mH40 := kH40.1
    have hk := hk.trans kH40
    have hat := hat.keep kH40 (by simp)
    have rs := kH40.rd rs (by simp)
    have rb := kH40.rd rb (by simp)
    have rr := kH40.rd rr (by simp)
    have c2 := kH40.cl c2 (by simp)
    have c5 := kH40.cl c5 (by simp)
    have c10 := kH40.cl c10 (by simp)
    have c12 := kH40.cl c12 (by simp)
    have c15 := kH40.cl c15 (by simp)
    have c18 := kH40.cl c18 (by simp)
    have hacc := hacc.keep kH40
    have c22 := kH40.cl c22 (by simp)
    have c24 := kH40.cl c24 (by simp)
    have ri := kH40.rd ri (by simp)
    have c9 := kH40.cl c9 (by simp)
    obtain ⟨H41, fH41, kH41⟩ := plus56_ok (kn := kn) (lo := lo) (H := H40) (a := ((g.st o i).f1) + ((g.W bi).1)) (b := ((g.st o i).f2) + ((g.W bi).2)) (c := upq ((g.B bj).need) (g.rate bi bj)) (d := upq ((g.B bj).need) (g.rate bi bj)) ⟨by (have z1 := hin.f1; have z2 := hin.f2; have z3 := hin.t1; have z4 := hin.t2; have z5 := hin.s1; have z6 := hin.s2; have y1 := bd.w1; have y2 := bd.w2; have y4 := bd.m1; have y5 := bd.m2; have y6 := nb; have y7 := hlbi; omega), by (have z1 := hin.f1; have z2 := hin.f2; have z3 := hin.t1; have z4 := hin.t2; have z5 := hin.s1; have z6 := hin.s2; have y1 := bd.w1; have y2 := bd.w2; have y4 := bd.m1; have y5 := bd.m2; have y6 := nb; have y7 := hlbi; omega), by (have z1 := hin.f1; have z2 := hin.f2; have z3 := hin.t1; have z4 := hin.t2; have z5 := hin.s1; have z6 := hin.s2; have y1 := bd.w1; have y2 := bd.w2; have y4 := bd.m1; have y5 := bd.m2; have y6 := nb; have y7 := hlbi; omega), by (have z1 := hin.f1; have z2 := hin.f2; have z3 := hin.t1; have z4 := hin.t2; have z5 := hin.s1; have z6 := hin.s2; have y1 := bd.w1; have y2 := bd.w2; have y4 := bd.m1; have y5 := bd.m2; have y6 := nb; have y7 := hlbi; omega)⟩ (by omega)
    refine wD_callf (vs := [.agg #[iv (((g.st o i).f1) + ((g.W bi).1)), iv (((g.st o i).f2) + ((g.W bi).2))], .agg #[iv (upq ((g.B bj).need) (g.rate bi bj)), iv (upq ((g.B bj).need) (g.rate bi bj))]]) rfl (callX_args fH41) ?_
    have mH41 := kH41.1
    have hk := hk.trans kH41
    have hat := hat.keep kH41 (by simp)
    have rs := kH41.rd rs (by simp)
    have rb := kH41.rd rb (by simp)
    have rr := kH41.rd rr (by simp)
    have c2 := kH41.cl c2 (by simp)
    have c5 := kH41.cl c5 (by simp)
    have c10 := kH41.cl c10 (by simp)
    have c12 := kH41.cl c12 (by simp)
    have c15 := kH41.cl c15 (by simp)
    have c18 := kH41.cl c18 (by simp)
    have hacc := hacc.keep kH41
    have c22 := kH41.cl c22 (by simp)
    have c24 := kH41.cl c24 (by simp)
    have ri := kH41.rd ri (by simp)
    have c9 := kH41.cl c9 (by simp)
    refine wD_sta (b := z10) (o := 0) rfl rfl c10 (by omega) rfl rfl (by simp) ?_
    intro H42 kH42 nH42 sH42
    have mH42 := kH42.1
    have hk := hk.new kH42 (fun b hb => by simp at hb ⊢; omega)
    have hat := hat.keep kH42 (fun x hx => by first | (simp at hx; done) | (simp at hx; omega))
    have rs := kH42.rd rs (by simp <;> omega)
    have rb := kH42.rd rb (by simp <;> omega)
    have rr := kH42.rd rr (by simp <;> omega)
    have c2 := kH42.cl c2 (by simp <;> omega)
    have c5 := kH42.cl c5 (by simp <;> omega)
    have c12 := kH42.cl c12 (by simp <;> omega)
    have c15 := kH42.cl c15 (by simp <;> omega)
    have c18 := kH42.cl c18 (by simp <;> omega)
    have hacc := hacc.keepX kH42 (by omega)
    have c22 := kH42.cl c22 (by simp <;> omega)
    have c24 := kH42.cl c24 (by simp <;> omega)
    have ri := kH42.rd ri (by simp <;> omega)
    have c9 := kH42.cl c9 (by simp <;> omega)
    have c10 : Cl H42 z10 [iv ((((g.st o i).f1) + ((g.W bi).1)) + (upq ((g.B bj).need) (g.rate bi bj))), iv ((((g.st o i).f2) + ((g.W bi).2)) + (upq ((g.B bj).need) (g.rate bi bj)))] := sH42
    refine wD_end (by repeat' first | exact True.intro | exact (fun h => h) | refine And.intro ?_ ?_ | (intro h; have h : (_ : Nat) = _ := h; omega)) ?_
    first | refine wN_reg ?_ | (refine wOps_nil ?_; refine wN_reg ?_)
    refine wN_mov (v := iv (i : Int)) rfl ?_
    refine wN_add (a := (i : Int)) (b := 1) rfl rfl ⟨by omega, by omega⟩ ?_
    refine wN_mov (v := iv ((i : Int) + 1)) rfl ?_
    refine wN_end ?_
    obtain ⟨x1, x2, x3, x4, x5, x6, x7, x8⟩ := nx_eq (g := g) ebi ebj
    refine ⟨q - 1, (_, i + 1), by omega, ⟨by show i + 1 + (q - 1) = g.bn; omega, by show i + 1 < g.bn; omega, hk, hat, rs, rb, rr, c2, c5, ?_, ?_, ?_, by omega, hcn⟩, rfl, rfl, rfl, rfl, rfl, rfl, rfl, trivial⟩
    ·show Cl _ _ [iv (g.st o (i + 1)).t1, iv (g.st o (i + 1)).t2, iv (g.lb o (i + 1)).1, iv (g.lb o (i + 1)).2, iv (g.st o (i + 1)).s1, iv (g.st o (i + 1)).s2, iv 0, iv 0]
     rw [x1, x2, x3, x4, x7, x8]; exact c9
    ·show Cl _ _ [iv (g.st o (i + 1)).f1, iv (g.st o (i + 1)).f2]
     rw [x5, x6]; exact c10
    ·exact hacc
 ·have q1 : ¬ ((i : Int) < (g.bn : Int)) := of_decide_eq_false q1
  omega
end
end Go.Ax
/-! What 'low' makes of functions of flood (written by program). -/
namespace Go.Ax
open Go Go.RowKit Go.Proofs
noncomputable def R3 : RC := (.seq (.reg [⟨(some 4), none, (.box 25 (.tmp 0))⟩, ⟨(some 8), none, (.mov (.const (.bool false)))⟩])
 (.seq (.seq (.reg [⟨(some 23), none, (.lda (.tmp 4) 5)⟩, ⟨(some 24), none, (.call ⟨(.value (.func 12)), (List.toArray [(.tmp 23), (.const (.int .i64 7))]), (List.toArray [25, 3])⟩ true)⟩, ⟨(some 25), none, (.mov (.tmp 24))⟩, ⟨(some 26), (some (25, false)), (.mov (.tmp 2))⟩, ⟨(some 27), (some (25, false)), (.len (.tmp 26))⟩, ⟨(some 28), (some (25, false)), (.cmpb .gtr (.tmp 27) (.const (.int .i64 12)))⟩, ⟨(some 29), none, (.pur ⟨(some 29), (.pick (.tmp 25) (.const (.bool true)) (.tmp 28)), 4, "", (List.toArray []), none⟩)⟩])
 (.cond (.tmp 29) (.seq (.reg [⟨(some 30), none, (.call ⟨(.value (.func 13)), (List.toArray []), (List.toArray [])⟩ true)⟩, ⟨(some 8), none, (.mov (.tmp 30))⟩])
 .ret)
 .skip))
 (.seq (.reg [⟨(some 32), none, (.lda (.tmp 4) 5)⟩, ⟨(some 33), none, (.mov (.tmp 1))⟩, ⟨(some 34), none, (.call ⟨(.value (.func 14)), (List.toArray [(.tmp 32), (.tmp 33)]), (List.toArray [25, 3])⟩ true)⟩, ⟨(some 31), none, (.mov (.tmp 34))⟩, ⟨(some 35), none, (.pur ⟨(some 35), (.extract (.tmp 31) 0), 30, "", (List.toArray []), none⟩)⟩, ⟨(some 36), none, (.pur ⟨(some 36), (.extract (.tmp 31) 1), 31, "", (List.toArray []), none⟩)⟩, ⟨(some 9), none, (.alc 30 [(.int .i64 0), (.int .i64 0)])⟩, ⟨none, none, (.sta (.tmp 9) (.tmp 35) 2)⟩, ⟨(some 10), none, (.mov (.tmp 36))⟩])
 (.seq (.reg [⟨(some 38), none, (.lda (.tmp 4) 5)⟩, ⟨(some 39), none, (.mov (.tmp 1))⟩, ⟨(some 40), none, (.call ⟨(.value (.func 15)), (List.toArray [(.tmp 38), (.tmp 39)]), (List.toArray [25, 3])⟩ true)⟩, ⟨(some 37), none, (.mov (.tmp 40))⟩, ⟨(some 41), none, (.pur ⟨(some 41), (.extract (.tmp 37) 0), 30, "", (List.toArray []), none⟩)⟩, ⟨(some 42), none, (.pur ⟨(some 42), (.extract (.tmp 37) 1), 31, "", (List.toArray []), none⟩)⟩, ⟨(some 11), none, (.alc 30 [(.int .i64 0), (.int .i64 0)])⟩, ⟨none, none, (.sta (.tmp 11) (.tmp 41) 2)⟩, ⟨(some 12), none, (.mov (.tmp 42))⟩])
 (.seq (.reg [⟨(some 44), none, (.lda (.tmp 4) 5)⟩, ⟨(some 45), none, (.mov (.tmp 2))⟩, ⟨(some 46), none, (.call ⟨(.value (.func 16)), (List.toArray [(.tmp 44), (.tmp 45)]), (List.toArray [25, 26])⟩ true)⟩, ⟨(some 43), none, (.mov (.tmp 46))⟩, ⟨(some 47), none, (.pur ⟨(some 47), (.extract (.tmp 43) 0), 34, "", (List.toArray []), none⟩)⟩, ⟨(some 48), none, (.pur ⟨(some 48), (.extract (.tmp 43) 1), 36, "", (List.toArray []), none⟩)⟩, ⟨(some 49), none, (.pur ⟨(some 49), (.extract (.tmp 43) 2), 31, "", (List.toArray []), none⟩)⟩, ⟨(some 14), none, (.alc 36 [(.int .i64 0), (.int .i64 0), (.int .i64 0), (.int .i64 0), (.int .i64 0), (.int .i64 0), (.int .i64 0), (.int .i64 0)])⟩, ⟨(some 13), none, (.mov (.tmp 47))⟩, ⟨none, none, (.sta (.tmp 14) (.tmp 48) 8)⟩, ⟨(some 15), none, (.mov (.tmp 49))⟩])
 (.seq (.reg [⟨(some 51), none, (.lda (.tmp 4) 5)⟩, ⟨(some 52), none, (.mov (.tmp 2))⟩, ⟨(some 53), none, (.call ⟨(.value (.func 17)), (List.toArray [(.tmp 51), (.tmp 52)]), (List.toArray [25, 26])⟩ true)⟩, ⟨(some 50), none, (.mov (.tmp 53))⟩, ⟨(some 54), none, (.pur ⟨(some 54), (.extract (.tmp 50) 0), 34, "", (List.toArray []), none⟩)⟩, ⟨(some 55), none, (.pur ⟨(some 55), (.extract (.tmp 50) 1), 36, "", (List.toArray []), none⟩)⟩, ⟨(some 56), none, (.pur ⟨(some 56), (.extract (.tmp 50) 2), 31, "", (List.toArray []), none⟩)⟩, ⟨(some 17), none, (.alc 36 [(.int .i64 0), (.int .i64 0), (.int .i64 0), (.int .i64 0), (.int .i64 0), (.int .i64 0), (.int .i64 0), (.int .i64 0)])⟩, ⟨(some 16), none, (.mov (.tmp 54))⟩, ⟨none, none, (.sta (.tmp 17) (.tmp 55) 8)⟩, ⟨(some 18), none, (.mov (.tmp 56))⟩])
 (.seq (.reg [⟨(some 58), none, (.lda (.tmp 4) 5)⟩, ⟨(some 59), none, (.mov (.tmp 2))⟩, ⟨(some 60), none, (.mov (.tmp 3))⟩, ⟨(some 61), none, (.call ⟨(.value (.func 18)), (List.toArray [(.tmp 58), (.tmp 59), (.tmp 60)]), (List.toArray [25, 26, 3])⟩ true)⟩, ⟨(some 57), none, (.mov (.tmp 61))⟩, ⟨(some 62), none, (.pur ⟨(some 62), (.extract (.tmp 57) 0), 3, "", (List.toArray []), none⟩)⟩, ⟨(some 63), none, (.pur ⟨(some 63), (.extract (.tmp 57) 1), 31, "", (List.toArray []), none⟩)⟩, ⟨(some 19), none, (.mov (.tmp 62))⟩, ⟨(some 20), none, (.mov (.tmp 63))⟩])
 (.seq (.reg [⟨(some 65), none, (.lda (.tmp 4) 5)⟩, ⟨(some 66), none, (.mov (.tmp 2))⟩, ⟨(some 67), none, (.mov (.tmp 3))⟩, ⟨(some 68), none, (.call ⟨(.value (.func 19)), (List.toArray [(.tmp 65), (.tmp 66), (.tmp 67)]), (List.toArray [25, 26, 3])⟩ true)⟩, ⟨(some 64), none, (.mov (.tmp 68))⟩, ⟨(some 69), none, (.pur ⟨(some 69), (.extract (.tmp 64) 0), 3, "", (List.toArray []), none⟩)⟩, ⟨(some 70), none, (.pur ⟨(some 70), (.extract (.tmp 64) 1), 31, "", (List.toArray []), none⟩)⟩, ⟨(some 21), none, (.mov (.tmp 69))⟩, ⟨(some 22), none, (.mov (.tmp 70))⟩])
 (.seq (.reg [⟨(some 71), none, (.lda (.tmp 9) 2)⟩, ⟨(some 72), none, (.lda (.tmp 11) 2)⟩, ⟨(some 73), none, (.pur ⟨(some 73), (.binOp .eql 30 (.tmp 71) (.tmp 72) 30), 4, "", (List.toArray []), none⟩)⟩, ⟨(some 74), none, (.mov (.tmp 73))⟩, ⟨(some 75), (some (74, true)), (.mov (.tmp 10))⟩, ⟨(some 76), (some (74, true)), (.mov (.tmp 12))⟩, ⟨(some 77), (some (74, true)), (.cmpb .eql (.tmp 75) (.tmp 76))⟩, ⟨(some 78), none, (.pur ⟨(some 78), (.pick (.tmp 74) (.tmp 77) (.const (.bool false))), 4, "", (List.toArray []), none⟩)⟩, ⟨(some 79), none, (.mov (.tmp 78))⟩, ⟨(some 80), (some (79, true)), (.mov (.tmp 13))⟩, ⟨(some 81), (some (79, true)), (.mov (.tmp 16))⟩, ⟨(some 82), (some (79, true)), (.call ⟨(.value (.func 20)), (List.toArray [(.tmp 80), (.tmp 81)]), (List.toArray [34, 34])⟩ true)⟩, ⟨(some 83), none, (.pur ⟨(some 83), (.pick (.tmp 79) (.tmp 82) (.const (.bool false))), 4, "", (List.toArray []), none⟩)⟩, ⟨(some 84), none, (.mov (.tmp 83))⟩, ⟨(some 85), (some (84, true)), (.lda (.tmp 14) 8)⟩, ⟨(some 86), (some (84, true)), (.lda (.tmp 17) 8)⟩, ⟨(some 87), (some (84, true)), (.pur ⟨(some 87), (.binOp .eql 36 (.tmp 85) (.tmp 86) 36), 4, "", (List.toArray []), none⟩)⟩, ⟨(some 88), none, (.pur ⟨(some 88), (.pick (.tmp 84) (.tmp 87) (.const (.bool false))), 4, "", (List.toArray []), none⟩)⟩, ⟨(some 89), none, (.mov (.tmp 88))⟩, ⟨(some 90), (some (89, true)), (.mov (.tmp 15))⟩, ⟨(some 91), (some (89, true)), (.mov (.tmp 18))⟩, ⟨(some 92), (some (89, true)), (.cmpb .eql (.tmp 90) (.tmp 91))⟩, ⟨(some 93), none, (.pur ⟨(some 93), (.pick (.tmp 89) (.tmp 92) (.const (.bool false))), 4, "", (List.toArray []), none⟩)⟩, ⟨(some 94), none, (.mov (.tmp 93))⟩, ⟨(some 95), (some (94, true)), (.mov (.tmp 19))⟩, ⟨(some 96), (some (94, true)), (.mov (.tmp 21))⟩, ⟨(some 97), (some (94, true)), (.cmpb .eql (.tmp 95) (.tmp 96))⟩, ⟨(some 98), none, (.pur ⟨(some 98), (.pick (.tmp 94) (.tmp 97) (.const (.bool false))), 4, "", (List.toArray []), none⟩)⟩, ⟨(some 99), none, (.mov (.tmp 98))⟩, ⟨(some 100), (some (99, true)), (.mov (.tmp 20))⟩, ⟨(some 101), (some (99, true)), (.mov (.tmp 22))⟩, ⟨(some 102), (some (99, true)), (.cmpb .eql (.tmp 100) (.tmp 101))⟩, ⟨(some 103), none, (.pur ⟨(some 103), (.pick (.tmp 99) (.tmp 102) (.const (.bool false))), 4, "", (List.toArray []), none⟩)⟩, ⟨(some 104), none, (.mov (.tmp 103))⟩, ⟨(some 105), (some (104, true)), (.call ⟨(.value (.func 13)), (List.toArray []), (List.toArray [])⟩ true)⟩, ⟨(some 106), none, (.pur ⟨(some 106), (.pick (.tmp 104) (.tmp 105) (.const (.bool false))), 4, "", (List.toArray []), none⟩)⟩, ⟨(some 8), none, (.mov (.tmp 106))⟩])
 .ret)))))))))
theorem L3 : low Try.prog Try.f3.ntmps (at_ Try.f3 []) = some R3 := by kernel_rfl
theorem N4 : Try.f4.ntmps = 64 := by kernel_rfl
theorem Z4 : Try.f4.results.toList = ((List.toArray [(.tmp 2)]) : Array ResultVar).toList := by kernel_rfl
theorem B4 : Try.f4.body = some (at_ Try.f4 []) := by kernel_rfl
noncomputable def R4 : RC := (.seq (.reg [⟨(some 1), none, (.box 25 (.tmp 0))⟩, ⟨(some 2), none, (.mov (.const (.bool false)))⟩])
 (.seq (.seq (.reg [⟨(some 13), none, (.lda (.tmp 1) 5)⟩, ⟨(some 14), none, (.call ⟨(.value (.func 12)), (List.toArray [(.tmp 13), (.const (.int .i64 5))]), (List.toArray [25, 3])⟩ true)⟩])
 (.cond (.tmp 14) (.seq (.reg [⟨(some 15), none, (.call ⟨(.value (.func 13)), (List.toArray []), (List.toArray [])⟩ true)⟩, ⟨(some 2), none, (.mov (.tmp 15))⟩])
 .ret)
 .skip))
 (.seq (.reg [⟨(some 17), none, (.lda (.tmp 1) 5)⟩, ⟨(some 18), none, (.call ⟨(.value (.func 21)), (List.toArray [(.tmp 17)]), (List.toArray [25])⟩ true)⟩, ⟨(some 16), none, (.mov (.tmp 18))⟩, ⟨(some 19), none, (.pur ⟨(some 19), (.extract (.tmp 16) 0), 26, "", (List.toArray []), none⟩)⟩, ⟨(some 20), none, (.pur ⟨(some 20), (.extract (.tmp 16) 1), 31, "", (List.toArray []), none⟩)⟩, ⟨(some 3), none, (.mov (.tmp 19))⟩, ⟨(some 4), none, (.mov (.tmp 20))⟩])
 (.seq (.reg [⟨(some 22), none, (.lda (.tmp 1) 5)⟩, ⟨(some 23), none, (.call ⟨(.value (.func 22)), (List.toArray [(.tmp 22)]), (List.toArray [25])⟩ true)⟩, ⟨(some 21), none, (.mov (.tmp 23))⟩, ⟨(some 24), none, (.pur ⟨(some 24), (.extract (.tmp 21) 0), 26, "", (List.toArray []), none⟩)⟩, ⟨(some 25), none, (.pur ⟨(some 25), (.extract (.tmp 21) 1), 31, "", (List.toArray []), none⟩)⟩, ⟨(some 5), none, (.mov (.tmp 24))⟩, ⟨(some 6), none, (.mov (.tmp 25))⟩])
 (.seq (.reg [⟨(some 27), none, (.lda (.tmp 1) 5)⟩, ⟨(some 28), none, (.call ⟨(.value (.func 23)), (List.toArray [(.tmp 27)]), (List.toArray [25])⟩ true)⟩, ⟨(some 26), none, (.mov (.tmp 28))⟩, ⟨(some 29), none, (.pur ⟨(some 29), (.extract (.tmp 26) 0), 3, "", (List.toArray []), none⟩)⟩, ⟨(some 30), none, (.pur ⟨(some 30), (.extract (.tmp 26) 1), 26, "", (List.toArray []), none⟩)⟩, ⟨(some 31), none, (.pur ⟨(some 31), (.extract (.tmp 26) 2), 31, "", (List.toArray []), none⟩)⟩, ⟨(some 7), none, (.mov (.tmp 29))⟩, ⟨(some 8), none, (.mov (.tmp 30))⟩, ⟨(some 9), none, (.mov (.tmp 31))⟩])
 (.seq (.reg [⟨(some 33), none, (.lda (.tmp 1) 5)⟩, ⟨(some 34), none, (.call ⟨(.value (.func 24)), (List.toArray [(.tmp 33)]), (List.toArray [25])⟩ true)⟩, ⟨(some 32), none, (.mov (.tmp 34))⟩, ⟨(some 35), none, (.pur ⟨(some 35), (.extract (.tmp 32) 0), 3, "", (List.toArray []), none⟩)⟩, ⟨(some 36), none, (.pur ⟨(some 36), (.extract (.tmp 32) 1), 26, "", (List.toArray []), none⟩)⟩, ⟨(some 37), none, (.pur ⟨(some 37), (.extract (.tmp 32) 2), 31, "", (List.toArray []), none⟩)⟩, ⟨(some 10), none, (.mov (.tmp 35))⟩, ⟨(some 11), none, (.mov (.tmp 36))⟩, ⟨(some 12), none, (.mov (.tmp 37))⟩])
 (.seq (.reg [⟨(some 38), none, (.mov (.tmp 3))⟩, ⟨(some 39), none, (.mov (.tmp 5))⟩, ⟨(some 40), none, (.call ⟨(.value (.func 25)), (List.toArray [(.tmp 38), (.tmp 39)]), (List.toArray [26, 26])⟩ true)⟩, ⟨(some 41), none, (.mov (.tmp 40))⟩, ⟨(some 42), (some (41, true)), (.mov (.tmp 4))⟩, ⟨(some 43), (some (41, true)), (.mov (.tmp 6))⟩, ⟨(some 44), (some (41, true)), (.cmpb .eql (.tmp 42) (.tmp 43))⟩, ⟨(some 45), none, (.pur ⟨(some 45), (.pick (.tmp 41) (.tmp 44) (.const (.bool false))), 4, "", (List.toArray []), none⟩)⟩, ⟨(some 46), none, (.mov (.tmp 45))⟩, ⟨(some 47), (some (46, true)), (.mov (.tmp 7))⟩, ⟨(some 48), (some (46, true)), (.mov (.tmp 10))⟩, ⟨(some 49), (some (46, true)), (.cmpb .eql (.tmp 47) (.tmp 48))⟩, ⟨(some 50), none, (.pur ⟨(some 50), (.pick (.tmp 46) (.tmp 49) (.const (.bool false))), 4, "", (List.toArray []), none⟩)⟩, ⟨(some 51), none, (.mov (.tmp 50))⟩, ⟨(some 52), (some (51, true)), (.mov (.tmp 8))⟩, ⟨(some 53), (some (51, true)), (.mov (.tmp 11))⟩, ⟨(some 54), (some (51, true)), (.call ⟨(.value (.func 25)), (List.toArray [(.tmp 52), (.tmp 53)]), (List.toArray [26, 26])⟩ true)⟩, ⟨(some 55), none, (.pur ⟨(some 55), (.pick (.tmp 51) (.tmp 54) (.const (.bool false))), 4, "", (List.toArray []), none⟩)⟩, ⟨(some 56), none, (.mov (.tmp 55))⟩, ⟨(some 57), (some (56, true)), (.mov (.tmp 9))⟩, ⟨(some 58), (some (56, true)), (.mov (.tmp 12))⟩, ⟨(some 59), (some (56, true)), (.cmpb .eql (.tmp 57) (.tmp 58))⟩, ⟨(some 60), none, (.pur ⟨(some 60), (.pick (.tmp 56) (.tmp 59) (.const (.bool false))), 4, "", (List.toArray []), none⟩)⟩, ⟨(some 61), none, (.mov (.tmp 60))⟩, ⟨(some 62), (some (61, true)), (.call ⟨(.value (.func 13)), (List.toArray []), (List.toArray [])⟩ true)⟩, ⟨(some 63), none, (.pur ⟨(some 63), (.pick (.tmp 61) (.tmp 62) (.const (.bool false))), 4, "", (List.toArray []), none⟩)⟩, ⟨(some 2), none, (.mov (.tmp 63))⟩])
 .ret)))))))
theorem L4 : low Try.prog Try.f4.ntmps (at_ Try.f4 []) = some R4 := by kernel_rfl
theorem N12 : Try.f12.ntmps = 55 := by kernel_rfl
theorem Z12 : Try.f12.results.toList = ((List.toArray [(.tmp 4)]) : Array ResultVar).toList := by kernel_rfl
theorem B12 : Try.f12.body = some (at_ Try.f12 []) := by kernel_rfl
noncomputable def R12 : RC := (.seq (.reg [⟨(some 2), none, (.box 25 (.tmp 0))⟩, ⟨(some 4), none, (.mov (.const (.bool false)))⟩])
 (.seq (.seq (.reg [⟨(some 9), none, (.addo (.tmp 2) 0)⟩, ⟨(some 10), none, (.ld (.tmp 9) 1)⟩, ⟨(some 11), none, (.len (.tmp 10))⟩, ⟨(some 12), none, (.mov (.tmp 1))⟩, ⟨(some 13), none, (.cmpb .gtr (.tmp 11) (.tmp 12))⟩, ⟨(some 14), none, (.mov (.tmp 13))⟩, ⟨(some 15), (some (14, true)), (.addo (.tmp 2) 0)⟩, ⟨(some 16), (some (14, true)), (.ld (.tmp 15) 1)⟩, ⟨(some 17), (some (14, true)), (.len (.tmp 16))⟩, ⟨(some 18), (some (14, true)), (.cmpb .leq (.tmp 17) (.const (.int .i64 7)))⟩, ⟨(some 19), none, (.pur ⟨(some 19), (.pick (.tmp 14) (.tmp 18) (.const (.bool false))), 4, "", (List.toArray []), none⟩)⟩, ⟨(some 20), none, (.mov (.tmp 19))⟩, ⟨(some 21), (some (20, false)), (.addo (.tmp 2) 0)⟩, ⟨(some 22), (some (20, false)), (.ld (.tmp 21) 1)⟩, ⟨(some 23), (some (20, false)), (.len (.tmp 22))⟩, ⟨(some 24), (some (20, false)), (.cmpb .gtr (.tmp 23) (.const (.int .i64 10)))⟩, ⟨(some 25), none, (.pur ⟨(some 25), (.pick (.tmp 20) (.const (.bool true)) (.tmp 24)), 4, "", (List.toArray []), none⟩)⟩, ⟨(some 26), none, (.mov (.tmp 25))⟩, ⟨(some 27), (some (26, false)), (.addo (.tmp 2) 1)⟩, ⟨(some 28), (some (26, false)), (.ld (.tmp 27) 1)⟩, ⟨(some 29), (some (26, false)), (.len (.tmp 28))⟩, ⟨(some 30), (some (26, false)), (.cmpb .gtr (.tmp 29) (.const (.int .i64 10)))⟩, ⟨(some 31), none, (.pur ⟨(some 31), (.pick (.tmp 26) (.const (.bool true)) (.tmp 30)), 4, "", (List.toArray []), none⟩)⟩])
 (.cond (.tmp 31) (.seq (.reg [⟨(some 4), none, (.mov (.const (.bool true)))⟩])
 .ret)
 .skip))
 (.seq (.seq (.reg [⟨(some 32), none, (.addo (.tmp 2) 0)⟩, ⟨(some 33), none, (.ld (.tmp 32) 1)⟩, ⟨(some 34), none, (.len (.tmp 33))⟩, ⟨(some 35), none, (.mov (.const (.int .i64 0)))⟩])
 (.block 0 (.other (at_ Try.f12 [1, 1, 0, 1, 0]))))
 (.seq (.seq (.reg [⟨(some 44), none, (.addo (.tmp 2) 1)⟩, ⟨(some 45), none, (.ld (.tmp 44) 1)⟩, ⟨(some 46), none, (.len (.tmp 45))⟩, ⟨(some 47), none, (.mov (.const (.int .i64 0)))⟩])
 (.block 2 (.other (at_ Try.f12 [1, 1, 1, 0, 1, 0]))))
 (.seq (.reg [⟨(some 4), none, (.mov (.const (.bool false)))⟩])
 .ret)))))
theorem L12 : low Try.prog Try.f12.ntmps (at_ Try.f12 []) = some R12 := by kernel_rfl
theorem E12_1 : at_ Try.f12 [1, 1, 0, 1, 0] = .loop (at_ Try.f12 [1, 1, 0, 1, 0, 0]) := by kernel_rfl
noncomputable def R12x1 : RC := (.seq (.reg [⟨(some 36), none, (.cmp .lss (.tmp 35) (.tmp 34))⟩])
 (.seq (.cond (.tmp 36) .skip
 (.exit 0))
 (.seq (.block 1 (.seq (.reg [⟨(some 37), none, (.idx (.tmp 33) (.tmp 35) 4)⟩, ⟨(some 38), none, (.lda (.tmp 37) 4)⟩, ⟨(some 6), none, (.alc 57 [(.int .i64 0), (.int .i64 0), (.int .i64 0), (.slice none 0 0)])⟩, ⟨none, none, (.sta (.tmp 6) (.tmp 38) 4)⟩])
 (.seq (.reg [⟨(some 39), none, (.addo (.tmp 6) 3)⟩, ⟨(some 40), none, (.ld (.tmp 39) 1)⟩, ⟨(some 41), none, (.len (.tmp 40))⟩, ⟨(some 42), none, (.cmp .gtr (.tmp 41) (.const (.int .i64 8)))⟩])
 (.cond (.tmp 42) (.seq (.reg [⟨(some 4), none, (.mov (.const (.bool true)))⟩])
 .ret)
 .skip))))
 (.reg [⟨(some 43), none, (.ari .add (.tmp 35) (.const (.int .i64 1)))⟩, ⟨(some 35), none, (.mov (.tmp 43))⟩]))))
theorem L12x1 : low Try.prog Try.f12.ntmps (at_ Try.f12 [1, 1, 0, 1, 0, 0]) = some R12x1 := by kernel_rfl
theorem E12_2 : at_ Try.f12 [1, 1, 1, 0, 1, 0] = .loop (at_ Try.f12 [1, 1, 1, 0, 1, 0, 0]) := by kernel_rfl
noncomputable def R12x2 : RC := (.seq (.reg [⟨(some 48), none, (.cmp .lss (.tmp 47) (.tmp 46))⟩])
 (.seq (.cond (.tmp 48) .skip
 (.exit 2))
 (.seq (.block 3 (.seq (.reg [⟨(some 49), none, (.idx (.tmp 45) (.tmp 47) 1)⟩, ⟨(some 50), none, (.ld (.tmp 49) 1)⟩, ⟨(some 8), none, (.mov (.tmp 50))⟩])
 (.seq (.reg [⟨(some 51), none, (.mov (.tmp 8))⟩, ⟨(some 52), none, (.len (.tmp 51))⟩, ⟨(some 53), none, (.cmp .gtr (.tmp 52) (.const (.int .i64 10)))⟩])
 (.cond (.tmp 53) (.seq (.reg [⟨(some 4), none, (.mov (.const (.bool true)))⟩])
 .ret)
 .skip))))
 (.reg [⟨(some 54), none, (.ari .add (.tmp 47) (.const (.int .i64 1)))⟩, ⟨(some 47), none, (.mov (.tmp 54))⟩]))))
theorem L12x2 : low Try.prog Try.f12.ntmps (at_ Try.f12 [1, 1, 1, 0, 1, 0, 0]) = some R12x2 := by kernel_rfl
end Go.Ax
/-
 Flood: the document's errors (40), Times (17), Through (19), Same (20); great (12) (written by program).
-/
namespace Go.Ax
open Go Go.RowKit Go.Proofs
noncomputable def Fh.tl (g : Fh) (us : List Int) : List Fs := bif decide (g.er us = 0) then g.fs (no us) g.bn else []
noncomputable def Fh.tu (g : Fh) (us : List Int) : Fs := bif decide (g.er us = 0) then g.la us else Fs.z
noncomputable def Fh.th (g : Fh) (us : List Int) (e : Int) : Int × Int := bif decide (g.er us = 0) then (bif inB e 0 1099511627776 then ((cntD (g.fs (no us) g.bn) e : Int), 0) else (0, 2)) else (0, g.er us)
def Fh.wv (g : Fh) (e : Int) : Int × Int × Int := bif g.ok then (bif inB e 0 (g.bn - 1) then ((g.W e.toNat).1, (g.W e.toNat).2, 0) else (0, 0, 2)) else (0, 0, 1)
section
variable {kn : FuncId → Option Bool} {lo : Nat} {H : Hp}
set_option maxRecDepth 100000 in
theorem great_ok {g : Fh} {f q : Nat} (hat : g.At f H) (hlo : lo ≤ H.next) : ∃ w H', FnX Try.prog kn lo 12 [.agg g.v.toArray, iv (q : Int)] H w H' ∧ ∃ t, w = .bool t ∧ Keep H H' [] ∧ (t = false → g.bn ≤ 10 ∧ g.rn ≤ 10 ∧ (g.bn ≤ 7 → g.bn ≤ q)) := by
 refine fnX_low (kn := kn) (lo := lo) (H := H) (args := [.agg g.v.toArray, iv (q : Int)]) (Q := fun w H' => ∃ t, w = .bool t ∧ Keep H H' [] ∧ (t = false → g.bn ≤ 10 ∧ g.rn ≤ 10 ∧ (g.bn ≤ 7 → g.bn ≤ q))) Try.func12 B12 N12 Z12 L12 (by simp) ?_
 have hk := Keep.refl H []
 have hfl := hat.le
 refine wN_seq ?_
 refine wN_box (v := .agg g.v.toArray) rfl ?_
 intro H1 kH1 nH1 c1
 have c1 : Cl H1 H.next [.slice g.ba g.bn g.bcap, .slice g.ra g.rn g.rcap, iv g.inlet, iv g.reserve, iv g.winds] := c1
 have mH1 := kH1.1
 have hk := hk.trans kH1
 have hat := hat.keep kH1 (by simp)
 refine wN_mov (v := .bool false) rfl ?_
 refine wN_end ?_
 refine wN_seq ?_
 refine wN_addo (b := H.next) (o := 0) rfl ?_
 refine wN_ld (b := H.next) (o := 0) (v := .slice g.ba g.bn g.bcap) rfl c1.rd rfl ?_
 refine wN_len (m := g.bn) rfl ?_
 refine wN_mov (v := iv (q : Int)) rfl ?_
 refine wN_b_gtr (a := (g.bn : Int)) (b := (q : Int)) rfl rfl ?_
 intro t1 g1; cases t1
 ·have g1 : ¬ ((g.bn : Int) > (q : Int)) := of_decide_eq_false g1
  refine wN_mov (v := .bool false) rfl ?_
  refine wN_gs rfl ?_
  refine wN_gs rfl ?_
  refine wN_gs rfl ?_
  refine wN_gs rfl ?_
  refine wN_pur (v := .bool false) rfl rfl ?_
  refine wN_mov (v := .bool false) rfl ?_
  refine wN_g rfl (wN_addo (b := H.next) (o := 0) rfl ?_)
  refine wN_g rfl (wN_ld (b := H.next) (o := 0) (v := .slice g.ba g.bn g.bcap) rfl c1.rd rfl ?_)
  refine wN_g rfl (wN_len (m := g.bn) rfl ?_)
  refine wN_g rfl (wN_b_gtr (a := (g.bn : Int)) (b := 10) rfl rfl ?_)
  intro t2 g2; cases t2
  ·have g2 : ¬ ((g.bn : Int) > 10) := of_decide_eq_false g2
   refine wN_pur (v := .bool false) rfl rfl ?_
   refine wN_mov (v := .bool false) rfl ?_
   refine wN_g rfl (wN_addo (b := H.next) (o := 0) rfl ?_)
   refine wN_g rfl (wN_ld (b := H.next) (o := 1) (v := .slice g.ra g.rn g.rcap) rfl c1.rd rfl ?_)
   refine wN_g rfl (wN_len (m := g.rn) rfl ?_)
   refine wN_g rfl (wN_b_gtr (a := (g.rn : Int)) (b := 10) rfl rfl ?_)
   intro t3 g3; cases t3
   ·have g3 : ¬ ((g.rn : Int) > 10) := of_decide_eq_false g3
    refine wN_pur (v := .bool false) rfl rfl ?_
    refine wN_end ?_
    refine condF ?_
    first | refine wN_skip ?_ | skip
    refine wN_seq ?_
    refine wN_addo (b := H.next) (o := 0) rfl ?_
    refine wN_ld (b := H.next) (o := 0) (v := .slice g.ba g.bn g.bcap) rfl c1.rd rfl ?_
    refine wN_len (m := g.bn) rfl ?_
    refine wN_mov (v := iv 0) rfl ?_
    refine wN_end ?_
    refine loop_low (fn := Try.f12) E12_1 N12 L12x1 (fun i : Nat => [(2, pt H.next), (33, .slice g.ba g.bn g.bcap), (34, iv (g.bn : Int)), (35, iv (i : Int))])
     (fun k i H' => i + k = g.bn ∧ Keep H1 H' []) g.bn 0 ⟨by omega, Keep.refl _ _⟩ ⟨rfl, rfl, rfl, rfl, trivial⟩ ?_
    rintro k i L1 ⟨hik, hki⟩
    have hk := hk.trans hki
    have hat := hat.keep hki (by simp)
    have c1 := hki.cl c1 (by simp)
    have kb := hki
    have mi := hki.1
    refine wN_seq ?_
    refine wN_c_lss (a := (i : Int)) (b := (g.bn : Int)) rfl rfl ?_
    refine wN_end ?_
    refine And.intro (fun q4 => ?_) (fun q4 => ?_)
    ·have q4 : (i : Int) < (g.bn : Int) := of_decide_eq_true q4
     have hi : i < g.bn := by omega
     have hbi := getB (g := g) (i := i) (by rw [hat.bl]; exact hi)
     obtain ⟨xb, eb, rb, lb⟩ := hat.bog (by omega)
     rw [eb]
     first | refine wN_skip ?_ | skip
     refine wN_seq ?_
     refine wN_idx (b := xb) (o := 0) (k := i) (j := (i : Int)) rfl rfl rfl hi ?_
     refine wN_lda (b := xb) (o := 0 + i * 4) rfl rb (bgc_row hbi) ?_
     refine wN_alc ?_
     intro H2 kH2 nH2 c2
     have c2 : Cl H2 L1.next [iv 0, iv 0, iv 0, .slice none 0 0] := c2
     have mH2 := kH2.1
     have hk := hk.trans kH2
     have hat := hat.keep kH2 (by simp)
     have c1 := kH2.cl c1 (by simp)
     have kb := kb.trans kH2
     have rb := kH2.rd rb (by simp)
     refine wN_sta (b := L1.next) (o := 0) rfl rfl c2 (by omega) rfl rfl (by simp) ?_
     intro H3 kH3 nH3 sH3
     have mH3 := kH3.1
     have hk := hk.new kH3 (fun b hb => by simp at hb ⊢; omega)
     have hat := hat.keep kH3 (fun x hx => by first | (simp at hx; done) | (simp at hx; omega))
     have c1 := kH3.cl c1 (by simp <;> omega)
     have kb := kb.new kH3 (fun b hb => by simp at hb ⊢; omega)
     have rb := kH3.rd rb (by simp <;> omega)
     have c2 : Cl H3 L1.next [iv ((g.B i).need), iv ((g.B i).l1), iv ((g.B i).l2), .slice ((g.B i).wa) ((g.B i).wn) ((g.B i).wcap)] := sH3
     refine wN_end ?_
     refine wN_seq ?_
     refine wN_addo (b := L1.next) (o := 0) rfl ?_
     refine wN_ld (b := L1.next) (o := 3) (v := .slice ((g.B i).wa) ((g.B i).wn) ((g.B i).wcap)) rfl c2.rd rfl ?_
     refine wN_len (m := (g.B i).wn) rfl ?_
     refine wN_c_gtr (a := ((g.B i).wn : Int)) (b := 8) rfl rfl ?_
     refine wN_end ?_
     refine And.intro (fun q5 => ?_) (fun q5 => ?_)
     ·have q5 : ((g.B i).wn : Int) > 8 := of_decide_eq_true q5
      refine wN_seq ?_
      refine wN_mov (v := .bool true) rfl ?_
      refine wN_end ?_
      exact And.intro trivial (Exists.intro _ (And.intro rfl ⟨true, rfl, hk, fun e => by cases e⟩))
     ·have q5 : ¬ (((g.B i).wn : Int) > 8) := of_decide_eq_false q5
      first | refine wN_skip ?_ | skip
      first | refine wN_reg ?_ | (refine wOps_nil ?_; refine wN_reg ?_)
      refine wN_add (a := (i : Int)) (b := 1) rfl rfl ⟨by omega, by omega⟩ ?_
      refine wN_mov (v := iv ((i : Int) + 1)) rfl ?_
      refine wN_end ?_
      exact ⟨k - 1, i + 1, by omega, ⟨by omega, kb⟩, rfl, by first | rfl | (rw [eb]; rfl), rfl, rfl, trivial⟩
    ·have q4 : ¬ ((i : Int) < (g.bn : Int)) := of_decide_eq_false q4
     refine wN_seq ?_
     refine wN_addo (b := H.next) (o := 0) rfl ?_
     refine wN_ld (b := H.next) (o := 1) (v := .slice g.ra g.rn g.rcap) rfl c1.rd rfl ?_
     refine wN_len (m := g.rn) rfl ?_
     refine wN_mov (v := iv 0) rfl ?_
     refine wN_end ?_
     refine loop_low (fn := Try.f12) E12_2 N12 L12x2 (fun j : Nat => [(2, pt H.next), (45, .slice g.ra g.rn g.rcap), (46, iv (g.rn : Int)), (47, iv (j : Int))])
      (fun k j H' => j + k = g.rn ∧ Keep L1 H' []) g.rn 0 ⟨by omega, Keep.refl _ _⟩ ⟨rfl, rfl, rfl, rfl, trivial⟩ ?_
     rintro k2 j L2 ⟨hjk, hkj⟩
     have hk := hk.trans hkj
     have hat := hat.keep hkj (by simp)
     have c1 := hkj.cl c1 (by simp)
     have kc := hkj
     have mj := hkj.1
     refine wN_seq ?_
     refine wN_c_lss (a := (j : Int)) (b := (g.rn : Int)) rfl rfl ?_
     refine wN_end ?_
     refine And.intro (fun q6 => ?_) (fun q6 => ?_)
     ·have q6 : (j : Int) < (g.rn : Int) := of_decide_eq_true q6
      have hj : j < g.rn := by omega
      have hrj := getR (g := g) (i := j) (by rw [hat.rl]; exact hj)
      obtain ⟨xr, er, rr, lr⟩ := hat.rts (by omega)
      rw [er]
      first | refine wN_skip ?_ | skip
      refine wN_seq ?_
      refine wN_idx (b := xr) (o := 0) (k := j) (j := (j : Int)) rfl rfl rfl hj ?_
      refine wN_ld (b := xr) (o := 0 + j * 1) (v := .slice ((g.R j).ra) ((g.R j).n) ((g.R j).cap)) rfl rr (rwc_row hrj) ?_
      refine wN_mov (v := .slice ((g.R j).ra) ((g.R j).n) ((g.R j).cap)) rfl ?_
      refine wN_end ?_
      refine wN_seq ?_
      refine wN_mov (v := .slice ((g.R j).ra) ((g.R j).n) ((g.R j).cap)) rfl ?_
      refine wN_len (m := (g.R j).n) rfl ?_
      refine wN_c_gtr (a := ((g.R j).n : Int)) (b := 10) rfl rfl ?_
      refine wN_end ?_
      refine And.intro (fun q7 => ?_) (fun q7 => ?_)
      ·have q7 : ((g.R j).n : Int) > 10 := of_decide_eq_true q7
       refine wN_seq ?_
       refine wN_mov (v := .bool true) rfl ?_
       refine wN_end ?_
       exact And.intro trivial (Exists.intro _ (And.intro rfl ⟨true, rfl, hk, fun e => by cases e⟩))
      ·have q7 : ¬ (((g.R j).n : Int) > 10) := of_decide_eq_false q7
       first | refine wN_skip ?_ | skip
       first | refine wN_reg ?_ | (refine wOps_nil ?_; refine wN_reg ?_)
       refine wN_add (a := (j : Int)) (b := 1) rfl rfl ⟨by omega, by omega⟩ ?_
       refine wN_mov (v := iv ((j : Int) + 1)) rfl ?_
       refine wN_end ?_
       exact ⟨k2 - 1, j + 1, by omega, ⟨by omega, kc⟩, rfl, by first | rfl | (rw [er]; rfl), rfl, rfl, trivial⟩
     ·have q6 : ¬ ((j : Int) < (g.rn : Int)) := of_decide_eq_false q6
      refine wN_seq ?_
      refine wN_mov (v := .bool false) rfl ?_
      refine wN_end ?_
      exact And.intro trivial (Exists.intro _ (And.intro rfl ⟨false, rfl, hk, fun _ => ⟨by omega, by omega, fun h => by omega⟩⟩))
   ·have g3 : (g.rn : Int) > 10 := of_decide_eq_true g3
    refine wN_pur (v := .bool true) rfl rfl ?_
    refine wN_end ?_
    refine condT ?_
    refine wN_seq ?_
    refine wN_mov (v := .bool true) rfl ?_
    refine wN_end ?_
    exact And.intro trivial (Exists.intro _ (And.intro rfl ⟨true, rfl, hk, fun e => by cases e⟩))
  ·have g2 : (g.bn : Int) > 10 := of_decide_eq_true g2
   refine wN_pur (v := .bool true) rfl rfl ?_
   refine wN_mov (v := .bool true) rfl ?_
   refine wN_gs rfl ?_
   refine wN_gs rfl ?_
   refine wN_gs rfl ?_
   refine wN_gs rfl ?_
   refine wN_pur (v := .bool true) rfl rfl ?_
   refine wN_end ?_
   refine condT ?_
   refine wN_seq ?_
   refine wN_mov (v := .bool true) rfl ?_
   refine wN_end ?_
   exact And.intro trivial (Exists.intro _ (And.intro rfl ⟨true, rfl, hk, fun e => by cases e⟩))
 ·have g1 : (g.bn : Int) > (q : Int) := of_decide_eq_true g1
  refine wN_mov (v := .bool true) rfl ?_
  refine wN_g rfl (wN_addo (b := H.next) (o := 0) rfl ?_)
  refine wN_g rfl (wN_ld (b := H.next) (o := 0) (v := .slice g.ba g.bn g.bcap) rfl c1.rd rfl ?_)
  refine wN_g rfl (wN_len (m := g.bn) rfl ?_)
  refine wN_g rfl (wN_b_leq (a := (g.bn : Int)) (b := 7) rfl rfl ?_)
  intro t8 g8; cases t8
  ·have g8 : ¬ ((g.bn : Int) ≤ 7) := of_decide_eq_false g8
   refine wN_pur (v := .bool false) rfl rfl ?_
   refine wN_mov (v := .bool false) rfl ?_
   refine wN_g rfl (wN_addo (b := H.next) (o := 0) rfl ?_)
   refine wN_g rfl (wN_ld (b := H.next) (o := 0) (v := .slice g.ba g.bn g.bcap) rfl c1.rd rfl ?_)
   refine wN_g rfl (wN_len (m := g.bn) rfl ?_)
   refine wN_g rfl (wN_b_gtr (a := (g.bn : Int)) (b := 10) rfl rfl ?_)
   intro t9 g9; cases t9
   ·have g9 : ¬ ((g.bn : Int) > 10) := of_decide_eq_false g9
    refine wN_pur (v := .bool false) rfl rfl ?_
    refine wN_mov (v := .bool false) rfl ?_
    refine wN_g rfl (wN_addo (b := H.next) (o := 0) rfl ?_)
    refine wN_g rfl (wN_ld (b := H.next) (o := 1) (v := .slice g.ra g.rn g.rcap) rfl c1.rd rfl ?_)
    refine wN_g rfl (wN_len (m := g.rn) rfl ?_)
    refine wN_g rfl (wN_b_gtr (a := (g.rn : Int)) (b := 10) rfl rfl ?_)
    intro t10 g10; cases t10
    ·have g10 : ¬ ((g.rn : Int) > 10) := of_decide_eq_false g10
     refine wN_pur (v := .bool false) rfl rfl ?_
     refine wN_end ?_
     refine condF ?_
     first | refine wN_skip ?_ | skip
     refine wN_seq ?_
     refine wN_addo (b := H.next) (o := 0) rfl ?_
     refine wN_ld (b := H.next) (o := 0) (v := .slice g.ba g.bn g.bcap) rfl c1.rd rfl ?_
     refine wN_len (m := g.bn) rfl ?_
     refine wN_mov (v := iv 0) rfl ?_
     refine wN_end ?_
     refine loop_low (fn := Try.f12) E12_1 N12 L12x1 (fun i : Nat => [(2, pt H.next), (33, .slice g.ba g.bn g.bcap), (34, iv (g.bn : Int)), (35, iv (i : Int))])
      (fun k i H' => i + k = g.bn ∧ Keep H1 H' []) g.bn 0 ⟨by omega, Keep.refl _ _⟩ ⟨rfl, rfl, rfl, rfl, trivial⟩ ?_
     rintro k i L1 ⟨hik, hki⟩
     have hk := hk.trans hki
     have hat := hat.keep hki (by simp)
     have c1 := hki.cl c1 (by simp)
     have kb := hki
     have mi := hki.1
     refine wN_seq ?_
     refine wN_c_lss (a := (i : Int)) (b := (g.bn : Int)) rfl rfl ?_
     refine wN_end ?_
     refine And.intro (fun q11 => ?_) (fun q11 => ?_)
     ·have q11 : (i : Int) < (g.bn : Int) := of_decide_eq_true q11
      have hi : i < g.bn := by omega
      have hbi := getB (g := g) (i := i) (by rw [hat.bl]; exact hi)
      obtain ⟨xb, eb, rb, lb⟩ := hat.bog (by omega)
      rw [eb]
      first | refine wN_skip ?_ | skip
      refine wN_seq ?_
      refine wN_idx (b := xb) (o := 0) (k := i) (j := (i : Int)) rfl rfl rfl hi ?_
      refine wN_lda (b := xb) (o := 0 + i * 4) rfl rb (bgc_row hbi) ?_
      refine wN_alc ?_
      intro H4 kH4 nH4 c4
      have c4 : Cl H4 L1.next [iv 0, iv 0, iv 0, .slice none 0 0] := c4
      have mH4 := kH4.1
      have hk := hk.trans kH4
      have hat := hat.keep kH4 (by simp)
      have c1 := kH4.cl c1 (by simp)
      have kb := kb.trans kH4
      have rb := kH4.rd rb (by simp)
      refine wN_sta (b := L1.next) (o := 0) rfl rfl c4 (by omega) rfl rfl (by simp) ?_
      intro H5 kH5 nH5 sH5
      have mH5 := kH5.1
      have hk := hk.new kH5 (fun b hb => by simp at hb ⊢; omega)
      have hat := hat.keep kH5 (fun x hx => by first | (simp at hx; done) | (simp at hx; omega))
      have c1 := kH5.cl c1 (by simp <;> omega)
      have kb := kb.new kH5 (fun b hb => by simp at hb ⊢; omega)
      have rb := kH5.rd rb (by simp <;> omega)
      have c4 : Cl H5 L1.next [iv ((g.B i).need), iv ((g.B i).l1), iv ((g.B i).l2), .slice ((g.B i).wa) ((g.B i).wn) ((g.B i).wcap)] := sH5
      refine wN_end ?_
      refine wN_seq ?_
      refine wN_addo (b := L1.next) (o := 0) rfl ?_
      refine wN_ld (b := L1.next) (o := 3) (v := .slice ((g.B i).wa) ((g.B i).wn) ((g.B i).wcap)) rfl c4.rd rfl ?_
      refine wN_len (m := (g.B i).wn) rfl ?_
      refine wN_c_gtr (a := ((g.B i).wn : Int)) (b := 8) rfl rfl ?_
      refine wN_end ?_
      refine And.intro (fun q12 => ?_) (fun q12 => ?_)
      ·have q12 : ((g.B i).wn : Int) > 8 := of_decide_eq_true q12
       refine wN_seq ?_
       refine wN_mov (v := .bool true) rfl ?_
       refine wN_end ?_
       exact And.intro trivial (Exists.intro _ (And.intro rfl ⟨true, rfl, hk, fun e => by cases e⟩))
      ·have q12 : ¬ (((g.B i).wn : Int) > 8) := of_decide_eq_false q12
       first | refine wN_skip ?_ | skip
       first | refine wN_reg ?_ | (refine wOps_nil ?_; refine wN_reg ?_)
       refine wN_add (a := (i : Int)) (b := 1) rfl rfl ⟨by omega, by omega⟩ ?_
       refine wN_mov (v := iv ((i : Int) + 1)) rfl ?_
       refine wN_end ?_
       exact ⟨k - 1, i + 1, by omega, ⟨by omega, kb⟩, rfl, by first | rfl | (rw [eb]; rfl), rfl, rfl, trivial⟩
     ·have q11 : ¬ ((i : Int) < (g.bn : Int)) := of_decide_eq_false q11
      refine wN_seq ?_
      refine wN_addo (b := H.next) (o := 0) rfl ?_
      refine wN_ld (b := H.next) (o := 1) (v := .slice g.ra g.rn g.rcap) rfl c1.rd rfl ?_
      refine wN_len (m := g.rn) rfl ?_
      refine wN_mov (v := iv 0) rfl ?_
      refine wN_end ?_
      refine loop_low (fn := Try.f12) E12_2 N12 L12x2 (fun j : Nat => [(2, pt H.next), (45, .slice g.ra g.rn g.rcap), (46, iv (g.rn : Int)), (47, iv (j : Int))])
       (fun k j H' => j + k = g.rn ∧ Keep L1 H' []) g.rn 0 ⟨by omega, Keep.refl _ _⟩ ⟨rfl, rfl, rfl, rfl, trivial⟩ ?_
      rintro k2 j L2 ⟨hjk, hkj⟩
      have hk := hk.trans hkj
      have hat := hat.keep hkj (by simp)
      have c1 := hkj.cl c1 (by simp)
      have kc := hkj
      have mj := hkj.1
      refine wN_seq ?_
      refine wN_c_lss (a := (j : Int)) (b := (g.rn : Int)) rfl rfl ?_
      refine wN_end ?_
      refine And.intro (fun q13 => ?_) (fun q13 => ?_)
      ·have q13 : (j : Int) < (g.rn : Int) := of_decide_eq_true q13
       have hj : j < g.rn := by omega
       have hrj := getR (g := g) (i := j) (by rw [hat.rl]; exact hj)
       obtain ⟨xr, er, rr, lr⟩ := hat.rts (by omega)
       rw [er]
       first | refine wN_skip ?_ | skip
       refine wN_seq ?_
       refine wN_idx (b := xr) (o := 0) (k := j) (j := (j : Int)) rfl rfl rfl hj ?_
       refine wN_ld (b := xr) (o := 0 + j * 1) (v := .slice ((g.R j).ra) ((g.R j).n) ((g.R j).cap)) rfl rr (rwc_row hrj) ?_
       refine wN_mov (v := .slice ((g.R j).ra) ((g.R j).n) ((g.R j).cap)) rfl ?_
       refine wN_end ?_
       refine wN_seq ?_
       refine wN_mov (v := .slice ((g.R j).ra) ((g.R j).n) ((g.R j).cap)) rfl ?_
       refine wN_len (m := (g.R j).n) rfl ?_
       refine wN_c_gtr (a := ((g.R j).n : Int)) (b := 10) rfl rfl ?_
       refine wN_end ?_
       refine And.intro (fun q14 => ?_) (fun q14 => ?_)
       ·have q14 : ((g.R j).n : Int) > 10 := of_decide_eq_true q14
        refine wN_seq ?_
        refine wN_mov (v := .bool true) rfl ?_
        refine wN_end ?_
        exact And.intro trivial (Exists.intro _ (And.intro rfl ⟨true, rfl, hk, fun e => by cases e⟩))
       ·have q14 : ¬ (((g.R j).n : Int) > 10) := of_decide_eq_false q14
        first | refine wN_skip ?_ | skip
        first | refine wN_reg ?_ | (refine wOps_nil ?_; refine wN_reg ?_)
        refine wN_add (a := (j : Int)) (b := 1) rfl rfl ⟨by omega, by omega⟩ ?_
        refine wN_mov (v := iv ((j : Int) + 1)) rfl ?_
        refine wN_end ?_
        exact ⟨k2 - 1, j + 1, by omega, ⟨by omega, kc⟩, rfl, by first | rfl | (rw [er]; rfl), rfl, rfl, trivial⟩
      ·have q13 : ¬ ((j : Int) < (g.rn : Int)) := of_decide_eq_false q13
       refine wN_seq ?_
       refine wN_mov (v := .bool false) rfl ?_
       refine wN_end ?_
       exact And.intro trivial (Exists.intro _ (And.intro rfl ⟨false, rfl, hk, fun _ => ⟨by omega, by omega, fun h => by omega⟩⟩))
    ·have g10 : (g.rn : Int) > 10 := of_decide_eq_true g10
     refine wN_pur (v := .bool true) rfl rfl ?_
     refine wN_end ?_
     refine condT ?_
     refine wN_seq ?_
     refine wN_mov (v := .bool true) rfl ?_
     refine wN_end ?_
     exact And.intro trivial (Exists.intro _ (And.intro rfl ⟨true, rfl, hk, fun e => by cases e⟩))
   ·have g9 : (g.bn : Int) > 10 := of_decide_eq_true g9
    refine wN_pur (v := .bool true) rfl rfl ?_
    refine wN_mov (v := .bool true) rfl ?_
    refine wN_gs rfl ?_
    refine wN_gs rfl ?_
    refine wN_gs rfl ?_
    refine wN_gs rfl ?_
    refine wN_pur (v := .bool true) rfl rfl ?_
    refine wN_end ?_
    refine condT ?_
    refine wN_seq ?_
    refine wN_mov (v := .bool true) rfl ?_
    refine wN_end ?_
    exact And.intro trivial (Exists.intro _ (And.intro rfl ⟨true, rfl, hk, fun e => by cases e⟩))
  ·have g8 : (g.bn : Int) ≤ 7 := of_decide_eq_true g8
   refine wN_pur (v := .bool true) rfl rfl ?_
   refine wN_mov (v := .bool true) rfl ?_
   refine wN_gs rfl ?_
   refine wN_gs rfl ?_
   refine wN_gs rfl ?_
   refine wN_gs rfl ?_
   refine wN_pur (v := .bool true) rfl rfl ?_
   refine wN_mov (v := .bool true) rfl ?_
   refine wN_gs rfl ?_
   refine wN_gs rfl ?_
   refine wN_gs rfl ?_
   refine wN_gs rfl ?_
   refine wN_pur (v := .bool true) rfl rfl ?_
   refine wN_end ?_
   refine condT ?_
   refine wN_seq ?_
   refine wN_mov (v := .bool true) rfl ?_
   refine wN_end ?_
   exact And.intro trivial (Exists.intro _ (And.intro rfl ⟨true, rfl, hk, fun e => by cases e⟩))
end
end Go.Ax
/-
 Flood: the law FloodTimes, whatever the input (written by program).
-/
namespace Go.Ax
open Go Go.RowKit Go.Proofs
section
variable {kn : FuncId → Option Bool} {lo : Nat} {H : Hp}
end
end Go.Ax
/-! What 'low' makes of functions of flood (written by program). -/
namespace Go.Ax
open Go Go.RowKit Go.Proofs
theorem N61 : Try.f61.ntmps = 4 := by kernel_rfl
theorem Z61 : Try.f61.results.toList = ((List.toArray [(.tmp 2)]) : Array ResultVar).toList := by kernel_rfl
theorem B61 : Try.f61.body = some (at_ Try.f61 []) := by kernel_rfl
noncomputable def R61 : RC := (.seq (.reg [⟨(some 1), none, (.box 3 (.tmp 0))⟩, ⟨(some 2), none, (.mov (.const .nilFunc))⟩])
 (.seq (.reg [⟨(some 3), none, (.pur ⟨(some 3), (.makeFunc (.func 73) (List.toArray []) (List.toArray [(.tmp 1)])), 102, "", (List.toArray []), none⟩)⟩, ⟨(some 2), none, (.mov (.tmp 3))⟩])
 .ret))
theorem L61 : low Try.prog Try.f61.ntmps (at_ Try.f61 []) = some R61 := by kernel_rfl
theorem N62 : Try.f62.ntmps = 18 := by kernel_rfl
theorem Z62 : Try.f62.results.toList = ((List.toArray [(.tmp 2)]) : Array ResultVar).toList := by kernel_rfl
theorem B62 : Try.f62.body = some (at_ Try.f62 []) := by kernel_rfl
noncomputable def R62 : RC := (.seq (.reg [⟨(some 2), none, (.mov (.const (.int .i64 0)))⟩])
 (.seq (.reg [⟨(some 3), none, (.mov (.const (.int .i64 0)))⟩])
 (.seq (.seq (.reg [⟨(some 6), none, (.mov (.tmp 0))⟩, ⟨(some 7), none, (.len (.tmp 6))⟩, ⟨(some 8), none, (.mov (.const (.int .i64 0)))⟩])
 (.block 0 (.other (at_ Try.f62 [1, 1, 0, 1, 0]))))
 (.seq (.reg [⟨(some 17), none, (.mov (.tmp 3))⟩, ⟨(some 2), none, (.mov (.tmp 17))⟩])
 .ret))))
theorem L62 : low Try.prog Try.f62.ntmps (at_ Try.f62 []) = some R62 := by kernel_rfl
theorem E62_1 : at_ Try.f62 [1, 1, 0, 1, 0] = .loop (at_ Try.f62 [1, 1, 0, 1, 0, 0]) := by kernel_rfl
noncomputable def R62x1 : RC := (.seq (.reg [⟨(some 9), none, (.cmp .lss (.tmp 8) (.tmp 7))⟩])
 (.seq (.cond (.tmp 9) .skip
 (.exit 0))
 (.seq (.block 1 (.seq (.reg [⟨(some 10), none, (.idx (.tmp 6) (.tmp 8) 1)⟩, ⟨(some 11), none, (.ld (.tmp 10) 1)⟩, ⟨(some 5), none, (.mov (.tmp 11))⟩])
 (.seq (.reg [⟨(some 12), none, (.mov (.tmp 5))⟩, ⟨(some 13), none, (.mov (.tmp 3))⟩, ⟨(some 14), none, (.cmp .neq (.tmp 12) (.tmp 13))⟩])
 (.cond (.tmp 14) (.seq (.reg [⟨(some 15), none, (.mov (.tmp 5))⟩, ⟨(some 2), none, (.mov (.tmp 15))⟩])
 .ret)
 .skip))))
 (.reg [⟨(some 16), none, (.ari .add (.tmp 8) (.const (.int .i64 1)))⟩, ⟨(some 8), none, (.mov (.tmp 16))⟩]))))
theorem L62x1 : low Try.prog Try.f62.ntmps (at_ Try.f62 [1, 1, 0, 1, 0, 0]) = some R62x1 := by kernel_rfl
theorem N63 : Try.f63.ntmps = 20 := by kernel_rfl
theorem Z63 : Try.f63.results.toList = ((List.toArray [(.tmp 4)]) : Array ResultVar).toList := by kernel_rfl
theorem B63 : Try.f63.body = some (at_ Try.f63 []) := by kernel_rfl
noncomputable def R63 : RC := (.seq (.reg [⟨(some 4), none, (.mov (.const (.int .i64 0)))⟩])
 (.seq (.reg [⟨(some 7), none, (.mov (.tmp 0))⟩, ⟨(some 8), none, (.call ⟨(.value (.func 75)), (List.toArray [(.tmp 7)]), (List.toArray [3])⟩ true)⟩, ⟨(some 5), none, (.mov (.tmp 8))⟩])
 (.seq (.reg [⟨(some 9), none, (.mov (.tmp 1))⟩, ⟨(some 10), none, (.call ⟨(.value (.func 75)), (List.toArray [(.tmp 9)]), (List.toArray [3])⟩ true)⟩, ⟨(some 6), none, (.mov (.tmp 10))⟩])
 (.seq (.seq (.reg [⟨(some 11), none, (.mov (.tmp 5))⟩])
 (.cond (.tmp 11) (.seq (.seq (.reg [⟨(some 12), none, (.mov (.tmp 6))⟩])
 (.cond (.tmp 12) (.seq (.reg [⟨(some 4), none, (.mov (.const (.int .i64 0)))⟩])
 .ret)
 .skip))
 (.seq (.reg [⟨(some 4), none, (.mov (.const (.int .i64 (-1))))⟩])
 .ret))
 .skip))
 (.seq (.seq (.reg [⟨(some 13), none, (.mov (.tmp 6))⟩])
 (.cond (.tmp 13) (.seq (.reg [⟨(some 4), none, (.mov (.const (.int .i64 1)))⟩])
 .ret)
 .skip))
 (.seq (.seq (.reg [⟨(some 14), none, (.mov (.tmp 0))⟩, ⟨(some 15), none, (.mov (.tmp 1))⟩, ⟨(some 16), none, (.cmp .lss (.tmp 14) (.tmp 15))⟩])
 (.cond (.tmp 16) (.seq (.reg [⟨(some 4), none, (.mov (.const (.int .i64 (-1))))⟩])
 .ret)
 .skip))
 (.seq (.seq (.reg [⟨(some 17), none, (.mov (.tmp 0))⟩, ⟨(some 18), none, (.mov (.tmp 1))⟩, ⟨(some 19), none, (.cmp .gtr (.tmp 17) (.tmp 18))⟩])
 (.cond (.tmp 19) (.seq (.reg [⟨(some 4), none, (.mov (.const (.int .i64 1)))⟩])
 .ret)
 .skip))
 (.seq (.reg [⟨(some 4), none, (.mov (.const (.int .i64 0)))⟩])
 .ret))))))))
theorem L63 : low Try.prog Try.f63.ntmps (at_ Try.f63 []) = some R63 := by kernel_rfl
theorem N75 : Try.f75.ntmps = 6 := by kernel_rfl
theorem Z75 : Try.f75.results.toList = ((List.toArray [(.tmp 2)]) : Array ResultVar).toList := by kernel_rfl
theorem B75 : Try.f75.body = some (at_ Try.f75 []) := by kernel_rfl
noncomputable def R75 : RC := (.seq (.reg [⟨(some 2), none, (.mov (.const (.bool false)))⟩])
 (.seq (.reg [⟨(some 3), none, (.mov (.tmp 0))⟩, ⟨(some 4), none, (.mov (.tmp 0))⟩, ⟨(some 5), none, (.cmp .neq (.tmp 3) (.tmp 4))⟩, ⟨(some 2), none, (.mov (.tmp 5))⟩])
 .ret))
theorem L75 : low Try.prog Try.f75.ntmps (at_ Try.f75 []) = some R75 := by kernel_rfl
theorem N73 : Try.f73.ntmps = 29 := by kernel_rfl
theorem Z73 : Try.f73.results.toList = ((List.toArray []) : Array ResultVar).toList := by kernel_rfl
theorem B73 : Try.f73.body = some (at_ Try.f73 []) := by kernel_rfl
noncomputable def R73 : RC := (.seq (.reg [⟨(some 3), none, (.alc 116 [(.int .i64 0), (.int .i64 0), (.int .i64 0), (.int .i64 0), (.int .i64 0), (.int .i64 0), (.int .i64 0)])⟩])
 (.seq (.seq (.reg [⟨(some 6), none, (.ld (.tmp 1) 1)⟩, ⟨(some 7), none, (.mov (.const (.int .i64 0)))⟩])
 (.block 0 (.other (at_ Try.f73 [1, 0, 1, 0]))))
 (.block 2 (.other (at_ Try.f73 [1, 1, 0])))))
theorem L73 : low Try.prog Try.f73.ntmps (at_ Try.f73 []) = some R73 := by kernel_rfl
theorem E73_1 : at_ Try.f73 [1, 0, 1, 0] = .loop (at_ Try.f73 [1, 0, 1, 0, 0]) := by kernel_rfl
noncomputable def R73x1 : RC := (.seq (.reg [⟨(some 8), none, (.cmp .lss (.tmp 7) (.tmp 6))⟩])
 (.seq (.cond (.tmp 8) .skip
 (.exit 0))
 (.seq (.block 1 (.seq (.reg [⟨(some 9), none, (.mov (.tmp 7))⟩, ⟨(some 4), none, (.mov (.tmp 9))⟩])
 (.reg [⟨(some 10), none, (.mov (.tmp 4))⟩, ⟨(some 11), none, (.mov (.tmp 4))⟩, ⟨(some 12), none, (.idxa (.tmp 3) (.tmp 10) 7 1)⟩, ⟨none, none, (.st (.tmp 12) (.tmp 11))⟩])))
 (.reg [⟨(some 13), none, (.ari .add (.tmp 7) (.const (.int .i64 1)))⟩, ⟨(some 7), none, (.mov (.tmp 13))⟩]))))
theorem L73x1 : low Try.prog Try.f73.ntmps (at_ Try.f73 [1, 0, 1, 0, 0]) = some R73x1 := by kernel_rfl
theorem E73_2 : at_ Try.f73 [1, 1, 0] = .loop (at_ Try.f73 [1, 1, 0, 0]) := by kernel_rfl
noncomputable def R73x2 : RC := (.block 3 (.seq (.reg [⟨(some 14), none, (.ld (.tmp 1) 1)⟩, ⟨(some 15), none, (.mem ⟨(some 15), (.makeSlice 26 (.tmp 14) (.tmp 14)), 26, "", (List.toArray []), none⟩)⟩, ⟨(some 5), none, (.mov (.tmp 15))⟩])
 (.seq (.reg [⟨(some 16), none, (.mov (.tmp 5))⟩, ⟨(some 17), none, (.mem ⟨(some 17), (.slice 116 (.tmp 3) none none none), 26, "", (List.toArray []), none⟩)⟩, ⟨(some 18), none, (.mem ⟨(some 18), (.call ⟨(.builtin .copy), (List.toArray [(.tmp 16), (.tmp 17)]), (List.toArray [26, 26])⟩), 3, "", (List.toArray []), none⟩)⟩])
 (.seq (.reg [⟨(some 19), none, (.mov (.tmp 0))⟩, ⟨(some 20), none, (.mov (.tmp 5))⟩, ⟨(some 21), none, (.call ⟨(.value (.tmp 19)), (List.toArray [(.tmp 20)]), (List.toArray [26])⟩ true)⟩, ⟨(some 22), none, (.pur ⟨(some 22), (.unOp .not 4 (.tmp 21)), 4, "", (List.toArray []), none⟩)⟩, ⟨(some 23), none, (.mov (.tmp 22))⟩, ⟨(some 24), (some (23, false)), (.ld (.tmp 1) 1)⟩, ⟨(some 25), (some (23, false)), (.mem ⟨(some 25), (.slice 116 (.tmp 3) none (some (.tmp 24)) none), 26, "", (List.toArray []), none⟩)⟩, ⟨(some 26), (some (23, false)), (.call ⟨(.value (.func 74)), (List.toArray [(.tmp 25)]), (List.toArray [26])⟩ true)⟩, ⟨(some 27), (some (23, false)), (.pur ⟨(some 27), (.unOp .not 4 (.tmp 26)), 4, "", (List.toArray []), none⟩)⟩, ⟨(some 28), none, (.pur ⟨(some 28), (.pick (.tmp 23) (.const (.bool true)) (.tmp 27)), 4, "", (List.toArray []), none⟩)⟩])
 (.cond (.tmp 28) .ret
 .skip)))))
theorem L73x2 : low Try.prog Try.f73.ntmps (at_ Try.f73 [1, 1, 0, 0]) = some R73x2 := by kernel_rfl
theorem N74 : Try.f74.ntmps = 59 := by kernel_rfl
theorem Z74 : Try.f74.results.toList = ((List.toArray [(.tmp 2)]) : Array ResultVar).toList := by kernel_rfl
theorem B74 : Try.f74.body = some (at_ Try.f74 []) := by kernel_rfl
noncomputable def R74 : RC := (.seq (.reg [⟨(some 2), none, (.mov (.const (.bool false)))⟩])
 (.seq (.reg [⟨(some 5), none, (.mov (.tmp 0))⟩, ⟨(some 6), none, (.len (.tmp 5))⟩, ⟨(some 7), none, (.ari .sub (.tmp 6) (.const (.int .i64 2)))⟩, ⟨(some 3), none, (.mov (.tmp 7))⟩])
 (.seq (.block 0 (.other (at_ Try.f74 [1, 1, 0, 0])))
 (.seq (.seq (.reg [⟨(some 24), none, (.mov (.tmp 3))⟩, ⟨(some 25), none, (.cmp .lss (.tmp 24) (.const (.int .i64 0)))⟩])
 (.cond (.tmp 25) (.seq (.reg [⟨(some 2), none, (.mov (.const (.bool false)))⟩])
 .ret)
 .skip))
 (.seq (.reg [⟨(some 26), none, (.mov (.tmp 0))⟩, ⟨(some 27), none, (.len (.tmp 26))⟩, ⟨(some 28), none, (.ari .sub (.tmp 27) (.const (.int .i64 1)))⟩, ⟨(some 4), none, (.mov (.tmp 28))⟩])
 (.seq (.block 2 (.other (at_ Try.f74 [1, 1, 1, 1, 1, 0, 0])))
 (.seq (.dreg [⟨(some 40), none, (.mov (.tmp 0))⟩, ⟨(some 41), none, (.mov (.tmp 3))⟩, ⟨(some 42), none, (.mov (.tmp 0))⟩, ⟨(some 43), none, (.mov (.tmp 4))⟩, ⟨(some 44), none, (.mov (.tmp 0))⟩, ⟨(some 45), none, (.mov (.tmp 4))⟩, ⟨(some 46), none, (.idx (.tmp 44) (.tmp 45) 1)⟩, ⟨(some 47), none, (.ld (.tmp 46) 1)⟩, ⟨(some 48), none, (.mov (.tmp 0))⟩, ⟨(some 49), none, (.mov (.tmp 3))⟩, ⟨(some 50), none, (.idx (.tmp 48) (.tmp 49) 1)⟩, ⟨(some 51), none, (.ld (.tmp 50) 1)⟩, ⟨(some 52), none, (.idx (.tmp 40) (.tmp 41) 1)⟩, ⟨none, none, (.st (.tmp 52) (.tmp 47))⟩, ⟨(some 53), none, (.idx (.tmp 42) (.tmp 43) 1)⟩, ⟨none, none, (.st (.tmp 53) (.tmp 51))⟩] [32767, 16383, 8179, 4083, 1792, 768, 0, 0, 112, 48, 0, 0, 0, 0, 0, 0])
 (.seq (.reg [⟨(some 54), none, (.mov (.tmp 0))⟩, ⟨(some 55), none, (.mov (.tmp 3))⟩, ⟨(some 56), none, (.ari .add (.tmp 55) (.const (.int .i64 1)))⟩, ⟨(some 57), none, (.mem ⟨(some 57), (.slice 26 (.tmp 54) (some (.tmp 56)) none none), 26, "", (List.toArray []), none⟩)⟩, ⟨(some 58), none, (.call ⟨(.value (.func 86)), (List.toArray [(.tmp 57)]), (List.toArray [26])⟩ true)⟩])
 (.seq (.reg [⟨(some 2), none, (.mov (.const (.bool true)))⟩])
 .ret)))))))))
theorem L74 : low Try.prog Try.f74.ntmps (at_ Try.f74 []) = some R74 := by kernel_rfl
theorem E74_1 : at_ Try.f74 [1, 1, 0, 0] = .loop (at_ Try.f74 [1, 1, 0, 0, 0]) := by kernel_rfl
noncomputable def R74x1 : RC := (.seq (.seq (.dreg [⟨(some 8), none, (.mov (.tmp 3))⟩, ⟨(some 9), none, (.cmpb .geq (.tmp 8) (.const (.int .i64 0)))⟩, ⟨(some 10), none, (.mov (.tmp 9))⟩, ⟨(some 11), (some (10, true)), (.mov (.tmp 0))⟩, ⟨(some 12), (some (10, true)), (.mov (.tmp 3))⟩, ⟨(some 13), (some (10, true)), (.idx (.tmp 11) (.tmp 12) 1)⟩, ⟨(some 14), (some (10, true)), (.ld (.tmp 13) 1)⟩, ⟨(some 15), (some (10, true)), (.mov (.tmp 0))⟩, ⟨(some 16), (some (10, true)), (.mov (.tmp 3))⟩, ⟨(some 17), (some (10, true)), (.ari .add (.tmp 16) (.const (.int .i64 1)))⟩, ⟨(some 18), (some (10, true)), (.idx (.tmp 15) (.tmp 17) 1)⟩, ⟨(some 19), (some (10, true)), (.ld (.tmp 18) 1)⟩, ⟨(some 20), (some (10, true)), (.cmpb .gtr (.tmp 14) (.tmp 19))⟩, ⟨(some 21), none, (.pur ⟨(some 21), (.pick (.tmp 10) (.tmp 20) (.const (.bool false))), 4, "", (List.toArray []), none⟩)⟩] [8191, 4095, 1927, 903, 263, 7, 7, 63, 31, 7, 7, 3, 1, 0])
 (.cond (.tmp 21) .skip
 (.exit 0)))
 (.block 1 (.reg [⟨(some 22), none, (.mov (.tmp 3))⟩, ⟨(some 23), none, (.ari .sub (.tmp 22) (.const (.int .i64 1)))⟩, ⟨(some 3), none, (.mov (.tmp 23))⟩])))
theorem L74x1 : low Try.prog Try.f74.ntmps (at_ Try.f74 [1, 1, 0, 0, 0]) = some R74x1 := by kernel_rfl
theorem E74_2 : at_ Try.f74 [1, 1, 1, 1, 1, 0, 0] = .loop (at_ Try.f74 [1, 1, 1, 1, 1, 0, 0, 0]) := by kernel_rfl
noncomputable def R74x2 : RC := (.seq (.seq (.dreg [⟨(some 29), none, (.mov (.tmp 0))⟩, ⟨(some 30), none, (.mov (.tmp 4))⟩, ⟨(some 31), none, (.idx (.tmp 29) (.tmp 30) 1)⟩, ⟨(some 32), none, (.ld (.tmp 31) 1)⟩, ⟨(some 33), none, (.mov (.tmp 0))⟩, ⟨(some 34), none, (.mov (.tmp 3))⟩, ⟨(some 35), none, (.idx (.tmp 33) (.tmp 34) 1)⟩, ⟨(some 36), none, (.ld (.tmp 35) 1)⟩, ⟨(some 37), none, (.cmp .lss (.tmp 32) (.tmp 36))⟩] [255, 112, 48, 0, 0, 7, 3, 0, 0])
 (.cond (.tmp 37) .skip
 (.exit 2)))
 (.block 3 (.reg [⟨(some 38), none, (.mov (.tmp 4))⟩, ⟨(some 39), none, (.ari .sub (.tmp 38) (.const (.int .i64 1)))⟩, ⟨(some 4), none, (.mov (.tmp 39))⟩])))
theorem L74x2 : low Try.prog Try.f74.ntmps (at_ Try.f74 [1, 1, 1, 1, 1, 0, 0, 0]) = some R74x2 := by kernel_rfl
theorem N86 : Try.f86.ntmps = 28 := by kernel_rfl
theorem Z86 : Try.f86.results.toList = ((List.toArray []) : Array ResultVar).toList := by kernel_rfl
theorem B86 : Try.f86.body = some (at_ Try.f86 []) := by kernel_rfl
noncomputable def R86 : RC := (.seq (.reg [⟨(some 4), none, (.mov (.tmp 0))⟩, ⟨(some 5), none, (.len (.tmp 4))⟩, ⟨(some 6), none, (.ari .sub (.tmp 5) (.const (.int .i64 1)))⟩, ⟨(some 2), none, (.mov (.const (.int .i64 0)))⟩, ⟨(some 3), none, (.mov (.tmp 6))⟩])
 (.block 0 (.other (at_ Try.f86 [1, 0]))))
theorem L86 : low Try.prog Try.f86.ntmps (at_ Try.f86 []) = some R86 := by kernel_rfl
theorem E86_1 : at_ Try.f86 [1, 0] = .loop (at_ Try.f86 [1, 0, 0]) := by kernel_rfl
noncomputable def R86x1 : RC := (.seq (.seq (.reg [⟨(some 7), none, (.mov (.tmp 2))⟩, ⟨(some 8), none, (.mov (.tmp 3))⟩, ⟨(some 9), none, (.cmp .lss (.tmp 7) (.tmp 8))⟩])
 (.cond (.tmp 9) .skip
 (.exit 0)))
 (.seq (.block 1 (.dreg [⟨(some 14), none, (.mov (.tmp 0))⟩, ⟨(some 15), none, (.mov (.tmp 2))⟩, ⟨(some 16), none, (.mov (.tmp 0))⟩, ⟨(some 17), none, (.mov (.tmp 3))⟩, ⟨(some 18), none, (.mov (.tmp 0))⟩, ⟨(some 19), none, (.mov (.tmp 3))⟩, ⟨(some 20), none, (.idx (.tmp 18) (.tmp 19) 1)⟩, ⟨(some 21), none, (.ld (.tmp 20) 1)⟩, ⟨(some 22), none, (.mov (.tmp 0))⟩, ⟨(some 23), none, (.mov (.tmp 2))⟩, ⟨(some 24), none, (.idx (.tmp 22) (.tmp 23) 1)⟩, ⟨(some 25), none, (.ld (.tmp 24) 1)⟩, ⟨(some 26), none, (.idx (.tmp 14) (.tmp 15) 1)⟩, ⟨none, none, (.st (.tmp 26) (.tmp 21))⟩, ⟨(some 27), none, (.idx (.tmp 16) (.tmp 17) 1)⟩, ⟨none, none, (.st (.tmp 27) (.tmp 25))⟩] [32767, 16383, 8179, 4083, 1792, 768, 0, 0, 112, 48, 0, 0, 0, 0, 0, 0]))
 (.reg [⟨(some 10), none, (.mov (.tmp 2))⟩, ⟨(some 11), none, (.ari .add (.tmp 10) (.const (.int .i64 1)))⟩, ⟨(some 12), none, (.mov (.tmp 3))⟩, ⟨(some 13), none, (.ari .sub (.tmp 12) (.const (.int .i64 1)))⟩, ⟨(some 2), none, (.mov (.tmp 11))⟩, ⟨(some 3), none, (.mov (.tmp 13))⟩])))
theorem L86x1 : low Try.prog Try.f86.ntmps (at_ Try.f86 [1, 0, 0]) = some R86x1 := by kernel_rfl
theorem N65 : Try.f65.ntmps = 36 := by kernel_rfl
theorem Z65 : Try.f65.results.toList = ((List.toArray [(.tmp 4)]) : Array ResultVar).toList := by kernel_rfl
theorem B65 : Try.f65.body = some (at_ Try.f65 []) := by kernel_rfl
noncomputable def R65 : RC := (.seq (.reg [⟨(some 4), none, (.mov (.const (.int .i64 0)))⟩])
 (.seq (.seq (.reg [⟨(some 9), none, (.mov (.tmp 0))⟩, ⟨(some 10), none, (.len (.tmp 9))⟩, ⟨(some 11), none, (.mov (.const (.int .i64 0)))⟩])
 (.block 0 (.other (at_ Try.f65 [1, 0, 1, 0]))))
 (.seq (.seq (.reg [⟨(some 31), none, (.mov (.tmp 0))⟩, ⟨(some 32), none, (.len (.tmp 31))⟩, ⟨(some 33), none, (.mov (.tmp 1))⟩, ⟨(some 34), none, (.len (.tmp 33))⟩, ⟨(some 35), none, (.cmp .lss (.tmp 32) (.tmp 34))⟩])
 (.cond (.tmp 35) (.seq (.reg [⟨(some 4), none, (.mov (.const (.int .i64 (-1))))⟩])
 .ret)
 .skip))
 (.seq (.reg [⟨(some 4), none, (.mov (.const (.int .i64 0)))⟩])
 .ret))))
theorem L65 : low Try.prog Try.f65.ntmps (at_ Try.f65 []) = some R65 := by kernel_rfl
theorem E65_1 : at_ Try.f65 [1, 0, 1, 0] = .loop (at_ Try.f65 [1, 0, 1, 0, 0]) := by kernel_rfl
noncomputable def R65x1 : RC := (.seq (.reg [⟨(some 12), none, (.cmp .lss (.tmp 11) (.tmp 10))⟩])
 (.seq (.cond (.tmp 12) .skip
 (.exit 0))
 (.seq (.block 1 (.seq (.reg [⟨(some 13), none, (.mov (.tmp 11))⟩, ⟨(some 14), none, (.idx (.tmp 9) (.tmp 11) 1)⟩, ⟨(some 15), none, (.ld (.tmp 14) 1)⟩, ⟨(some 5), none, (.mov (.tmp 13))⟩, ⟨(some 6), none, (.mov (.tmp 15))⟩])
 (.seq (.seq (.reg [⟨(some 16), none, (.mov (.tmp 5))⟩, ⟨(some 17), none, (.mov (.tmp 1))⟩, ⟨(some 18), none, (.len (.tmp 17))⟩, ⟨(some 19), none, (.cmp .geq (.tmp 16) (.tmp 18))⟩])
 (.cond (.tmp 19) (.seq (.reg [⟨(some 4), none, (.mov (.const (.int .i64 1)))⟩])
 .ret)
 .skip))
 (.seq (.reg [⟨(some 20), none, (.mov (.tmp 1))⟩, ⟨(some 21), none, (.mov (.tmp 5))⟩, ⟨(some 22), none, (.idx (.tmp 20) (.tmp 21) 1)⟩, ⟨(some 23), none, (.ld (.tmp 22) 1)⟩, ⟨(some 7), none, (.mov (.tmp 23))⟩])
 (.seq (.reg [⟨(some 24), none, (.mov (.tmp 6))⟩, ⟨(some 25), none, (.mov (.tmp 7))⟩, ⟨(some 26), none, (.call ⟨(.value (.func 63)), (List.toArray [(.tmp 24), (.tmp 25)]), (List.toArray [3, 3])⟩ true)⟩, ⟨(some 8), none, (.mov (.tmp 26))⟩])
 (.seq (.reg [⟨(some 27), none, (.mov (.tmp 8))⟩, ⟨(some 28), none, (.cmp .neq (.tmp 27) (.const (.int .i64 0)))⟩])
 (.cond (.tmp 28) (.seq (.reg [⟨(some 29), none, (.mov (.tmp 8))⟩, ⟨(some 4), none, (.mov (.tmp 29))⟩])
 .ret)
 .skip)))))))
 (.reg [⟨(some 30), none, (.ari .add (.tmp 11) (.const (.int .i64 1)))⟩, ⟨(some 11), none, (.mov (.tmp 30))⟩]))))
theorem L65x1 : low Try.prog Try.f65.ntmps (at_ Try.f65 [1, 0, 1, 0, 0]) = some R65x1 := by kernel_rfl
theorem N45 : Try.f45.ntmps = 30 := by kernel_rfl
theorem Z45 : Try.f45.results.toList = ((List.toArray [(.cell 6 78), (.tmp 7)]) : Array ResultVar).toList := by kernel_rfl
theorem B45 : Try.f45.body = some (at_ Try.f45 []) := by kernel_rfl
noncomputable def R45 : RC := (.seq (.reg [⟨(some 4), none, (.box 87 (.tmp 1))⟩, ⟨(some 5), none, (.box 92 (.tmp 2))⟩, ⟨(some 6), none, (.alc 78 [(.slice none 0 0), (.slice none 0 0), (.int .i64 0), (.int .i64 0), (.int .i64 0), (.int .i64 0), (.int .i64 0), (.int .i64 0), (.int .i64 0), (.int .i64 0)])⟩, ⟨(some 7), none, (.mov (.const (.bool false)))⟩])
 (.seq (.reg [⟨(some 8), none, (.alc 78 [(.slice none 0 0), (.slice none 0 0), (.int .i64 0), (.int .i64 0), (.int .i64 0), (.int .i64 0), (.int .i64 0), (.int .i64 0), (.int .i64 0), (.int .i64 0)])⟩])
 (.seq (.reg [⟨(some 9), none, (.alc 4 [(.bool false)])⟩, ⟨none, none, (.st (.tmp 9) (.const (.bool false)))⟩])
 (.seq (.seq (.reg [⟨(some 11), none, (.mov (.tmp 0))⟩])
 (.block 0 (.other (at_ Try.f45 [1, 1, 1, 0, 1, 0]))))
 (.seq (.dreg [⟨(some 28), none, (.lda (.tmp 8) 10)⟩, ⟨(some 29), none, (.ld (.tmp 9) 1)⟩, ⟨none, none, (.sta (.tmp 6) (.tmp 28) 10)⟩, ⟨(some 7), none, (.mov (.tmp 29))⟩] [7, 1, 0, 0])
 .ret)))))
theorem L45 : low Try.prog Try.f45.ntmps (at_ Try.f45 []) = some R45 := by kernel_rfl
theorem E45_1 : at_ Try.f45 [1, 1, 1, 0, 1, 0] = .rangeFunc (.tmp 11) ((List.toArray [12])) (at_ Try.f45 [1, 1, 1, 0, 1, 0, 0]) (at_ Try.f45 [1, 1, 1, 0, 1, 0, 1]) := by kernel_rfl
noncomputable def R45x1 : RC := (.reg [⟨(some 10), none, (.alc 78 [(.slice none 0 0), (.slice none 0 0), (.int .i64 0), (.int .i64 0), (.int .i64 0), (.int .i64 0), (.int .i64 0), (.int .i64 0), (.int .i64 0), (.int .i64 0)])⟩, ⟨none, none, (.sta (.tmp 10) (.tmp 12) 10)⟩])
theorem L45x1 : low Try.prog Try.f45.ntmps (at_ Try.f45 [1, 1, 1, 0, 1, 0, 0]) = some R45x1 := by kernel_rfl
noncomputable def R45x2 : RC := (.block 1 (.seq (.reg [⟨(some 13), none, (.ld (.tmp 4) 1)⟩, ⟨(some 14), none, (.lda (.tmp 10) 10)⟩, ⟨(some 15), none, (.call ⟨(.value (.tmp 13)), (List.toArray [(.tmp 14)]), (List.toArray [78])⟩ true)⟩, ⟨(some 16), none, (.mov (.tmp 15))⟩, ⟨(some 17), (some (16, true)), (.ld (.tmp 9) 1)⟩, ⟨(some 18), (some (16, true)), (.pur ⟨(some 18), (.unOp .not 4 (.tmp 17)), 4, "", (List.toArray []), none⟩)⟩, ⟨(some 19), (some (16, true)), (.mov (.tmp 18))⟩, ⟨(some 20), (some (19, false)), (.ld (.tmp 5) 1)⟩, ⟨(some 21), (some (19, false)), (.lda (.tmp 10) 10)⟩, ⟨(some 22), (some (19, false)), (.lda (.tmp 8) 10)⟩, ⟨(some 23), (some (19, false)), (.call ⟨(.value (.tmp 20)), (List.toArray [(.tmp 21), (.tmp 22)]), (List.toArray [78, 78])⟩ true)⟩, ⟨(some 24), (some (19, false)), (.cmpb .lss (.tmp 23) (.const (.int .i64 0)))⟩, ⟨(some 25), (some (16, true)), (.pur ⟨(some 25), (.pick (.tmp 19) (.const (.bool true)) (.tmp 24)), 4, "", (List.toArray []), none⟩)⟩, ⟨(some 26), none, (.pur ⟨(some 26), (.pick (.tmp 16) (.tmp 25) (.const (.bool false))), 4, "", (List.toArray []), none⟩)⟩])
 (.cond (.tmp 26) (.reg [⟨(some 27), none, (.lda (.tmp 10) 10)⟩, ⟨none, none, (.sta (.tmp 8) (.tmp 27) 10)⟩, ⟨none, none, (.st (.tmp 9) (.const (.bool true)))⟩])
 .skip)))
theorem L45x2 : low Try.prog Try.f45.ntmps (at_ Try.f45 [1, 1, 1, 0, 1, 0, 1]) = some R45x2 := by kernel_rfl
theorem N46 : Try.f46.ntmps = 4 := by kernel_rfl
theorem Z46 : Try.f46.results.toList = ((List.toArray [(.tmp 2)]) : Array ResultVar).toList := by kernel_rfl
theorem B46 : Try.f46.body = some (at_ Try.f46 []) := by kernel_rfl
noncomputable def R46 : RC := (.seq (.reg [⟨(some 1), none, (.box 71 (.tmp 0))⟩, ⟨(some 2), none, (.mov (.const .nilFunc))⟩])
 (.seq (.reg [⟨(some 3), none, (.pur ⟨(some 3), (.makeFunc (.func 60) (List.toArray []) (List.toArray [(.tmp 1)])), 89, "", (List.toArray []), none⟩)⟩, ⟨(some 2), none, (.mov (.tmp 3))⟩])
 .ret))
theorem L46 : low Try.prog Try.f46.ntmps (at_ Try.f46 []) = some R46 := by kernel_rfl
theorem N60 : Try.f60.ntmps = 26 := by kernel_rfl
theorem Z60 : Try.f60.results.toList = ((List.toArray []) : Array ResultVar).toList := by kernel_rfl
theorem B60 : Try.f60.body = some (at_ Try.f60 []) := by kernel_rfl
noncomputable def R60 : RC := (.seq (.reg [⟨(some 2), none, (.box 87 (.tmp 0))⟩])
 (.seq (.reg [⟨(some 6), none, (.addo (.tmp 1) 0)⟩, ⟨(some 7), none, (.addo (.tmp 6) 0)⟩, ⟨(some 8), none, (.ld (.tmp 7) 1)⟩, ⟨(some 9), none, (.len (.tmp 8))⟩, ⟨(some 10), none, (.call ⟨(.value (.func 61)), (List.toArray [(.tmp 9)]), (List.toArray [3])⟩ true)⟩])
 (.block 0 (.other (at_ Try.f60 [1, 1, 0])))))
theorem L60 : low Try.prog Try.f60.ntmps (at_ Try.f60 []) = some R60 := by kernel_rfl
theorem E60_1 : at_ Try.f60 [1, 1, 0] = .rangeFunc (.tmp 10) ((List.toArray [11])) (at_ Try.f60 [1, 1, 0, 0]) (at_ Try.f60 [1, 1, 0, 1]) := by kernel_rfl
noncomputable def R60x1 : RC := (.reg [⟨(some 3), none, (.mov (.tmp 11))⟩])
theorem L60x1 : low Try.prog Try.f60.ntmps (at_ Try.f60 [1, 1, 0, 0]) = some R60x1 := by kernel_rfl
noncomputable def R60x2 : RC := (.block 1 (.seq (.reg [⟨(some 13), none, (.lda (.tmp 1) 6)⟩, ⟨(some 14), none, (.mov (.tmp 3))⟩, ⟨(some 15), none, (.call ⟨(.value (.func 53)), (List.toArray [(.tmp 13), (.tmp 14)]), (List.toArray [71, 26])⟩ true)⟩, ⟨(some 12), none, (.mov (.tmp 15))⟩, ⟨(some 16), none, (.pur ⟨(some 16), (.extract (.tmp 12) 0), 78, "", (List.toArray []), none⟩)⟩, ⟨(some 17), none, (.pur ⟨(some 17), (.extract (.tmp 12) 1), 31, "", (List.toArray []), none⟩)⟩, ⟨(some 4), none, (.alc 78 [(.slice none 0 0), (.slice none 0 0), (.int .i64 0), (.int .i64 0), (.int .i64 0), (.int .i64 0), (.int .i64 0), (.int .i64 0), (.int .i64 0), (.int .i64 0)])⟩, ⟨none, none, (.sta (.tmp 4) (.tmp 16) 10)⟩, ⟨(some 5), none, (.mov (.tmp 17))⟩])
 (.seq (.reg [⟨(some 18), none, (.mov (.tmp 5))⟩, ⟨(some 19), none, (.cmpb .eql (.tmp 18) (.const (.int .i64 0)))⟩, ⟨(some 20), none, (.mov (.tmp 19))⟩, ⟨(some 21), (some (20, true)), (.ld (.tmp 2) 1)⟩, ⟨(some 22), (some (20, true)), (.lda (.tmp 4) 10)⟩, ⟨(some 23), (some (20, true)), (.call ⟨(.value (.tmp 21)), (List.toArray [(.tmp 22)]), (List.toArray [78])⟩ true)⟩, ⟨(some 24), (some (20, true)), (.pur ⟨(some 24), (.unOp .not 4 (.tmp 23)), 4, "", (List.toArray []), none⟩)⟩, ⟨(some 25), none, (.pur ⟨(some 25), (.pick (.tmp 20) (.tmp 24) (.const (.bool false))), 4, "", (List.toArray []), none⟩)⟩])
 (.cond (.tmp 25) .ret
 .skip))))
theorem L60x2 : low Try.prog Try.f60.ntmps (at_ Try.f60 [1, 1, 0, 1]) = some R60x2 := by kernel_rfl
theorem N47 : Try.f47.ntmps = 30 := by kernel_rfl
theorem Z47 : Try.f47.results.toList = ((List.toArray [(.tmp 4)]) : Array ResultVar).toList := by kernel_rfl
theorem B47 : Try.f47.body = some (at_ Try.f47 []) := by kernel_rfl
noncomputable def R47 : RC := (.seq (.reg [⟨(some 2), none, (.box 78 (.tmp 0))⟩, ⟨(some 3), none, (.box 78 (.tmp 1))⟩, ⟨(some 4), none, (.mov (.const (.int .i64 0)))⟩])
 (.seq (.dreg [⟨(some 5), none, (.lda (.tmp 2) 10)⟩, ⟨(some 6), none, (.call ⟨(.value (.func 64)), (List.toArray [(.tmp 5)]), (List.toArray [78])⟩ false)⟩, ⟨(some 7), none, (.pur ⟨(some 7), (.field 52 (.tmp 6) 2), 30, "", (List.toArray []), none⟩)⟩, ⟨(some 8), none, (.pur ⟨(some 8), (.field 30 (.tmp 7) 1), 3, "", (List.toArray []), none⟩)⟩, ⟨(some 9), none, (.lda (.tmp 3) 10)⟩, ⟨(some 10), none, (.call ⟨(.value (.func 64)), (List.toArray [(.tmp 9)]), (List.toArray [78])⟩ false)⟩, ⟨(some 11), none, (.pur ⟨(some 11), (.field 52 (.tmp 10) 2), 30, "", (List.toArray []), none⟩)⟩, ⟨(some 12), none, (.pur ⟨(some 12), (.field 30 (.tmp 11) 1), 3, "", (List.toArray []), none⟩)⟩, ⟨(some 13), none, (.call ⟨(.value (.func 63)), (List.toArray [(.tmp 8), (.tmp 12)]), (List.toArray [3, 3])⟩ false)⟩, ⟨(some 14), none, (.addo (.tmp 2) 2)⟩, ⟨(some 15), none, (.addo (.tmp 14) 0)⟩, ⟨(some 16), none, (.addo (.tmp 15) 1)⟩, ⟨(some 17), none, (.ld (.tmp 16) 1)⟩, ⟨(some 18), none, (.addo (.tmp 3) 2)⟩, ⟨(some 19), none, (.addo (.tmp 18) 0)⟩, ⟨(some 20), none, (.addo (.tmp 19) 1)⟩, ⟨(some 21), none, (.ld (.tmp 20) 1)⟩, ⟨(some 22), none, (.call ⟨(.value (.func 63)), (List.toArray [(.tmp 17), (.tmp 21)]), (List.toArray [3, 3])⟩ false)⟩, ⟨(some 23), none, (.addo (.tmp 2) 0)⟩, ⟨(some 24), none, (.ld (.tmp 23) 1)⟩, ⟨(some 25), none, (.addo (.tmp 3) 0)⟩, ⟨(some 26), none, (.ld (.tmp 25) 1)⟩, ⟨(some 27), none, (.call ⟨(.value (.func 65)), (List.toArray [(.tmp 24), (.tmp 26)]), (List.toArray [26, 26])⟩ true)⟩, ⟨(some 28), none, (.mem ⟨(some 28), (.buildSlice 26 3 (List.toArray [(0, (.tmp 13)), (1, (.tmp 22)), (2, (.tmp 27))])), 26, "", (List.toArray []), none⟩)⟩, ⟨(some 29), none, (.call ⟨(.value (.func 62)), (List.toArray [(.tmp 28)]), (List.toArray [26])⟩ true)⟩, ⟨(some 4), none, (.mov (.tmp 29))⟩] [33554431, 16777215, 8388607, 4194303, 1048576, 0, 262144, 0, 131071, 57344, 24576, 8192, 0, 3584, 1536, 512, 0, 255, 115, 51, 19, 0, 7, 3, 1, 0])
 .ret))
theorem L47 : low Try.prog Try.f47.ntmps (at_ Try.f47 []) = some R47 := by kernel_rfl
theorem N58 : Try.f58.ntmps = 3 := by kernel_rfl
theorem Z58 : Try.f58.results.toList = ((List.toArray [(.tmp 2)]) : Array ResultVar).toList := by kernel_rfl
theorem B58 : Try.f58.body = some (at_ Try.f58 []) := by kernel_rfl
noncomputable def R58 : RC := (.seq (.reg [⟨(some 1), none, (.box 78 (.tmp 0))⟩, ⟨(some 2), none, (.mov (.const (.bool false)))⟩])
 (.seq (.reg [⟨(some 2), none, (.mov (.const (.bool true)))⟩])
 .ret))
theorem L58 : low Try.prog Try.f58.ntmps (at_ Try.f58 []) = some R58 := by kernel_rfl
theorem N59 : Try.f59.ntmps = 19 := by kernel_rfl
theorem Z59 : Try.f59.results.toList = ((List.toArray [(.tmp 4)]) : Array ResultVar).toList := by kernel_rfl
theorem B59 : Try.f59.body = some (at_ Try.f59 []) := by kernel_rfl
noncomputable def R59 : RC := (.seq (.reg [⟨(some 2), none, (.box 78 (.tmp 0))⟩, ⟨(some 3), none, (.box 78 (.tmp 1))⟩, ⟨(some 4), none, (.mov (.const (.int .i64 0)))⟩])
 (.seq (.dreg [⟨(some 5), none, (.addo (.tmp 2) 2)⟩, ⟨(some 6), none, (.addo (.tmp 5) 0)⟩, ⟨(some 7), none, (.addo (.tmp 6) 1)⟩, ⟨(some 8), none, (.ld (.tmp 7) 1)⟩, ⟨(some 9), none, (.addo (.tmp 3) 2)⟩, ⟨(some 10), none, (.addo (.tmp 9) 0)⟩, ⟨(some 11), none, (.addo (.tmp 10) 1)⟩, ⟨(some 12), none, (.ld (.tmp 11) 1)⟩, ⟨(some 13), none, (.call ⟨(.value (.func 63)), (List.toArray [(.tmp 8), (.tmp 12)]), (List.toArray [3, 3])⟩ false)⟩, ⟨(some 14), none, (.lda (.tmp 2) 10)⟩, ⟨(some 15), none, (.lda (.tmp 3) 10)⟩, ⟨(some 16), none, (.call ⟨(.value (.func 47)), (List.toArray [(.tmp 14), (.tmp 15)]), (List.toArray [78, 78])⟩ true)⟩, ⟨(some 17), none, (.mem ⟨(some 17), (.buildSlice 26 2 (List.toArray [(0, (.tmp 13)), (1, (.tmp 16))])), 26, "", (List.toArray []), none⟩)⟩, ⟨(some 18), none, (.call ⟨(.value (.func 62)), (List.toArray [(.tmp 17)]), (List.toArray [26])⟩ true)⟩, ⟨(some 4), none, (.mov (.tmp 18))⟩] [16383, 8191, 4095, 2047, 0, 0, 255, 112, 48, 16, 0, 7, 3, 1, 0])
 .ret))
theorem L59 : low Try.prog Try.f59.ntmps (at_ Try.f59 []) = some R59 := by kernel_rfl
theorem N43 : Try.f43.ntmps = 9 := by kernel_rfl
theorem Z43 : Try.f43.results.toList = ((List.toArray [(.cell 2 78), (.tmp 3)]) : Array ResultVar).toList := by kernel_rfl
theorem B43 : Try.f43.body = some (at_ Try.f43 []) := by kernel_rfl
noncomputable def R43 : RC := (.seq (.reg [⟨(some 1), none, (.box 71 (.tmp 0))⟩, ⟨(some 2), none, (.alc 78 [(.slice none 0 0), (.slice none 0 0), (.int .i64 0), (.int .i64 0), (.int .i64 0), (.int .i64 0), (.int .i64 0), (.int .i64 0), (.int .i64 0), (.int .i64 0)])⟩, ⟨(some 3), none, (.mov (.const (.bool false)))⟩])
 (.seq (.reg [⟨(some 4), none, (.lda (.tmp 1) 6)⟩, ⟨(some 5), none, (.call ⟨(.value (.func 46)), (List.toArray [(.tmp 4)]), (List.toArray [71])⟩ true)⟩, ⟨(some 6), none, (.call ⟨(.value (.func 45)), (List.toArray [(.tmp 5), (.func 58), (.func 59)]), (List.toArray [90, 87, 92])⟩ true)⟩, ⟨(some 7), none, (.pur ⟨(some 7), (.extract (.tmp 6) 0), 78, "", (List.toArray []), none⟩)⟩, ⟨(some 8), none, (.pur ⟨(some 8), (.extract (.tmp 6) 1), 4, "", (List.toArray []), none⟩)⟩, ⟨none, none, (.sta (.tmp 2) (.tmp 7) 10)⟩, ⟨(some 3), none, (.mov (.tmp 8))⟩])
 .ret))
theorem L43 : low Try.prog Try.f43.ntmps (at_ Try.f43 []) = some R43 := by kernel_rfl
theorem N21 : Try.f21.ntmps = 39 := by kernel_rfl
theorem Z21 : Try.f21.results.toList = ((List.toArray [(.tmp 2), (.tmp 3)]) : Array ResultVar).toList := by kernel_rfl
theorem B21 : Try.f21.body = some (at_ Try.f21 []) := by kernel_rfl
noncomputable def R21 : RC := (.seq (.reg [⟨(some 1), none, (.box 25 (.tmp 0))⟩, ⟨(some 2), none, (.mov (.const (.slice none 0 0)))⟩, ⟨(some 3), none, (.mov (.const (.int .i64 0)))⟩])
 (.seq (.reg [⟨(some 11), none, (.lda (.tmp 1) 5)⟩, ⟨(some 12), none, (.call ⟨(.value (.func 35)), (List.toArray [(.tmp 11)]), (List.toArray [25])⟩ true)⟩, ⟨(some 10), none, (.mov (.tmp 12))⟩, ⟨(some 13), none, (.pur ⟨(some 13), (.extract (.tmp 10) 0), 71, "", (List.toArray []), none⟩)⟩, ⟨(some 14), none, (.pur ⟨(some 14), (.extract (.tmp 10) 1), 31, "", (List.toArray []), none⟩)⟩, ⟨(some 4), none, (.alc 71 [(.slice none 0 0), (.slice none 0 0), (.int .i64 0), (.int .i64 0), (.int .i64 0), (.slice none 0 0)])⟩, ⟨none, none, (.sta (.tmp 4) (.tmp 13) 6)⟩, ⟨(some 5), none, (.mov (.tmp 14))⟩])
 (.seq (.seq (.reg [⟨(some 15), none, (.mov (.tmp 5))⟩, ⟨(some 16), none, (.cmp .neq (.tmp 15) (.const (.int .i64 0)))⟩])
 (.cond (.tmp 16) (.seq (.reg [⟨(some 17), none, (.mov (.tmp 5))⟩, ⟨(some 2), none, (.mov (.const (.slice none 0 0)))⟩, ⟨(some 3), none, (.mov (.tmp 17))⟩])
 .ret)
 .skip))
 (.seq (.reg [⟨(some 19), none, (.lda (.tmp 4) 6)⟩, ⟨(some 20), none, (.call ⟨(.value (.func 43)), (List.toArray [(.tmp 19)]), (List.toArray [71])⟩ true)⟩, ⟨(some 18), none, (.mov (.tmp 20))⟩, ⟨(some 21), none, (.pur ⟨(some 21), (.extract (.tmp 18) 0), 78, "", (List.toArray []), none⟩)⟩, ⟨(some 22), none, (.pur ⟨(some 22), (.extract (.tmp 18) 1), 4, "", (List.toArray []), none⟩)⟩, ⟨(some 6), none, (.alc 78 [(.slice none 0 0), (.slice none 0 0), (.int .i64 0), (.int .i64 0), (.int .i64 0), (.int .i64 0), (.int .i64 0), (.int .i64 0), (.int .i64 0), (.int .i64 0)])⟩, ⟨none, none, (.sta (.tmp 6) (.tmp 21) 10)⟩, ⟨(some 7), none, (.mov (.tmp 22))⟩])
 (.seq (.seq (.reg [⟨(some 23), none, (.mov (.tmp 7))⟩, ⟨(some 24), none, (.pur ⟨(some 24), (.unOp .not 4 (.tmp 23)), 4, "", (List.toArray []), none⟩)⟩])
 (.cond (.tmp 24) (.seq (.reg [⟨(some 2), none, (.mov (.const (.slice none 0 0)))⟩, ⟨(some 3), none, (.mov (.const (.int .i64 4)))⟩])
 .ret)
 .skip))
 (.seq (.seq (.reg [⟨(some 25), none, (.lda (.tmp 4) 6)⟩, ⟨(some 26), none, (.lda (.tmp 6) 10)⟩, ⟨(some 27), none, (.call ⟨(.value (.func 44)), (List.toArray [(.tmp 25), (.tmp 26)]), (List.toArray [71, 78])⟩ true)⟩, ⟨(some 28), none, (.pur ⟨(some 28), (.unOp .not 4 (.tmp 27)), 4, "", (List.toArray []), none⟩)⟩])
 (.cond (.tmp 28) (.seq (.reg [⟨(some 2), none, (.mov (.const (.slice none 0 0)))⟩, ⟨(some 3), none, (.mov (.const (.int .i64 10)))⟩])
 .ret)
 .skip))
 (.seq (.dreg [⟨(some 30), none, (.lda (.tmp 4) 6)⟩, ⟨(some 31), none, (.call ⟨(.value (.func 46)), (List.toArray [(.tmp 30)]), (List.toArray [71])⟩ false)⟩, ⟨(some 32), none, (.lda (.tmp 4) 6)⟩, ⟨(some 33), none, (.pur ⟨(some 33), (.makeFunc (.func 44) (List.toArray [(.tmp 32)]) (List.toArray [])), 87, "", (List.toArray []), none⟩)⟩, ⟨(some 34), none, (.call ⟨(.value (.func 45)), (List.toArray [(.tmp 31), (.tmp 33), (.func 47)]), (List.toArray [90, 87, 92])⟩ false)⟩, ⟨(some 29), none, (.mov (.tmp 34))⟩, ⟨(some 35), none, (.pur ⟨(some 35), (.extract (.tmp 29) 0), 78, "", (List.toArray []), none⟩)⟩, ⟨(some 36), none, (.pur ⟨(some 36), (.extract (.tmp 29) 1), 4, "", (List.toArray []), none⟩)⟩, ⟨(some 8), none, (.alc 78 [(.slice none 0 0), (.slice none 0 0), (.int .i64 0), (.int .i64 0), (.int .i64 0), (.int .i64 0), (.int .i64 0), (.int .i64 0), (.int .i64 0), (.int .i64 0)])⟩, ⟨none, none, (.sta (.tmp 8) (.tmp 35) 10)⟩, ⟨(some 9), none, (.mov (.tmp 36))⟩] [1023, 383, 0, 63, 63, 31, 15, 4, 0, 1, 0])
 (.seq (.reg [⟨(some 37), none, (.addo (.tmp 8) 0)⟩, ⟨(some 38), none, (.ld (.tmp 37) 1)⟩, ⟨(some 2), none, (.mov (.tmp 38))⟩, ⟨(some 3), none, (.mov (.const (.int .i64 0)))⟩])
 .ret))))))))
theorem L21 : low Try.prog Try.f21.ntmps (at_ Try.f21 []) = some R21 := by kernel_rfl
theorem N23 : Try.f23.ntmps = 29 := by kernel_rfl
theorem Z23 : Try.f23.results.toList = ((List.toArray [(.tmp 2), (.tmp 3), (.tmp 4)]) : Array ResultVar).toList := by kernel_rfl
theorem B23 : Try.f23.body = some (at_ Try.f23 []) := by kernel_rfl
noncomputable def R23 : RC := (.seq (.reg [⟨(some 1), none, (.box 25 (.tmp 0))⟩, ⟨(some 2), none, (.mov (.const (.int .i64 0)))⟩, ⟨(some 3), none, (.mov (.const (.slice none 0 0)))⟩, ⟨(some 4), none, (.mov (.const (.int .i64 0)))⟩])
 (.seq (.reg [⟨(some 9), none, (.lda (.tmp 1) 5)⟩, ⟨(some 10), none, (.call ⟨(.value (.func 35)), (List.toArray [(.tmp 9)]), (List.toArray [25])⟩ true)⟩, ⟨(some 8), none, (.mov (.tmp 10))⟩, ⟨(some 11), none, (.pur ⟨(some 11), (.extract (.tmp 8) 0), 71, "", (List.toArray []), none⟩)⟩, ⟨(some 12), none, (.pur ⟨(some 12), (.extract (.tmp 8) 1), 31, "", (List.toArray []), none⟩)⟩, ⟨(some 5), none, (.alc 71 [(.slice none 0 0), (.slice none 0 0), (.int .i64 0), (.int .i64 0), (.int .i64 0), (.slice none 0 0)])⟩, ⟨none, none, (.sta (.tmp 5) (.tmp 11) 6)⟩, ⟨(some 4), none, (.mov (.tmp 12))⟩])
 (.seq (.seq (.reg [⟨(some 13), none, (.mov (.tmp 4))⟩, ⟨(some 14), none, (.cmp .neq (.tmp 13) (.const (.int .i64 0)))⟩])
 (.cond (.tmp 14) (.seq (.reg [⟨(some 15), none, (.mov (.tmp 4))⟩, ⟨(some 2), none, (.mov (.const (.int .i64 0)))⟩, ⟨(some 3), none, (.mov (.const (.slice none 0 0)))⟩, ⟨(some 4), none, (.mov (.tmp 15))⟩])
 .ret)
 .skip))
 (.seq (.reg [⟨(some 17), none, (.lda (.tmp 5) 6)⟩, ⟨(some 18), none, (.call ⟨(.value (.func 43)), (List.toArray [(.tmp 17)]), (List.toArray [71])⟩ true)⟩, ⟨(some 16), none, (.mov (.tmp 18))⟩, ⟨(some 19), none, (.pur ⟨(some 19), (.extract (.tmp 16) 0), 78, "", (List.toArray []), none⟩)⟩, ⟨(some 20), none, (.pur ⟨(some 20), (.extract (.tmp 16) 1), 4, "", (List.toArray []), none⟩)⟩, ⟨(some 6), none, (.alc 78 [(.slice none 0 0), (.slice none 0 0), (.int .i64 0), (.int .i64 0), (.int .i64 0), (.int .i64 0), (.int .i64 0), (.int .i64 0), (.int .i64 0), (.int .i64 0)])⟩, ⟨none, none, (.sta (.tmp 6) (.tmp 19) 10)⟩, ⟨(some 7), none, (.mov (.tmp 20))⟩])
 (.seq (.seq (.reg [⟨(some 21), none, (.mov (.tmp 7))⟩, ⟨(some 22), none, (.pur ⟨(some 22), (.unOp .not 4 (.tmp 21)), 4, "", (List.toArray []), none⟩)⟩])
 (.cond (.tmp 22) (.seq (.reg [⟨(some 2), none, (.mov (.const (.int .i64 0)))⟩, ⟨(some 3), none, (.mov (.const (.slice none 0 0)))⟩, ⟨(some 4), none, (.mov (.const (.int .i64 4)))⟩])
 .ret)
 .skip))
 (.seq (.dreg [⟨(some 23), none, (.addo (.tmp 6) 2)⟩, ⟨(some 24), none, (.addo (.tmp 23) 0)⟩, ⟨(some 25), none, (.addo (.tmp 24) 1)⟩, ⟨(some 26), none, (.ld (.tmp 25) 1)⟩, ⟨(some 27), none, (.addo (.tmp 6) 0)⟩, ⟨(some 28), none, (.ld (.tmp 27) 1)⟩, ⟨(some 2), none, (.mov (.tmp 26))⟩, ⟨(some 3), none, (.mov (.tmp 28))⟩, ⟨(some 4), none, (.mov (.const (.int .i64 0)))⟩] [255, 127, 15, 16, 0, 7, 3, 1, 0])
 .ret))))))
theorem L23 : low Try.prog Try.f23.ntmps (at_ Try.f23 []) = some R23 := by kernel_rfl
theorem N66 : Try.f66.ntmps = 50 := by kernel_rfl
theorem Z66 : Try.f66.results.toList = ((List.toArray [(.tmp 6)]) : Array ResultVar).toList := by kernel_rfl
theorem B66 : Try.f66.body = some (at_ Try.f66 []) := by kernel_rfl
noncomputable def R66 : RC := (.seq (.reg [⟨(some 6), none, (.mov (.const (.slice none 0 0)))⟩])
 (.seq (.seq (.reg [⟨(some 10), none, (.mov (.tmp 1))⟩, ⟨(some 11), none, (.len (.tmp 10))⟩, ⟨(some 12), none, (.mov (.tmp 0))⟩, ⟨(some 13), none, (.cmp .eql (.tmp 11) (.tmp 12))⟩])
 (.cond (.tmp 13) (.seq (.reg [⟨(some 14), none, (.mov (.tmp 2))⟩, ⟨(some 15), none, (.mov (.tmp 1))⟩, ⟨(some 16), none, (.mem ⟨(some 16), (.buildSlice 23 1 (List.toArray [(0, (.tmp 15))])), 23, "", (List.toArray []), none⟩)⟩, ⟨(some 17), none, (.mem ⟨(some 17), (.call ⟨(.builtin .append), (List.toArray [(.tmp 14), (.tmp 16)]), (List.toArray [23, 23])⟩), 23, "", (List.toArray []), none⟩)⟩, ⟨(some 6), none, (.mov (.tmp 17))⟩])
 .ret)
 .skip))
 (.seq (.seq (.reg [⟨(some 7), none, (.mov (.const (.int .i64 0)))⟩])
 (.block 0 (.other (at_ Try.f66 [1, 1, 0, 1, 0]))))
 (.seq (.reg [⟨(some 49), none, (.mov (.tmp 2))⟩, ⟨(some 6), none, (.mov (.tmp 49))⟩])
 .ret))))
theorem L66 : low Try.prog Try.f66.ntmps (at_ Try.f66 []) = some R66 := by kernel_rfl
theorem E66_1 : at_ Try.f66 [1, 1, 0, 1, 0] = .loop (at_ Try.f66 [1, 1, 0, 1, 0, 0]) := by kernel_rfl
noncomputable def R66x1 : RC := (.seq (.seq (.reg [⟨(some 18), none, (.mov (.tmp 7))⟩, ⟨(some 19), none, (.mov (.tmp 0))⟩, ⟨(some 20), none, (.cmp .lss (.tmp 18) (.tmp 19))⟩])
 (.cond (.tmp 20) .skip
 (.exit 0)))
 (.seq (.block 1 (.seq (.reg [⟨(some 8), none, (.mov (.const (.bool false)))⟩])
 (.seq (.seq (.reg [⟨(some 9), none, (.mov (.const (.int .i64 0)))⟩])
 (.block 2 (.other (at_ Try.f66 [1, 1, 0, 1, 0, 0, 1, 0, 0, 1, 0, 1, 0]))))
 (.seq (.reg [⟨(some 38), none, (.mov (.tmp 8))⟩, ⟨(some 39), none, (.pur ⟨(some 39), (.unOp .not 4 (.tmp 38)), 4, "", (List.toArray []), none⟩)⟩])
 (.cond (.tmp 39) (.reg [⟨(some 40), none, (.mov (.tmp 0))⟩, ⟨(some 41), none, (.mem ⟨(some 41), (.buildSlice 26 0 (List.toArray [])), 26, "", (List.toArray []), none⟩)⟩, ⟨(some 42), none, (.mov (.tmp 1))⟩, ⟨(some 43), none, (.mem ⟨(some 43), (.call ⟨(.builtin .append), (List.toArray [(.tmp 41), (.tmp 42)]), (List.toArray [26, 26])⟩), 26, "", (List.toArray []), none⟩)⟩, ⟨(some 44), none, (.mov (.tmp 7))⟩, ⟨(some 45), none, (.mem ⟨(some 45), (.buildSlice 26 1 (List.toArray [(0, (.tmp 44))])), 26, "", (List.toArray []), none⟩)⟩, ⟨(some 46), none, (.mem ⟨(some 46), (.call ⟨(.builtin .append), (List.toArray [(.tmp 43), (.tmp 45)]), (List.toArray [26, 26])⟩), 26, "", (List.toArray []), none⟩)⟩, ⟨(some 47), none, (.mov (.tmp 2))⟩, ⟨(some 48), none, (.call ⟨(.value (.func 66)), (List.toArray [(.tmp 40), (.tmp 46), (.tmp 47)]), (List.toArray [3, 26, 23])⟩ true)⟩, ⟨(some 2), none, (.mov (.tmp 48))⟩])
 .skip)))))
 (.reg [⟨(some 21), none, (.mov (.tmp 7))⟩, ⟨(some 22), none, (.ari .add (.tmp 21) (.const (.int .i64 1)))⟩, ⟨(some 7), none, (.mov (.tmp 22))⟩])))
theorem L66x1 : low Try.prog Try.f66.ntmps (at_ Try.f66 [1, 1, 0, 1, 0, 0]) = some R66x1 := by kernel_rfl
theorem E66_2 : at_ Try.f66 [1, 1, 0, 1, 0, 0, 1, 0, 0, 1, 0, 1, 0] = .loop (at_ Try.f66 [1, 1, 0, 1, 0, 0, 1, 0, 0, 1, 0, 1, 0, 0]) := by kernel_rfl
noncomputable def R66x2 : RC := (.seq (.seq (.reg [⟨(some 23), none, (.mov (.tmp 9))⟩, ⟨(some 24), none, (.mov (.tmp 1))⟩, ⟨(some 25), none, (.len (.tmp 24))⟩, ⟨(some 26), none, (.cmp .lss (.tmp 23) (.tmp 25))⟩])
 (.cond (.tmp 26) .skip
 (.exit 2)))
 (.seq (.block 3 (.reg [⟨(some 29), none, (.mov (.tmp 8))⟩, ⟨(some 30), none, (.mov (.tmp 29))⟩, ⟨(some 31), (some (30, false)), (.mov (.tmp 1))⟩, ⟨(some 32), (some (30, false)), (.mov (.tmp 9))⟩, ⟨(some 33), (some (30, false)), (.idx (.tmp 31) (.tmp 32) 1)⟩, ⟨(some 34), (some (30, false)), (.ld (.tmp 33) 1)⟩, ⟨(some 35), (some (30, false)), (.mov (.tmp 7))⟩, ⟨(some 36), (some (30, false)), (.cmpb .eql (.tmp 34) (.tmp 35))⟩, ⟨(some 37), none, (.pur ⟨(some 37), (.pick (.tmp 30) (.const (.bool true)) (.tmp 36)), 4, "", (List.toArray []), none⟩)⟩, ⟨(some 8), none, (.mov (.tmp 37))⟩]))
 (.reg [⟨(some 27), none, (.mov (.tmp 9))⟩, ⟨(some 28), none, (.ari .add (.tmp 27) (.const (.int .i64 1)))⟩, ⟨(some 9), none, (.mov (.tmp 28))⟩])))
theorem L66x2 : low Try.prog Try.f66.ntmps (at_ Try.f66 [1, 1, 0, 1, 0, 0, 1, 0, 0, 1, 0, 1, 0, 0]) = some R66x2 := by kernel_rfl
theorem N48 : Try.f48.ntmps = 93 := by kernel_rfl
theorem Z48 : Try.f48.results.toList = ((List.toArray [(.tmp 2), (.tmp 3)]) : Array ResultVar).toList := by kernel_rfl
theorem B48 : Try.f48.body = some (at_ Try.f48 []) := by kernel_rfl
noncomputable def R48 : RC := (.seq (.reg [⟨(some 1), none, (.box 25 (.tmp 0))⟩, ⟨(some 2), none, (.mov (.const (.slice none 0 0)))⟩, ⟨(some 3), none, (.mov (.const (.int .i64 0)))⟩])
 (.seq (.reg [⟨(some 4), none, (.mov (.const (.slice none 0 0)))⟩])
 (.seq (.reg [⟨(some 5), none, (.mov (.const (.int .i64 (-1))))⟩, ⟨(some 6), none, (.mov (.const (.int .i64 0)))⟩, ⟨(some 7), none, (.mov (.const (.int .i64 0)))⟩])
 (.seq (.reg [⟨(some 14), none, (.addo (.tmp 1) 0)⟩, ⟨(some 15), none, (.ld (.tmp 14) 1)⟩, ⟨(some 16), none, (.len (.tmp 15))⟩, ⟨(some 17), none, (.call ⟨(.value (.func 66)), (List.toArray [(.tmp 16), (.const (.slice none 0 0)), (.const (.slice none 0 0))]), (List.toArray [3, 26, 23])⟩ true)⟩, ⟨(some 8), none, (.mov (.tmp 17))⟩])
 (.seq (.seq (.reg [⟨(some 9), none, (.mov (.const (.int .i64 0)))⟩])
 (.block 0 (.other (at_ Try.f48 [1, 1, 1, 1, 0, 1, 0]))))
 (.seq (.reg [⟨(some 91), none, (.mov (.tmp 4))⟩, ⟨(some 92), none, (.mov (.tmp 5))⟩, ⟨(some 2), none, (.mov (.tmp 91))⟩, ⟨(some 3), none, (.mov (.tmp 92))⟩])
 .ret))))))
theorem L48 : low Try.prog Try.f48.ntmps (at_ Try.f48 []) = some R48 := by kernel_rfl
theorem E48_1 : at_ Try.f48 [1, 1, 1, 1, 0, 1, 0] = .loop (at_ Try.f48 [1, 1, 1, 1, 0, 1, 0, 0]) := by kernel_rfl
noncomputable def R48x1 : RC := (.seq (.seq (.reg [⟨(some 18), none, (.mov (.tmp 9))⟩, ⟨(some 19), none, (.mov (.tmp 8))⟩, ⟨(some 20), none, (.len (.tmp 19))⟩, ⟨(some 21), none, (.cmp .lss (.tmp 18) (.tmp 20))⟩])
 (.cond (.tmp 21) .skip
 (.exit 0)))
 (.seq (.block 1 (.seq (.dreg [⟨(some 25), none, (.lda (.tmp 1) 5)⟩, ⟨(some 26), none, (.mov (.tmp 8))⟩, ⟨(some 27), none, (.mov (.tmp 9))⟩, ⟨(some 28), none, (.idx (.tmp 26) (.tmp 27) 1)⟩, ⟨(some 29), none, (.ld (.tmp 28) 1)⟩, ⟨(some 30), none, (.call ⟨(.value (.func 41)), (List.toArray [(.tmp 25), (.tmp 29)]), (List.toArray [25, 26])⟩ false)⟩, ⟨(some 24), none, (.mov (.tmp 30))⟩, ⟨(some 31), none, (.pur ⟨(some 31), (.extract (.tmp 24) 0), 34, "", (List.toArray []), none⟩)⟩, ⟨(some 32), none, (.pur ⟨(some 32), (.extract (.tmp 24) 1), 36, "", (List.toArray []), none⟩)⟩, ⟨(some 33), none, (.pur ⟨(some 33), (.extract (.tmp 24) 2), 4, "", (List.toArray []), none⟩)⟩, ⟨(some 11), none, (.alc 36 [(.int .i64 0), (.int .i64 0), (.int .i64 0), (.int .i64 0), (.int .i64 0), (.int .i64 0), (.int .i64 0), (.int .i64 0)])⟩, ⟨(some 10), none, (.mov (.tmp 31))⟩, ⟨none, none, (.sta (.tmp 11) (.tmp 32) 8)⟩, ⟨(some 12), none, (.mov (.tmp 33))⟩] [8191, 3583, 1279, 0, 127, 127, 127, 63, 31, 14, 6, 0, 0, 0])
 (.seq (.seq (.reg [⟨(some 34), none, (.mov (.tmp 12))⟩, ⟨(some 35), none, (.pur ⟨(some 35), (.unOp .not 4 (.tmp 34)), 4, "", (List.toArray []), none⟩)⟩])
 (.cond (.tmp 35) (.exit 1)
 .skip))
 (.seq (.seq (.reg [⟨(some 36), none, (.mov (.tmp 5))⟩, ⟨(some 37), none, (.cmpb .lss (.tmp 36) (.const (.int .i64 0)))⟩, ⟨(some 38), none, (.mov (.tmp 37))⟩, ⟨(some 39), (some (38, false)), (.addo (.tmp 11) 0)⟩, ⟨(some 40), (some (38, false)), (.addo (.tmp 39) 1)⟩, ⟨(some 41), (some (38, false)), (.ld (.tmp 40) 1)⟩, ⟨(some 42), (some (38, false)), (.mov (.tmp 5))⟩, ⟨(some 43), (some (38, false)), (.cmpb .lss (.tmp 41) (.tmp 42))⟩, ⟨(some 44), none, (.pur ⟨(some 44), (.pick (.tmp 38) (.const (.bool true)) (.tmp 43)), 4, "", (List.toArray []), none⟩)⟩])
 (.cond (.tmp 44) (.reg [⟨(some 45), none, (.addo (.tmp 11) 0)⟩, ⟨(some 46), none, (.addo (.tmp 45) 1)⟩, ⟨(some 47), none, (.ld (.tmp 46) 1)⟩, ⟨(some 5), none, (.mov (.tmp 47))⟩])
 .skip))
 (.seq (.reg [⟨(some 48), none, (.mov (.tmp 10))⟩, ⟨(some 49), none, (.mov (.tmp 10))⟩, ⟨(some 50), none, (.len (.tmp 49))⟩, ⟨(some 51), none, (.ari .sub (.tmp 50) (.const (.int .i64 1)))⟩, ⟨(some 52), none, (.idx (.tmp 48) (.tmp 51) 5)⟩, ⟨(some 53), none, (.addo (.tmp 52) 3)⟩, ⟨(some 54), none, (.addo (.tmp 53) 1)⟩, ⟨(some 55), none, (.ld (.tmp 54) 1)⟩, ⟨(some 13), none, (.mov (.tmp 55))⟩])
 (.seq (.reg [⟨(some 56), none, (.addo (.tmp 11) 0)⟩, ⟨(some 57), none, (.addo (.tmp 56) 1)⟩, ⟨(some 58), none, (.ld (.tmp 57) 1)⟩, ⟨(some 59), none, (.addo (.tmp 1) 3)⟩, ⟨(some 60), none, (.ld (.tmp 59) 1)⟩, ⟨(some 61), none, (.cmpb .leq (.tmp 58) (.tmp 60))⟩, ⟨(some 62), none, (.mov (.tmp 61))⟩, ⟨(some 63), (some (62, true)), (.mov (.tmp 4))⟩, ⟨(some 64), (some (62, true)), (.pur ⟨(some 64), (.binOp .eql 26 (.tmp 63) (.const (.slice none 0 0)) 26), 4, "", (List.toArray []), none⟩)⟩, ⟨(some 65), (some (62, true)), (.mov (.tmp 64))⟩, ⟨(some 66), (some (65, false)), (.mov (.tmp 13))⟩, ⟨(some 67), (some (65, false)), (.mov (.tmp 6))⟩, ⟨(some 68), (some (65, false)), (.cmpb .lss (.tmp 66) (.tmp 67))⟩, ⟨(some 69), (some (62, true)), (.pur ⟨(some 69), (.pick (.tmp 65) (.const (.bool true)) (.tmp 68)), 4, "", (List.toArray []), none⟩)⟩, ⟨(some 70), (some (62, true)), (.mov (.tmp 69))⟩, ⟨(some 71), (some (70, false)), (.mov (.tmp 13))⟩, ⟨(some 72), (some (70, false)), (.mov (.tmp 6))⟩, ⟨(some 73), (some (70, false)), (.cmpb .eql (.tmp 71) (.tmp 72))⟩, ⟨(some 74), (some (70, false)), (.mov (.tmp 73))⟩, ⟨(some 75), (some (74, true)), (.addo (.tmp 11) 0)⟩, ⟨(some 76), (some (74, true)), (.addo (.tmp 75) 1)⟩, ⟨(some 77), (some (74, true)), (.ld (.tmp 76) 1)⟩, ⟨(some 78), (some (74, true)), (.mov (.tmp 7))⟩, ⟨(some 79), (some (74, true)), (.cmpb .lss (.tmp 77) (.tmp 78))⟩, ⟨(some 80), (some (70, false)), (.pur ⟨(some 80), (.pick (.tmp 74) (.tmp 79) (.const (.bool false))), 4, "", (List.toArray []), none⟩)⟩, ⟨(some 81), (some (62, true)), (.pur ⟨(some 81), (.pick (.tmp 70) (.const (.bool true)) (.tmp 80)), 4, "", (List.toArray []), none⟩)⟩, ⟨(some 82), none, (.pur ⟨(some 82), (.pick (.tmp 62) (.tmp 81) (.const (.bool false))), 4, "", (List.toArray []), none⟩)⟩])
 (.cond (.tmp 82) (.seq (.reg [⟨(some 83), none, (.mov (.tmp 8))⟩, ⟨(some 84), none, (.mov (.tmp 9))⟩, ⟨(some 85), none, (.idx (.tmp 83) (.tmp 84) 1)⟩, ⟨(some 86), none, (.ld (.tmp 85) 1)⟩, ⟨(some 4), none, (.mov (.tmp 86))⟩])
 (.seq (.reg [⟨(some 87), none, (.mov (.tmp 13))⟩, ⟨(some 6), none, (.mov (.tmp 87))⟩])
 (.reg [⟨(some 88), none, (.addo (.tmp 11) 0)⟩, ⟨(some 89), none, (.addo (.tmp 88) 1)⟩, ⟨(some 90), none, (.ld (.tmp 89) 1)⟩, ⟨(some 7), none, (.mov (.tmp 90))⟩])))
 .skip)))))))
 (.reg [⟨(some 22), none, (.mov (.tmp 9))⟩, ⟨(some 23), none, (.ari .add (.tmp 22) (.const (.int .i64 1)))⟩, ⟨(some 9), none, (.mov (.tmp 23))⟩])))
theorem L48x1 : low Try.prog Try.f48.ntmps (at_ Try.f48 [1, 1, 1, 1, 0, 1, 0, 0]) = some R48x1 := by kernel_rfl
theorem N22 : Try.f22.ntmps = 19 := by kernel_rfl
theorem Z22 : Try.f22.results.toList = ((List.toArray [(.tmp 2), (.tmp 3)]) : Array ResultVar).toList := by kernel_rfl
theorem B22 : Try.f22.body = some (at_ Try.f22 []) := by kernel_rfl
noncomputable def R22 : RC := (.seq (.reg [⟨(some 1), none, (.box 25 (.tmp 0))⟩, ⟨(some 2), none, (.mov (.const (.slice none 0 0)))⟩, ⟨(some 3), none, (.mov (.const (.int .i64 0)))⟩])
 (.seq (.seq (.reg [⟨(some 6), none, (.lda (.tmp 1) 5)⟩, ⟨(some 7), none, (.call ⟨(.value (.func 28)), (List.toArray [(.tmp 6)]), (List.toArray [25])⟩ true)⟩, ⟨(some 8), none, (.pur ⟨(some 8), (.unOp .not 4 (.tmp 7)), 4, "", (List.toArray []), none⟩)⟩])
 (.cond (.tmp 8) (.seq (.reg [⟨(some 2), none, (.mov (.const (.slice none 0 0)))⟩, ⟨(some 3), none, (.mov (.const (.int .i64 1)))⟩])
 .ret)
 .skip))
 (.seq (.reg [⟨(some 10), none, (.lda (.tmp 1) 5)⟩, ⟨(some 11), none, (.call ⟨(.value (.func 48)), (List.toArray [(.tmp 10)]), (List.toArray [25])⟩ true)⟩, ⟨(some 9), none, (.mov (.tmp 11))⟩, ⟨(some 12), none, (.pur ⟨(some 12), (.extract (.tmp 9) 0), 26, "", (List.toArray []), none⟩)⟩, ⟨(some 13), none, (.pur ⟨(some 13), (.extract (.tmp 9) 1), 3, "", (List.toArray []), none⟩)⟩, ⟨(some 4), none, (.mov (.tmp 12))⟩, ⟨(some 5), none, (.mov (.tmp 13))⟩])
 (.seq (.seq (.reg [⟨(some 14), none, (.mov (.tmp 5))⟩, ⟨(some 15), none, (.cmp .lss (.tmp 14) (.const (.int .i64 0)))⟩])
 (.cond (.tmp 15) (.seq (.reg [⟨(some 2), none, (.mov (.const (.slice none 0 0)))⟩, ⟨(some 3), none, (.mov (.const (.int .i64 4)))⟩])
 .ret)
 .skip))
 (.seq (.seq (.reg [⟨(some 16), none, (.mov (.tmp 4))⟩, ⟨(some 17), none, (.pur ⟨(some 17), (.binOp .eql 26 (.tmp 16) (.const (.slice none 0 0)) 26), 4, "", (List.toArray []), none⟩)⟩])
 (.cond (.tmp 17) (.seq (.reg [⟨(some 2), none, (.mov (.const (.slice none 0 0)))⟩, ⟨(some 3), none, (.mov (.const (.int .i64 10)))⟩])
 .ret)
 .skip))
 (.seq (.reg [⟨(some 18), none, (.mov (.tmp 4))⟩, ⟨(some 2), none, (.mov (.tmp 18))⟩, ⟨(some 3), none, (.mov (.const (.int .i64 0)))⟩])
 .ret))))))
theorem L22 : low Try.prog Try.f22.ntmps (at_ Try.f22 []) = some R22 := by kernel_rfl
theorem N24 : Try.f24.ntmps = 28 := by kernel_rfl
theorem Z24 : Try.f24.results.toList = ((List.toArray [(.tmp 2), (.tmp 3), (.tmp 4)]) : Array ResultVar).toList := by kernel_rfl
theorem B24 : Try.f24.body = some (at_ Try.f24 []) := by kernel_rfl
noncomputable def R24 : RC := (.seq (.reg [⟨(some 1), none, (.box 25 (.tmp 0))⟩, ⟨(some 2), none, (.mov (.const (.int .i64 0)))⟩, ⟨(some 3), none, (.mov (.const (.slice none 0 0)))⟩, ⟨(some 4), none, (.mov (.const (.int .i64 0)))⟩])
 (.seq (.seq (.reg [⟨(some 9), none, (.lda (.tmp 1) 5)⟩, ⟨(some 10), none, (.call ⟨(.value (.func 28)), (List.toArray [(.tmp 9)]), (List.toArray [25])⟩ true)⟩, ⟨(some 11), none, (.pur ⟨(some 11), (.unOp .not 4 (.tmp 10)), 4, "", (List.toArray []), none⟩)⟩])
 (.cond (.tmp 11) (.seq (.reg [⟨(some 2), none, (.mov (.const (.int .i64 0)))⟩, ⟨(some 3), none, (.mov (.const (.slice none 0 0)))⟩, ⟨(some 4), none, (.mov (.const (.int .i64 1)))⟩])
 .ret)
 .skip))
 (.seq (.reg [⟨(some 13), none, (.lda (.tmp 1) 5)⟩, ⟨(some 14), none, (.call ⟨(.value (.func 48)), (List.toArray [(.tmp 13)]), (List.toArray [25])⟩ true)⟩, ⟨(some 12), none, (.mov (.tmp 14))⟩, ⟨(some 15), none, (.pur ⟨(some 15), (.extract (.tmp 12) 0), 26, "", (List.toArray []), none⟩)⟩, ⟨(some 16), none, (.pur ⟨(some 16), (.extract (.tmp 12) 1), 3, "", (List.toArray []), none⟩)⟩, ⟨(some 5), none, (.mov (.tmp 15))⟩, ⟨(some 6), none, (.mov (.tmp 16))⟩])
 (.seq (.seq (.reg [⟨(some 17), none, (.mov (.tmp 6))⟩, ⟨(some 18), none, (.cmp .lss (.tmp 17) (.const (.int .i64 0)))⟩])
 (.cond (.tmp 18) (.seq (.reg [⟨(some 2), none, (.mov (.const (.int .i64 0)))⟩, ⟨(some 3), none, (.mov (.const (.slice none 0 0)))⟩, ⟨(some 4), none, (.mov (.const (.int .i64 4)))⟩])
 .ret)
 .skip))
 (.seq (.reg [⟨(some 19), none, (.mov (.tmp 6))⟩, ⟨(some 20), none, (.addo (.tmp 1) 3)⟩, ⟨none, none, (.st (.tmp 20) (.tmp 19))⟩])
 (.seq (.reg [⟨(some 22), none, (.lda (.tmp 1) 5)⟩, ⟨(some 23), none, (.call ⟨(.value (.func 48)), (List.toArray [(.tmp 22)]), (List.toArray [25])⟩ true)⟩, ⟨(some 21), none, (.mov (.tmp 23))⟩, ⟨(some 24), none, (.pur ⟨(some 24), (.extract (.tmp 21) 0), 26, "", (List.toArray []), none⟩)⟩, ⟨(some 25), none, (.pur ⟨(some 25), (.extract (.tmp 21) 1), 3, "", (List.toArray []), none⟩)⟩, ⟨(some 7), none, (.mov (.tmp 24))⟩, ⟨(some 8), none, (.mov (.tmp 25))⟩])
 (.seq (.reg [⟨(some 26), none, (.mov (.tmp 6))⟩, ⟨(some 27), none, (.mov (.tmp 7))⟩, ⟨(some 2), none, (.mov (.tmp 26))⟩, ⟨(some 3), none, (.mov (.tmp 27))⟩, ⟨(some 4), none, (.mov (.const (.int .i64 0)))⟩])
 .ret)))))))
theorem L24 : low Try.prog Try.f24.ntmps (at_ Try.f24 []) = some R24 := by kernel_rfl
theorem N25 : Try.f25.ntmps = 26 := by kernel_rfl
theorem Z25 : Try.f25.results.toList = ((List.toArray [(.tmp 4)]) : Array ResultVar).toList := by kernel_rfl
theorem B25 : Try.f25.body = some (at_ Try.f25 []) := by kernel_rfl
noncomputable def R25 : RC := (.seq (.reg [⟨(some 4), none, (.mov (.const (.bool false)))⟩])
 (.seq (.seq (.reg [⟨(some 6), none, (.mov (.tmp 0))⟩, ⟨(some 7), none, (.len (.tmp 6))⟩, ⟨(some 8), none, (.mov (.tmp 1))⟩, ⟨(some 9), none, (.len (.tmp 8))⟩, ⟨(some 10), none, (.cmp .neq (.tmp 7) (.tmp 9))⟩])
 (.cond (.tmp 10) (.seq (.reg [⟨(some 4), none, (.mov (.const (.bool false)))⟩])
 .ret)
 .skip))
 (.seq (.seq (.reg [⟨(some 5), none, (.mov (.const (.int .i64 0)))⟩])
 (.block 0 (.other (at_ Try.f25 [1, 1, 0, 1, 0]))))
 (.seq (.reg [⟨(some 4), none, (.mov (.const (.bool true)))⟩])
 .ret))))
theorem L25 : low Try.prog Try.f25.ntmps (at_ Try.f25 []) = some R25 := by kernel_rfl
theorem E25_1 : at_ Try.f25 [1, 1, 0, 1, 0] = .loop (at_ Try.f25 [1, 1, 0, 1, 0, 0]) := by kernel_rfl
noncomputable def R25x1 : RC := (.seq (.seq (.reg [⟨(some 11), none, (.mov (.tmp 5))⟩, ⟨(some 12), none, (.mov (.tmp 0))⟩, ⟨(some 13), none, (.len (.tmp 12))⟩, ⟨(some 14), none, (.cmp .lss (.tmp 11) (.tmp 13))⟩])
 (.cond (.tmp 14) .skip
 (.exit 0)))
 (.seq (.block 1 (.seq (.dreg [⟨(some 17), none, (.mov (.tmp 0))⟩, ⟨(some 18), none, (.mov (.tmp 5))⟩, ⟨(some 19), none, (.idx (.tmp 17) (.tmp 18) 1)⟩, ⟨(some 20), none, (.ld (.tmp 19) 1)⟩, ⟨(some 21), none, (.mov (.tmp 1))⟩, ⟨(some 22), none, (.mov (.tmp 5))⟩, ⟨(some 23), none, (.idx (.tmp 21) (.tmp 22) 1)⟩, ⟨(some 24), none, (.ld (.tmp 23) 1)⟩, ⟨(some 25), none, (.cmp .neq (.tmp 20) (.tmp 24))⟩] [255, 112, 48, 0, 0, 7, 3, 0, 0])
 (.cond (.tmp 25) (.seq (.reg [⟨(some 4), none, (.mov (.const (.bool false)))⟩])
 .ret)
 .skip)))
 (.reg [⟨(some 15), none, (.mov (.tmp 5))⟩, ⟨(some 16), none, (.ari .add (.tmp 15) (.const (.int .i64 1)))⟩, ⟨(some 5), none, (.mov (.tmp 16))⟩])))
theorem L25x1 : low Try.prog Try.f25.ntmps (at_ Try.f25 [1, 1, 0, 1, 0, 0]) = some R25x1 := by kernel_rfl
end Go.Ax

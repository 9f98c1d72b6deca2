import Derived.Test.YtkdgngdnmgelnaaMc
import Derived.Test.YtkdgngdnmgelnaaChecked
import Derived.Test.YtkdgngdnmgelnaaAxO
import Derived.Deep.Slices
import Derived.Deep.Fields
import Derived.ChangeSame
set_option linter.all false
/-
  Flood: the law FloodTrue, whatever the input (written by program).
-/
namespace Go.Ax
open Go Go.RowKit Go.Proofs

section
variable {kn : FuncId → Option Bool} {lo : Nat} {H : Hp}
theorem can_upto {g : Fh} {o : List Nat} {k n : Nat} (h : g.can o n = true) (hk : k ≤ n) : g.can o k = true := by
  unfold Fh.can at h ⊢
  rw [List.all_eq_true] at h ⊢
  intro j hj
  exact h j (List.mem_range.2 (by have := List.mem_range.1 hj; omega))
set_option maxRecDepth 100000 in
set_option maxHeartbeats 4000000 in
theorem law_true (hkn : kn 13 = some true) {g : Fh} {f m cap : Nat} {sa : Option Addr} {us : List Int} (hat : g.At f H) (hlf : Lf H sa m cap us)  {ya : Option Addr} {yc : Nat} {bs : List Nat} (hy : Sl H ya bs.length yc (u32s bs)) (hu : bs.length ≤ 9223372036854775807) (hbs : ∀ n ∈ bs, n ≤ 4294967295) (hlo : lo ≤ H.next) : ∃ H', FnX Try.prog kn lo 6 [.agg g.v.toArray, .slice sa m cap, .slice ya bs.length yc] H (.bool true) H' := by
  have key := fnX_low (kn := kn) (lo := lo) (H := H) (args := [.agg g.v.toArray, .slice sa m cap, .slice ya bs.length yc]) (Q := fun w H' => w = .bool true) Try.func6 B6 N6 Z6 L6 (by simp) ?_
  · obtain ⟨w, H', h, rfl⟩ := key; exact ⟨H', h⟩
  have hk := Keep.refl H []
  have hfl := hat.le
  have flf : ∀ b, sa = some ⟨b, 0, none⟩ → b < H.next := hlf.old
  have fy : ∀ b, ya = some ⟨b, 0, none⟩ → b < H.next := hy.old
  refine wN_seq ?_
  refine wN_box (v := .agg g.v.toArray) rfl ?_
  intro H1 kH1 nH1 c1
  have c1 : Cl H1 H.next [.slice g.ba g.bn g.bcap, .slice g.ra g.rn g.rcap, iv g.inlet, iv g.reserve, iv g.winds] := c1
  have mH1 := kH1.1
  have hk := hk.trans kH1
  have hat := hat.keep kH1 (by simp)
  have hlf := kH1.lf hlf (fun _ _ => by simp)
  have hy := kH1.sl0 hy
  refine wN_mov (v := .bool false) rfl ?_
  refine wN_end ?_
  refine wN_seq ?_
  refine wN_lda (b := H.next) (o := 0) rfl c1.rd (show row 5 _ _ = some [.slice g.ba g.bn g.bcap, .slice g.ra g.rn g.rcap, iv g.inlet, iv g.reserve, iv g.winds] from rfl) ?_
  obtain ⟨_, H2, fH2, tH2, rfl, kH2, hgr⟩ := great_ok (kn := kn) (lo := lo) (H := H1) (q := 7) hat (by omega)
  have mH2 := kH2.1
  have hk := hk.trans kH2
  have hat := hat.keep kH2 (by simp)
  have hlf := kH2.lf hlf (fun _ _ => by simp)
  have hy := kH2.sl0 hy
  have c1 := kH2.cl c1 (by simp)
  refine wN_callf rfl (callX_args fH2) ?_
  cases tH2
  · have hgr := hgr rfl
    refine wN_mov (v := .bool false) rfl ?_
    refine wN_g rfl (wN_mov (v := .slice sa m cap) rfl ?_)
    refine wN_g rfl (wN_len (m := m) rfl ?_)
    refine wN_g rfl (wN_b_gtr (a := (m : Int)) (b := 12) rfl rfl ?_)
    intro t1 g1; cases t1
    · have g1 : ¬ ((m : Int) > 12) := of_decide_eq_false g1
      refine wN_pur (v := .bool false) rfl rfl ?_
      refine wN_mov (v := .bool false) rfl ?_
      refine wN_g rfl (wN_mov (v := .slice ya bs.length yc) rfl ?_)
      refine wN_g rfl (wN_len (m := bs.length) rfl ?_)
      refine wN_g rfl (wN_b_eql (a := (bs.length : Int)) (b := 0) rfl rfl ?_)
      intro t2 g2; cases t2
      · have g2 : ¬ ((bs.length : Int) = 0) := by simpa using g2
        refine wN_pur (v := .bool false) rfl rfl ?_
        refine wN_end ?_
        refine condF ?_
        first | refine wN_skip ?_ | skip
        refine wN_seq ?_
        refine wN_lda (b := H.next) (o := 0) rfl c1.rd (show row 5 _ _ = some [.slice g.ba g.bn g.bcap, .slice g.ra g.rn g.rcap, iv g.inlet, iv g.reserve, iv g.winds] from rfl) ?_
        refine wN_mov (v := .slice sa m cap) rfl ?_
        obtain ⟨wH3, H3, fH3, kH3, hc⟩ := Times_ok (kn := kn) (lo := lo) (H := H2) hat hlf (by omega)
        have mH3 := kH3.1
        have hk := hk.trans kH3
        have hat := hat.keep kH3 (by simp)
        have hlf := kH3.lf hlf (fun _ _ => by simp)
        have hy := kH3.sl0 hy
        have c1 := kH3.cl c1 (by simp)
        rcases hc with ⟨her, rfl⟩ | ⟨hgood, bb, rfl, hbb, hsc⟩
        · refine wN_callf rfl (callX_args fH3) ?_
          refine wN_mov (v := .tuple #[.slice none 0 0, .agg #[iv 0, iv 0, iv 0, iv 0, iv 0, iv 0, iv 0, iv 0], iv (g.er us)]) rfl ?_
          refine wN_pur (v := .slice none 0 0) rfl (by kernel_rfl) ?_
          refine wN_pur (v := .agg #[iv 0, iv 0, iv 0, iv 0, iv 0, iv 0, iv 0, iv 0]) rfl (by kernel_rfl) ?_
          refine wN_pur (v := iv (g.er us)) rfl (by kernel_rfl) ?_
          refine wN_alc ?_
          intro H4 kH4 nH4 c4
          have c4 : Cl H4 H3.next [iv 0, iv 0, iv 0, iv 0, iv 0, iv 0, iv 0, iv 0] := c4
          have mH4 := kH4.1
          have hk := hk.trans kH4
          have hat := hat.keep kH4 (by simp)
          have hlf := kH4.lf hlf (fun _ _ => by simp)
          have hy := kH4.sl0 hy
          have c1 := kH4.cl c1 (by simp)
          refine wN_mov (v := .slice none 0 0) rfl ?_
          refine wN_sta (b := H3.next) (o := 0) rfl rfl c4 (by omega) rfl rfl (by simp) ?_
          intro H5 kH5 nH5 sH5
          have mH5 := kH5.1
          have hk := hk.new kH5 (fun b hb => by simp at hb ⊢; omega)
          have hat := hat.keep kH5 (fun x hx => by first | (simp at hx; done) | (simp at hx; omega))
          have hlf := kH5.lf hlf (fun b e => by have := flf b e; first | (simp; done) | (simp; omega))
          have hy := kH5.sl hy (fun b e => by have := fy b e; first | (simp; done) | (simp; omega))
          have c1 := kH5.cl c1 (by first | (simp; done) | (simp; omega))
          have c4 : Cl H5 H3.next [iv 0, iv 0, iv 0, iv 0, iv 0, iv 0, iv 0, iv 0] := sH5
          refine wN_mov (v := iv (g.er us)) rfl ?_
          refine wN_end ?_
          refine wN_seq ?_
          refine wN_mov (v := iv (g.er us)) rfl ?_
          refine wN_c_neq (a := (g.er us)) (b := 0) rfl rfl ?_
          refine wN_end ?_
          refine And.intro (fun q3 => ?_) (fun q3 => ?_)
          · have q3 : (g.er us) ≠ 0 := by simpa using q3
            refine wN_seq ?_
            refine wN_mov (v := .slice none 0 0) rfl ?_
            refine wN_len (m := 0) rfl ?_
            refine wN_b_eql (a := 0) (b := 0) rfl rfl ?_
            intro t4 g4; obtain rfl : t4 = true := by rw [← g4]; rfl
            refine wN_mov (v := .bool true) rfl ?_
            refine wN_g rfl (wN_lda (b := H3.next) (o := 0) rfl c4.rd (show row 8 _ _ = some [iv 0, iv 0, iv 0, iv 0, iv 0, iv 0, iv 0, iv 0] from rfl) ?_)
            refine wN_g rfl (wN_pur (v := .agg #[iv 0, iv 0, iv 0, iv 0, iv 0, iv 0, iv 0, iv 0]) rfl (by kernel_rfl) ?_)
            refine wN_g rfl (wN_pur (v := .bool true) rfl (eql36 rfl rfl) ?_)
            refine wN_pur (v := .bool true) rfl rfl ?_
            refine wN_mov (v := .bool true) rfl ?_
            refine wN_g rfl (wN_callf (vs := []) rfl (callX_known hkn) ?_)
            refine wN_pur (v := .bool true) rfl rfl ?_
            refine wN_mov (v := .bool true) rfl ?_
            refine wN_end ?_
            exact And.intro trivial (Exists.intro _ (And.intro rfl rfl))
          · have q3 : ¬ ((g.er us) ≠ 0) := by simpa using q3
            exact absurd (by simpa using q3) her
        · have hok := hgood.ok; have ho := hgood.ord; have v := Fh.vd hok hat; have vn := v.n; have hen := hgood.en; have hrn := v.rn; have hinl := v.inl
          have rl := hsc.cl.rd; have lbb := hsc.lt
          obtain ⟨sb, rfl, rfl, hcap, hfx⟩ := hlf.at ho vn.1
          have lsb := hfx.lt; have rs := hfx.rd
          obtain ⟨o, eo⟩ : ∃ z, z = no us := ⟨_, rfl⟩
          have hof : ∀ {k : Nat}, k < g.bn → us[k]? = some ((o.getD k 0 : Nat) : Int) ∧ o.getD k 0 < g.bn := fun hk => by subst eo; exact ho.at hk
          have hin : ∀ k, k < g.bn → (g.st o k).In 7 := fun k hk => by subst eo; exact (Fh.st_in v hat ho k hk (can_upto hgood.can (by omega))).mono (by omega)
          rcases hy with ⟨_, h0, _⟩ | ⟨yb, rfl, ry, _⟩
          · omega
          have lyb := ry.lt; have hbs0 : 0 < bs.length := by omega
          obtain ⟨xb, eb, rb, lb⟩ := hat.bog (by omega)
          obtain ⟨xr, er, rr, lr⟩ := hat.rts (by omega)
          have lb2 := rb.lt; have lr2 := rr.lt
          refine wN_callf rfl (callX_args fH3) ?_
          refine wN_mov (v := .tuple #[.slice (some ⟨bb, 0, none⟩) g.bn g.bn, .agg #[iv ((g.la us).t1), iv ((g.la us).t2), iv ((g.la us).l1), iv ((g.la us).l2), iv ((g.la us).s1), iv ((g.la us).s2), iv ((g.la us).r1), iv ((g.la us).r2)], iv 0]) rfl ?_
          refine wN_pur (v := .slice (some ⟨bb, 0, none⟩) g.bn g.bn) rfl (by kernel_rfl) ?_
          refine wN_pur (v := .agg #[iv ((g.la us).t1), iv ((g.la us).t2), iv ((g.la us).l1), iv ((g.la us).l2), iv ((g.la us).s1), iv ((g.la us).s2), iv ((g.la us).r1), iv ((g.la us).r2)]) rfl (by kernel_rfl) ?_
          refine wN_pur (v := iv 0) rfl (by kernel_rfl) ?_
          refine wN_alc ?_
          intro H6 kH6 nH6 c6
          have c6 : Cl H6 H3.next [iv 0, iv 0, iv 0, iv 0, iv 0, iv 0, iv 0, iv 0] := c6
          have mH6 := kH6.1
          have hk := hk.trans kH6
          have hat := hat.keep kH6 (by simp)
          have c1 := kH6.cl c1 (by simp)
          have rl := kH6.rd rl (by simp)
          have rs := kH6.rd rs (by simp)
          have ry := kH6.rd ry (by simp)
          have rb := kH6.rd rb (by simp)
          have rr := kH6.rd rr (by simp)
          refine wN_mov (v := .slice (some ⟨bb, 0, none⟩) g.bn g.bn) rfl ?_
          refine wN_sta (b := H3.next) (o := 0) rfl rfl c6 (by omega) rfl rfl (by simp) ?_
          intro H7 kH7 nH7 sH7
          have mH7 := kH7.1
          have hk := hk.new kH7 (fun b hb => by simp at hb ⊢; omega)
          have hat := hat.keep kH7 (fun x hx => by first | (simp at hx; done) | (simp at hx; omega))
          have c1 := kH7.cl c1 (by first | (simp; done) | (simp; omega))
          have rl := kH7.rd rl (by first | (simp; done) | (simp; omega))
          have rs := kH7.rd rs (by first | (simp; done) | (simp; omega))
          have ry := kH7.rd ry (by first | (simp; done) | (simp; omega))
          have rb := kH7.rd rb (by first | (simp; done) | (simp; omega))
          have rr := kH7.rd rr (by first | (simp; done) | (simp; omega))
          have c6 : Cl H7 H3.next [iv ((g.la us).t1), iv ((g.la us).t2), iv ((g.la us).l1), iv ((g.la us).l2), iv ((g.la us).s1), iv ((g.la us).s2), iv ((g.la us).r1), iv ((g.la us).r2)] := sH7
          refine wN_mov (v := iv 0) rfl ?_
          refine wN_end ?_
          refine wN_seq ?_
          refine wN_mov (v := iv 0) rfl ?_
          refine wN_c_neq (a := 0) (b := 0) rfl rfl ?_
          refine wN_end ?_
          refine condF ?_
          first | refine wN_skip ?_ | skip
          refine wN_seq ?_
          refine wN_lda (b := H.next) (o := 0) rfl c1.rd (show row 5 _ _ = some [.slice g.ba g.bn g.bcap, .slice g.ra g.rn g.rcap, iv g.inlet, iv g.reserve, iv g.winds] from rfl) ?_
          refine wN_callB rfl (Harvest_ok (lo := lo) hat (by omega)) ?_
          intro tH8 H8 hH8 kH8
          have mH8 := kH8.1
          have hk := hk.trans kH8
          have hat := hat.keep kH8 (by simp)
          have c1 := kH8.cl c1 (by simp)
          have rl := kH8.rd rl (by simp)
          have rs := kH8.rd rs (by simp)
          have ry := kH8.rd ry (by simp)
          have rb := kH8.rd rb (by simp)
          have rr := kH8.rd rr (by simp)
          have c6 := kH8.cl c6 (by simp)
          cases tH8
          · rw [hok] at hH8; cases hH8
          · refine wN_pur (v := .bool false) rfl rfl ?_
            refine wN_mov (v := .bool false) rfl ?_
            refine wN_g rfl (wN_addo (b := H.next) (o := 0) rfl ?_)
            refine wN_g rfl (wN_ld (b := H.next) (o := 0) (v := .slice (some ⟨xb, 0, none⟩) g.bn g.bcap) rfl c1.rd (show _ = some (Value.slice (some ⟨xb, 0, none⟩) g.bn g.bcap) from by rw [← eb]; rfl) ?_)
            refine wN_g rfl (wN_len (m := g.bn) rfl ?_)
            refine wN_g rfl (wN_mov (v := .slice (some ⟨sb, 0, none⟩) g.bn cap) rfl ?_)
            refine wN_g rfl (wN_callB rfl (Order_ok (lo := lo) (n := g.bn) (.inr ⟨sb, rfl, rs, hcap⟩) ho.len (by omega) (by omega)) ?_)
            intro tH9 H9 hH9 kH9
            have mH9 := kH9.1
            have hk := hk.trans kH9
            have hat := hat.keep kH9 (by simp)
            have c1 := kH9.cl c1 (by simp)
            have rl := kH9.rd rl (by simp)
            have rs := kH9.rd rs (by simp)
            have ry := kH9.rd ry (by simp)
            have rb := kH9.rd rb (by simp)
            have rr := kH9.rd rr (by simp)
            have c6 := kH9.cl c6 (by simp)
            cases tH9
            · exact absurd ho (ordB_f hH9)
            · refine wN_g rfl (wN_pur (v := .bool false) rfl rfl ?_)
              refine wN_pur (v := .bool false) rfl rfl ?_
              refine wN_mov (v := .bool false) rfl ?_
              refine wN_g rfl (wN_mov (v := .slice (some ⟨bb, 0, none⟩) g.bn g.bn) rfl ?_)
              refine wN_g rfl (wN_len (m := g.bn) rfl ?_)
              refine wN_g rfl (wN_mov (v := .slice (some ⟨sb, 0, none⟩) g.bn cap) rfl ?_)
              refine wN_g rfl (wN_len (m := g.bn) rfl ?_)
              refine wN_g rfl (wN_b_neq (a := (g.bn : Int)) (b := (g.bn : Int)) rfl rfl ?_)
              intro t5 g5; cases t5
              · have g5 : ¬ ((g.bn : Int) ≠ (g.bn : Int)) := by simpa using g5
                refine wN_pur (v := .bool false) rfl rfl ?_
                refine wN_mov (v := .bool false) rfl ?_
                refine wN_g rfl (wN_addo (b := H3.next) (o := 0) rfl ?_)
                refine wN_g rfl (wN_addo (b := H3.next) (o := 0) rfl ?_)
                refine wN_g rfl (wN_ld (b := H3.next) (o := 1) (v := iv ((g.la us).t2)) rfl c6.rd rfl ?_)
                refine wN_g rfl (wN_addo (b := H.next) (o := 0) rfl ?_)
                refine wN_g rfl (wN_ld (b := H.next) (o := 3) (v := iv g.reserve) rfl c1.rd rfl ?_)
                refine wN_g rfl (wN_b_gtr (a := (g.la us).t2) (b := g.reserve) rfl rfl ?_)
                intro t6 g6; cases t6
                · have g6 : ¬ (((g.la us).t2) > g.reserve) := of_decide_eq_false g6
                  refine wN_pur (v := .bool false) rfl rfl ?_
                  refine wN_end ?_
                  refine condF ?_
                  first | refine wN_skip ?_ | skip
                  refine wN_seq ?_
                  refine wN_mov (v := iv 0) rfl ?_
                  refine wN_mov (v := iv 0) rfl ?_
                  refine wN_mov (v := iv 0) rfl ?_
                  refine wN_mov (v := iv 0) rfl ?_
                  refine wN_mov (v := iv 0) rfl ?_
                  refine wN_end ?_
                  refine wN_seq ?_
                  refine wN_mov (v := .slice (some ⟨sb, 0, none⟩) g.bn cap) rfl ?_
                  refine wN_len (m := g.bn) rfl ?_
                  refine wN_mov (v := iv 0) rfl ?_
                  refine wN_end ?_
                  obtain ⟨z3, hz3⟩ : ∃ z, z = H.next := ⟨_, rfl⟩
                  rw [← hz3] at c1
                  obtain ⟨z8, hz8⟩ : ∃ z, z = H3.next := ⟨_, rfl⟩
                  rw [← hz8] at c6
                  have lz : H.next ≤ z3 ∧ z3 < z8 ∧ z8 < H9.next := by omega
                  rw [← hz3, ← hz8]
                  clear hz3 hz8
                  refine loop_low (fn := Try.f6) E6_1 N6 L6x1 (fun x0 : Tw × Nat => [(1, .slice (some ⟨sb, 0, none⟩) g.bn cap), (2, .slice (some ⟨yb, 0, none⟩) bs.length yc), (3, pt z3), (7, .slice (some ⟨bb, 0, none⟩) g.bn g.bn), (8, pt z8), (10, iv x0.1.now), (11, iv x0.1.taken), (12, iv x0.1.leaked), (13, iv x0.1.spilled), (14, iv x0.1.left), (82, .slice (some ⟨sb, 0, none⟩) g.bn cap), (83, iv (g.bn : Int)), (84, iv (x0.2 : Int))])
                    (fun q x0 H' => x0.2 + q = g.bn ∧ Keep H9 H' [] ∧ TIn g o x0.2 x0.1) g.bn (⟨0, 0, 0, 0, 0⟩, 0) ⟨by show 0 + g.bn = g.bn; omega, Keep.refl _ _, rfl, rfl, rfl, rfl, rfl⟩ ⟨rfl, rfl, rfl, rfl, rfl, rfl, rfl, rfl, rfl, rfl, rfl, rfl, rfl, trivial⟩ ?_
                  rintro q ⟨x, i⟩ L1 ⟨hik, hki, ht⟩
                  simp only at hik ht
                  have hk := hk.trans hki
                  have hat := hat.keep hki (by simp)
                  have c1 := hki.cl c1 (by simp)
                  have rl := hki.rd rl (by simp)
                  have rs := hki.rd rs (by simp)
                  have ry := hki.rd ry (by simp)
                  have rb := hki.rd rb (by simp)
                  have rr := hki.rd rr (by simp)
                  have c6 := hki.cl c6 (by simp)
                  have kb := hki
                  have mi := hki.1
                  refine wN_seq ?_
                  refine wN_c_lss (a := (i : Int)) (b := (g.bn : Int)) rfl rfl ?_
                  refine wN_end ?_
                  refine And.intro (fun q7 => ?_) (fun q7 => ?_)
                  · have q7 : (i : Int) < (g.bn : Int) := of_decide_eq_true q7
                    have hi : i < g.bn := by omega
                    obtain ⟨bi, ebi⟩ : ∃ z, o.getD i 0 = z := ⟨_, rfl⟩
                    have hbi := (hof hi).2; rw [ebi] at hbi
                    have hui := (hof hi).1; rw [ebi] at hui
                    have hbb2 := getB (g := g) (i := bi) (by rw [hat.bl]; exact hbi)
                    have bd := Fh.bd v hat hbi
                    have nb : 1 ≤ (g.B bi).need ∧ (g.B bi).need ≤ 68719476736 := bd.need
                    obtain ⟨⟨b1, b2⟩, ⟨b3, b4⟩, ⟨b5, b6⟩, ⟨b7, b8⟩, ⟨b9, b10⟩⟩ := tin_bound ht (fun k hk => hin k (by omega))
                    have hfill := tin_fill ht ebi
                    first | refine wN_skip ?_ | skip
                    refine wN_seq ?_
                    refine wN_mov (v := iv (i : Int)) rfl ?_
                    refine wN_idx (b := sb) (o := 0) (k := i) (j := (i : Int)) rfl rfl rfl hi ?_
                    refine wN_ld (b := sb) (o := 0 + i * 1) (v := iv (bi : Int)) rfl rs (ints_at hui) ?_
                    refine wN_mov (v := iv (i : Int)) rfl ?_
                    refine wN_mov (v := iv (bi : Int)) rfl ?_
                    refine wN_end ?_
                    refine wN_seq ?_
                    refine wN_addo (b := z3) (o := 0) rfl ?_
                    refine wN_ld (b := z3) (o := 0) (v := .slice (some ⟨xb, 0, none⟩) g.bn g.bcap) rfl c1.rd (show _ = some (Value.slice (some ⟨xb, 0, none⟩) g.bn g.bcap) from by rw [← eb]; rfl) ?_
                    refine wN_mov (v := iv (bi : Int)) rfl ?_
                    refine wN_idx (b := xb) (o := 0) (k := bi) (j := (bi : Int)) rfl rfl rfl hbi ?_
                    refine wN_lda (b := xb) (o := 0 + bi * 4) rfl rb (bgc_row hbb2) ?_
                    refine wN_alc ?_
                    intro H10 kH10 nH10 c10
                    have c10 : Cl H10 L1.next [iv 0, iv 0, iv 0, .slice none 0 0] := c10
                    have mH10 := kH10.1
                    have hk := hk.trans kH10
                    have hat := hat.keep kH10 (by simp)
                    have c1 := kH10.cl c1 (by simp)
                    have rl := kH10.rd rl (by simp)
                    have rs := kH10.rd rs (by simp)
                    have ry := kH10.rd ry (by simp)
                    have rb := kH10.rd rb (by simp)
                    have rr := kH10.rd rr (by simp)
                    have c6 := kH10.cl c6 (by simp)
                    have kb := kb.trans kH10
                    refine wN_sta (b := L1.next) (o := 0) rfl rfl c10 (by omega) rfl rfl (by simp) ?_
                    intro H11 kH11 nH11 sH11
                    have mH11 := kH11.1
                    have hk := hk.new kH11 (fun b hb => by simp at hb ⊢; omega)
                    have hat := hat.keep kH11 (fun x hx => by first | (simp at hx; done) | (simp at hx; omega))
                    have c1 := kH11.cl c1 (by first | (simp; done) | (simp; omega))
                    have rl := kH11.rd rl (by first | (simp; done) | (simp; omega))
                    have rs := kH11.rd rs (by first | (simp; done) | (simp; omega))
                    have ry := kH11.rd ry (by first | (simp; done) | (simp; omega))
                    have rb := kH11.rd rb (by first | (simp; done) | (simp; omega))
                    have rr := kH11.rd rr (by first | (simp; done) | (simp; omega))
                    have c6 := kH11.cl c6 (by first | (simp; done) | (simp; omega))
                    have kb := kb.new kH11 (fun b hb => by simp at hb ⊢; omega)
                    have c10 : Cl H11 L1.next [iv ((g.B bi).need), iv ((g.B bi).l1), iv ((g.B bi).l2), .slice ((g.B bi).wa) ((g.B bi).wn) ((g.B bi).wcap)] := sH11
                    refine wN_end ?_
                    refine wN_seq ?_
                    refine wN_addo (b := z3) (o := 0) rfl ?_
                    refine wN_ld (b := z3) (o := 2) (v := iv g.inlet) rfl c1.rd rfl ?_
                    refine wN_mov (v := iv g.inlet) rfl ?_
                    refine wN_end ?_
                    refine wN_seq ?_
                    refine wN_mov (v := iv (i : Int)) rfl ?_
                    refine wN_c_gtr (a := (i : Int)) (b := 0) rfl rfl ?_
                    refine wN_end ?_
                    refine And.intro (fun q8 => ?_) (fun q8 => ?_)
                    · have q8 : (i : Int) > 0 := of_decide_eq_true q8
                      obtain ⟨bh, ebh⟩ : ∃ z, o.getD (i - 1) 0 = z := ⟨_, rfl⟩
                      have hbh := (hof (show i - 1 < g.bn by omega)).2; rw [ebh] at hbh
                      have huh := (hof (show i - 1 < g.bn by omega)).1; rw [ebh] at huh
                      have hri := getR (g := g) (i := bh) (by rw [hat.rl]; omega)
                      obtain ⟨hr, hrl, hrf⟩ := hat.row (i := bh) (by omega)
                      have hrn2 := (v.r bh hbh).1
                      rcases hr with ⟨_, h0, _⟩ | ⟨xi, ei, ri, _⟩
                      · omega
                      have li := hrf xi ei; have li2 := ri.lt
                      have hrj : (g.R bh).l[bi]? = some (g.rate bh bi) := getI (by omega)
                      have hrr := (v.r bh hbh).2 _ (List.mem_of_getElem? hrj)
                      have hrv : g.rtv o i = g.rate bh bi := by cases i with | zero => omega | succ j => rw [← ebh, ← ebi]; rfl
                      rw [hrv] at hfill
                      refine wD_seq ?_
                      refine wD_addo (b := z3) (o := 0) rfl ?_
                      refine wD_ld (b := z3) (o := 1) (v := .slice (some ⟨xr, 0, none⟩) g.rn g.rcap) rfl c1.rd (show _ = some (Value.slice (some ⟨xr, 0, none⟩) g.rn g.rcap) from by rw [← er]; rfl) ?_
                      refine wD_mov (v := .slice (some ⟨sb, 0, none⟩) g.bn cap) rfl ?_
                      refine wD_mov (v := iv (i : Int)) rfl ?_
                      refine wD_sub (a := (i : Int)) (b := 1) rfl rfl ⟨by omega, by omega⟩ ?_
                      refine wD_idx (b := sb) (o := 0) (k := (i - 1)) (j := (i : Int) - 1) rfl rfl (by omega) (by omega) ?_
                      refine wD_ld (b := sb) (o := 0 + (i - 1) * 1) (v := iv (bh : Int)) rfl rs (ints_at huh) ?_
                      refine wD_idx (b := xr) (o := 0) (k := bh) (j := (bh : Int)) rfl rfl rfl (by omega) ?_
                      refine wD_ld (b := xr) (o := 0 + bh * 1) (v := .slice (some ⟨xi, 0, none⟩) ((g.R bh).n) ((g.R bh).cap)) rfl rr (show _ = some (Value.slice (some ⟨xi, 0, none⟩) ((g.R bh).n) ((g.R bh).cap)) from by rw [← ei]; exact (rwc_row hri)) ?_
                      refine wD_mov (v := iv (bi : Int)) rfl ?_
                      refine wD_idx (b := xi) (o := 0) (k := bi) (j := (bi : Int)) rfl rfl rfl (by omega) ?_
                      refine wD_ld (b := xi) (o := 0 + bi * 1) (v := iv (g.rate bh bi)) rfl ri (ints_at hrj) ?_
                      refine wD_mov (v := iv (g.rate bh bi)) rfl ?_
                      refine wD_end (by repeat' first | exact True.intro | exact (fun h => h) | refine And.intro ?_ ?_ | (intro h; have h : (_ : Nat) = _ := h; omega)) ?_
                      refine wN_seq ?_
                      refine wN_mov (v := iv (g.rate bh bi)) rfl ?_
                      refine wN_c_lss (a := (g.rate bh bi)) (b := 1) rfl rfl ?_
                      refine wN_end ?_
                      refine And.intro (fun q9 => ?_) (fun q9 => ?_)
                      · have q9 : (g.rate bh bi) < 1 := of_decide_eq_true q9
                        exact absurd hgood.can (by rw [can_false (g := g) (o := no us) (j := i - 1) (n := g.bn - 1) (by omega) (by rw [← eo, ebh, show i - 1 + 1 = i by omega, ebi]; omega)]; decide)
                      · have q9 : ¬ ((g.rate bh bi) < 1) := of_decide_eq_false q9
                        obtain ⟨rt, hrt⟩ : ∃ z, z = g.rate bh bi := ⟨_, rfl⟩
                        rw [← hrt]
                        rw [← hrt] at hfill hrv
                        have hr1 : 1 ≤ rt ∧ rt ≤ 1073741824 := by omega
                        have hrv2 : g.rtv o i = rt := hrv
                        have hup := upq_in nb hr1.1
                        first | refine wN_skip ?_ | skip
                        refine wN_seq ?_
                        refine wN_mov (v := iv x.taken) rfl ?_
                        refine wN_addo (b := L1.next) (o := 0) rfl ?_
                        refine wN_ld (b := L1.next) (o := 0) (v := iv ((g.B bi).need)) rfl c10.rd rfl ?_
                        refine wN_mov (v := iv x.left) rfl ?_
                        refine wN_sub (a := (g.B bi).need) (b := x.left) rfl rfl ⟨by omega, by omega⟩ ?_
                        refine wN_mm (a := 0) (b := ((g.B bi).need) - x.left) rfl rfl ?_
                        refine wN_add (a := x.taken) (b := max 0 (((g.B bi).need) - x.left)) rfl rfl ⟨by omega, by omega⟩ ?_
                        refine wN_mov (v := iv (x.taken + (max 0 (((g.B bi).need) - x.left)))) rfl ?_
                        refine wN_end ?_
                        refine wN_seq ?_
                        refine wN_mov (v := iv x.spilled) rfl ?_
                        refine wN_mov (v := iv x.left) rfl ?_
                        refine wN_addo (b := L1.next) (o := 0) rfl ?_
                        refine wN_ld (b := L1.next) (o := 0) (v := iv ((g.B bi).need)) rfl c10.rd rfl ?_
                        refine wN_sub (a := x.left) (b := (g.B bi).need) rfl rfl ⟨by omega, by omega⟩ ?_
                        refine wN_mm (a := 0) (b := x.left - ((g.B bi).need)) rfl rfl ?_
                        refine wN_add (a := x.spilled) (b := max 0 (x.left - ((g.B bi).need))) rfl rfl ⟨by omega, by omega⟩ ?_
                        refine wN_mov (v := iv (x.spilled + (max 0 (x.left - ((g.B bi).need))))) rfl ?_
                        refine wN_end ?_
                        refine wN_seq ?_
                        refine wN_mov (v := iv x.now) rfl ?_
                        refine wN_addo (b := L1.next) (o := 0) rfl ?_
                        refine wN_ld (b := L1.next) (o := 0) (v := iv ((g.B bi).need)) rfl c10.rd rfl ?_
                        refine wN_mov (v := iv rt) rfl ?_
                        refine wN_add (a := (g.B bi).need) (b := rt) rfl rfl ⟨by omega, by omega⟩ ?_
                        refine wN_sub (a := ((g.B bi).need) + rt) (b := 1) rfl rfl ⟨by omega, by omega⟩ ?_
                        refine wN_mov (v := iv rt) rfl ?_
                        refine wN_quo (a := (((g.B bi).need) + rt) - 1) (b := rt) rfl rfl (by omega) (by omega) ⟨by omega, by omega⟩ ?_
                        refine wN_add (a := x.now) (b := (upq (g.B bi).need rt)) rfl rfl ⟨by omega, by omega⟩ ?_
                        refine wN_mov (v := iv (x.now + (upq (g.B bi).need rt))) rfl ?_
                        refine wN_end ?_
                        refine wN_seq ?_
                        refine wN_mov (v := .slice (some ⟨bb, 0, none⟩) g.bn g.bn) rfl ?_
                        refine wN_mov (v := iv (i : Int)) rfl ?_
                        refine wN_idx (b := bb) (o := 0) (k := i) (j := (i : Int)) rfl rfl rfl hi ?_
                        refine wN_addo (b := bb) (o := 0 + i * 5) rfl ?_
                        refine wN_ld (b := bb) (o := 0 + i * 5) (v := iv (bi : Int)) rfl rl (show _ = some (iv (bi : Int)) from by subst eo; rw [← ebi, ← Fh.st_bed g (no us) i]; exact flc_at (j := 0) (Fh.fs_at (g := g) (o := no us) (k := g.bn) (i := i) (by omega)) rfl) ?_
                        refine wN_mov (v := iv (bi : Int)) rfl ?_
                        refine wN_b_neq (a := (bi : Int)) (b := (bi : Int)) rfl rfl ?_
                        intro t10 g10; cases t10
                        · have g10 : ¬ ((bi : Int) ≠ (bi : Int)) := by simpa using g10
                          refine wN_mov (v := .bool false) rfl ?_
                          refine wN_g rfl (wN_mov (v := .slice (some ⟨bb, 0, none⟩) g.bn g.bn) rfl ?_)
                          refine wN_g rfl (wN_mov (v := iv (i : Int)) rfl ?_)
                          refine wN_g rfl (wN_idx (b := bb) (o := 0) (k := i) (j := (i : Int)) rfl rfl rfl hi ?_)
                          refine wN_g rfl (wN_addo (b := bb) (o := 0 + i * 5) rfl ?_)
                          refine wN_g rfl (wN_lda (b := bb) (o := 0 + i * 5 + 1) rfl rl (show row 2 _ _ = some [iv (g.st o i).f1, iv (g.st o i).f2] from by subst eo; exact row_sub (j := 1) (m := 2) (flc_row (Fh.fs_at (g := g) (o := no us) (k := g.bn) (i := i) (by omega))) (by decide)) ?_)
                          refine wN_g rfl (wN_mov (v := iv (x.now + (upq (g.B bi).need rt))) rfl ?_)
                          refine wN_g rfl (wN_callB rfl (has30_ok) ?_)
                          intro tH12 H12 hH12 kH12
                          have mH12 := kH12.1
                          have hk := hk.trans kH12
                          have hat := hat.keep kH12 (by simp)
                          have c1 := kH12.cl c1 (by simp)
                          have rl := kH12.rd rl (by simp)
                          have rs := kH12.rd rs (by simp)
                          have ry := kH12.rd ry (by simp)
                          have rb := kH12.rd rb (by simp)
                          have rr := kH12.rd rr (by simp)
                          have c6 := kH12.cl c6 (by simp)
                          have kb := kb.trans kH12
                          have c10 := kH12.cl c10 (by simp)
                          cases tH12
                          · exact absurd hfill (inB_f hH12)
                          · refine wN_g rfl (wN_pur (v := .bool false) rfl rfl ?_)
                            refine wN_pur (v := .bool false) rfl rfl ?_
                            refine wN_end ?_
                            refine condF ?_
                            first | refine wN_skip ?_ | skip
                            refine wN_seq ?_
                            refine wN_mov (v := .slice (some ⟨yb, 0, none⟩) bs.length yc) rfl ?_
                            refine wN_mov (v := iv (i : Int)) rfl ?_
                            refine wN_mov (v := .slice (some ⟨yb, 0, none⟩) bs.length yc) rfl ?_
                            refine wN_len (m := bs.length) rfl ?_
                            refine wN_rem (a := (i : Int)) (b := (bs.length : Int)) rfl rfl (by omega) (by omega) ⟨by omega, by omega⟩ ⟨by omega, by omega⟩ ?_
                            refine wN_idx (b := yb) (o := 0) (k := ((i) % bs.length)) (j := (i : Int) % (bs.length : Int)) rfl rfl (show ((i : Int)) % (bs.length : Int) = (((i) % bs.length : Nat) : Int) from rfl) (Nat.mod_lt _ hbs0) ?_
                            refine wN_ld (b := yb) (o := 0 + ((i) % bs.length) * 1) (v := .int .u32 ((bs.getD ((i) % bs.length) 0 : Nat) : Int)) rfl ry (u32_get (us := bs) (i := ((i) % bs.length)) (Nat.mod_lt _ hbs0)) ?_
                            refine wN_pur (v := iv ((bs.getD (i % bs.length) 0 : Nat) : Int)) rfl (conv_59 _ (u32_le hbs _) rfl) ?_
                            have hu32 := u32_le hbs (i % bs.length)
                            refine wN_rem (a := ((bs.getD (i % bs.length) 0 : Nat) : Int)) (b := 4) rfl rfl (by omega) (by omega) ⟨by omega, by omega⟩ ⟨by omega, by omega⟩ ?_
                            refine wN_mov (v := iv (((bs.getD (i % bs.length) 0 : Nat) : Int) % 4)) rfl ?_
                            refine wN_end ?_
                            obtain ⟨kw, hkw, hfar⟩ := wind_far g.wm (by have := v.w; unfold Fh.wm; omega) (by have := v.w; unfold Fh.wm; omega) (bs.getD (i % bs.length) 0 % 4) (Nat.mod_lt _ (by decide))
                            refine loop_low (fn := Try.f6) E6_2 N6 L6x2 (fun wd : Nat => [(1, .slice (some ⟨sb, 0, none⟩) g.bn cap), (2, .slice (some ⟨yb, 0, none⟩) bs.length yc), (3, pt z3), (7, .slice (some ⟨bb, 0, none⟩) g.bn g.bn), (8, pt z8), (10, iv (x.now + (upq (g.B bi).need rt))), (11, iv (x.taken + (max 0 (((g.B bi).need) - x.left)))), (12, iv x.leaked), (13, iv (x.spilled + (max 0 (x.left - ((g.B bi).need))))), (14, iv x.left), (15, iv (i : Int)), (16, iv (bi : Int)), (17, pt L1.next), (18, iv rt), (82, .slice (some ⟨sb, 0, none⟩) g.bn cap), (83, iv (g.bn : Int)), (84, iv (i : Int)), (19, iv (wd : Int))])
                              (fun k wd H' => wd < 4 ∧ g.wm.testBit ((wd + k) % 4) = true ∧ Keep H12 H' []) kw (bs.getD (i % bs.length) 0 % 4) ⟨Nat.mod_lt _ (by decide), hfar, Keep.refl _ _⟩ ⟨rfl, rfl, rfl, rfl, rfl, rfl, rfl, rfl, rfl, rfl, rfl, rfl, rfl, rfl, rfl, rfl, rfl, rfl, trivial⟩ ?_
                            rintro k2 wd L2 ⟨hwd, hft, hkj⟩
                            have hk := hk.trans hkj
                            have hat := hat.keep hkj (by simp)
                            have c1 := hkj.cl c1 (by simp)
                            have rl := hkj.rd rl (by simp)
                            have rs := hkj.rd rs (by simp)
                            have ry := hkj.rd ry (by simp)
                            have rb := hkj.rd rb (by simp)
                            have rr := hkj.rd rr (by simp)
                            have c6 := hkj.cl c6 (by simp)
                            have kb := kb.trans hkj
                            have c10 := hkj.cl c10 (by simp)
                            have kc := hkj
                            have mj := hkj.1
                            refine wN_seq ?_
                            refine wN_addo (b := z3) (o := 0) rfl ?_
                            refine wN_ld (b := z3) (o := 4) (v := iv g.winds) rfl c1.rd rfl ?_
                            refine wN_mov (v := iv (wd : Int)) rfl ?_
                            obtain ⟨p, hp, hp15⟩ : ∃ p, g.wm / 2 ^ wd = p ∧ p ≤ 15 := ⟨_, rfl, Nat.le_trans (Nat.div_le_self _ _) (by have := v.w; unfold Fh.wm; omega)⟩
                            refine wN_pur (v := iv (p : Int)) rfl (by rw [← hp]; exact h_shr (m := g.wm) (d := wd) (by omega) (by rw [show (g.wm : Int) = g.winds by have := v.w; unfold Fh.wm; omega]; rfl) rfl) ?_
                            refine wN_pur (v := iv ((p % 2 : Nat) : Int)) rfl (h_and1 (m := p) (by omega) rfl rfl) ?_
                            refine wN_c_eql (a := ((p % 2 : Nat) : Int)) (b := 0) rfl rfl ?_
                            refine wN_end ?_
                            refine And.intro (fun q11 => ?_) (fun q11 => ?_)
                            · have q11 : ((p % 2 : Nat) : Int) = 0 := by simpa using q11
                              have hbit : g.wm.testBit wd = false := by rw [Nat.testBit_eq_decide_div_mod_eq, hp]; simp; omega
                              first | refine wN_skip ?_ | skip
                              first | refine wN_reg ?_ | refine wN_blk ?_ | (refine wOps_nil ?_; refine wN_reg ?_)
                              refine wN_mov (v := iv (wd : Int)) rfl ?_
                              refine wN_add (a := (wd : Int)) (b := 1) rfl rfl ⟨by omega, by omega⟩ ?_
                              refine wN_rem (a := (wd : Int) + 1) (b := 4) rfl rfl (by omega) (by omega) ⟨by omega, by omega⟩ ⟨by omega, by omega⟩ ?_
                              refine wN_mov (v := iv (((wd : Int) + 1) % 4)) rfl ?_
                              refine wN_end ?_
                              have hk2 : 1 ≤ k2 := Nat.pos_of_ne_zero (fun e => by subst e; rw [Nat.add_zero, Nat.mod_eq_of_lt hwd, hbit] at hft; cases hft)
                              exact ⟨k2 - 1, (wd + 1) % 4, by omega, ⟨Nat.mod_lt _ (by decide), by rw [show ((wd + 1) % 4 + (k2 - 1)) % 4 = (wd + k2) % 4 by omega]; exact hft, kc⟩, rfl, rfl, rfl, rfl, rfl, rfl, rfl, rfl, rfl, rfl, rfl, rfl, rfl, rfl, rfl, rfl, rfl, rfl, trivial⟩
                            · have q11 : ¬ (((p % 2 : Nat) : Int) = 0) := by simpa using q11
                              have hbit : g.wm.testBit wd = true := by rw [Nat.testBit_eq_decide_div_mod_eq, hp]; simp; omega
                              obtain ⟨hw, hwl, hwf⟩ := hat.wrk hbi
                              have hw4 := (v.b bi hbi).2.2.2.2.2
                              rcases hw with ⟨_, h0, _⟩ | ⟨xw, ew, rw, _⟩
                              · omega
                              have lw := hwf xw ew; have lw2 := rw.lt
                              have hsi := getS (b := g.B bi) (i := wd) (by omega)
                              have hss := v.s bi hbi _ (List.mem_of_getElem? hsi)
                              have hle := wk_le (g := g) (b := g.B bi) hbit 4 hwd
                              refine wD_seq ?_
                              refine wD_addo (b := L1.next) (o := 0) rfl ?_
                              refine wD_ld (b := L1.next) (o := 3) (v := .slice (some ⟨xw, 0, none⟩) ((g.B bi).wn) ((g.B bi).wcap)) rfl c10.rd (show _ = some (Value.slice (some ⟨xw, 0, none⟩) ((g.B bi).wn) ((g.B bi).wcap)) from by rw [← ew]; rfl) ?_
                              refine wD_mov (v := iv (wd : Int)) rfl ?_
                              refine wD_idx (b := xw) (o := 0) (k := wd) (j := (wd : Int)) rfl rfl rfl (by omega) ?_
                              refine wD_lda (b := xw) (o := 0 + wd * 2) rfl rw (spc_row hsi) ?_
                              refine wD_mov (v := .slice (some ⟨yb, 0, none⟩) bs.length yc) rfl ?_
                              refine wD_mov (v := iv (i : Int)) rfl ?_
                              refine wD_add (a := (i : Int)) (b := 1) rfl rfl ⟨by omega, by omega⟩ ?_
                              refine wD_mov (v := .slice (some ⟨yb, 0, none⟩) bs.length yc) rfl ?_
                              refine wD_len (m := bs.length) rfl ?_
                              refine wD_rem (a := (i : Int) + 1) (b := (bs.length : Int)) rfl rfl (by omega) (by omega) ⟨by omega, by omega⟩ ⟨by omega, by omega⟩ ?_
                              refine wD_idx (b := yb) (o := 0) (k := ((i + 1) % bs.length)) (j := ((i : Int) + 1) % (bs.length : Int)) rfl rfl (show ((i : Int) + 1) % (bs.length : Int) = (((i + 1) % bs.length : Nat) : Int) from rfl) (Nat.mod_lt _ hbs0) ?_
                              refine wD_ld (b := yb) (o := 0 + ((i + 1) % bs.length) * 1) (v := .int .u32 ((bs.getD ((i + 1) % bs.length) 0 : Nat) : Int)) rfl ry (u32_get (us := bs) (i := ((i + 1) % bs.length)) (Nat.mod_lt _ hbs0)) ?_
                              obtain ⟨H13, fH13, kH13⟩ := inner31_ok (kn := kn) (lo := lo) (H := L2) (l := ((g.B bi).S wd).1) (h := ((g.B bi).S wd).2) (x := bs.getD ((i + 1) % bs.length) 0) ⟨by omega, by omega, by omega⟩ (u32_le hbs _)
                              refine wD_callf (vs := [.agg #[iv (((g.B bi).S wd).1), iv (((g.B bi).S wd).2)], .int .u32 ((bs.getD ((i + 1) % bs.length) 0 : Nat) : Int)]) rfl (callX_args fH13) ?_
                              have mH13 := kH13.1
                              have hk := hk.trans kH13
                              have hat := hat.keep kH13 (by simp)
                              have c1 := kH13.cl c1 (by simp)
                              have rl := kH13.rd rl (by simp)
                              have rs := kH13.rd rs (by simp)
                              have ry := kH13.rd ry (by simp)
                              have rb := kH13.rd rb (by simp)
                              have rr := kH13.rd rr (by simp)
                              have c6 := kH13.cl c6 (by simp)
                              have kb := kb.trans kH13
                              have c10 := kH13.cl c10 (by simp)
                              have rw := kH13.rd rw (by simp)
                              have hq1 := inn_in (l := ((g.B bi).S wd).1) (h := ((g.B bi).S wd).2) (m := ((bs.getD ((i + 1) % bs.length) 0 : Nat) : Int)) (by omega)
                              obtain ⟨work, ework⟩ : ∃ z, inn (((g.B bi).S wd).1) (((g.B bi).S wd).2) ((bs.getD ((i + 1) % bs.length) 0 : Nat) : Int) = z := ⟨_, rfl⟩
                              rw [ework] at hq1 ⊢
                              have hwk : (g.W bi).1 ≤ work ∧ work ≤ (g.W bi).2 := ⟨Int.le_trans hle.1 hq1.1, Int.le_trans hq1.2 hle.2⟩
                              have hwk2 : 0 ≤ work ∧ work ≤ 16384 := by omega
                              have mm1 := mul_rng (a := work) (b := (g.B bi).l1) (p := 16384) (q := 1048576) hwk2 bd.q1; have mm2 := mul_rng (a := work) (b := (g.B bi).l2) (p := 16384) (q := 1048576) hwk2 bd.q2
                              have mm3 : work * (g.B bi).l1 ≤ work * (g.B bi).l2 := Int.mul_le_mul_of_nonneg_left (by have := (v.b bi hbi).2.2.2.1; omega) hwk2.1
                              refine wD_mov (v := iv work) rfl ?_
                              refine wD_end (by repeat' first | exact True.intro | exact (fun h => h) | refine And.intro ?_ ?_ | (intro h; have h : (_ : Nat) = _ := h; omega)) ?_
                              refine wN_seq ?_
                              refine wN_mov (v := iv (x.now + (upq (g.B bi).need rt))) rfl ?_
                              refine wN_mov (v := iv work) rfl ?_
                              refine wN_add (a := x.now + (upq (g.B bi).need rt)) (b := work) rfl rfl ⟨by omega, by omega⟩ ?_
                              refine wN_mov (v := iv ((x.now + (upq (g.B bi).need rt)) + work)) rfl ?_
                              refine wN_end ?_
                              refine wD_seq ?_
                              refine wD_mov (v := iv work) rfl ?_
                              refine wD_addo (b := L1.next) (o := 0) rfl ?_
                              refine wD_addo (b := L1.next) (o := 1) rfl ?_
                              refine wD_ld (b := L1.next) (o := 1) (v := iv ((g.B bi).l1)) rfl c10.rd rfl ?_
                              refine wD_mul (a := work) (b := (g.B bi).l1) rfl rfl ⟨by omega, by omega⟩ ?_
                              refine wD_mov (v := iv work) rfl ?_
                              refine wD_addo (b := L1.next) (o := 0) rfl ?_
                              refine wD_addo (b := L1.next) (o := 1) rfl ?_
                              refine wD_ld (b := L1.next) (o := 2) (v := iv ((g.B bi).l2)) rfl c10.rd rfl ?_
                              refine wD_mul (a := work) (b := (g.B bi).l2) rfl rfl ⟨by omega, by omega⟩ ?_
                              refine wD_pur (v := .agg #[iv (work * ((g.B bi).l1)), iv (work * ((g.B bi).l2))]) rfl (by kernel_rfl) ?_
                              refine wD_mov (v := .slice (some ⟨yb, 0, none⟩) bs.length yc) rfl ?_
                              refine wD_mov (v := iv (i : Int)) rfl ?_
                              refine wD_add (a := (i : Int)) (b := 2) rfl rfl ⟨by omega, by omega⟩ ?_
                              refine wD_mov (v := .slice (some ⟨yb, 0, none⟩) bs.length yc) rfl ?_
                              refine wD_len (m := bs.length) rfl ?_
                              refine wD_rem (a := (i : Int) + 2) (b := (bs.length : Int)) rfl rfl (by omega) (by omega) ⟨by omega, by omega⟩ ⟨by omega, by omega⟩ ?_
                              refine wD_idx (b := yb) (o := 0) (k := ((i + 2) % bs.length)) (j := ((i : Int) + 2) % (bs.length : Int)) rfl rfl (show ((i : Int) + 2) % (bs.length : Int) = (((i + 2) % bs.length : Nat) : Int) from rfl) (Nat.mod_lt _ hbs0) ?_
                              refine wD_ld (b := yb) (o := 0 + ((i + 2) % bs.length) * 1) (v := .int .u32 ((bs.getD ((i + 2) % bs.length) 0 : Nat) : Int)) rfl ry (u32_get (us := bs) (i := ((i + 2) % bs.length)) (Nat.mod_lt _ hbs0)) ?_
                              obtain ⟨H14, fH14, kH14⟩ := inner31_ok (kn := kn) (lo := lo) (H := H13) (l := work * ((g.B bi).l1)) (h := work * ((g.B bi).l2)) (x := bs.getD ((i + 2) % bs.length) 0) ⟨by omega, by omega, by omega⟩ (u32_le hbs _)
                              refine wD_callf (vs := [.agg #[iv (work * ((g.B bi).l1)), iv (work * ((g.B bi).l2))], .int .u32 ((bs.getD ((i + 2) % bs.length) 0 : Nat) : Int)]) rfl (callX_args fH14) ?_
                              have mH14 := kH14.1
                              have hk := hk.trans kH14
                              have hat := hat.keep kH14 (by simp)
                              have c1 := kH14.cl c1 (by simp)
                              have rl := kH14.rd rl (by simp)
                              have rs := kH14.rd rs (by simp)
                              have ry := kH14.rd ry (by simp)
                              have rb := kH14.rd rb (by simp)
                              have rr := kH14.rd rr (by simp)
                              have c6 := kH14.cl c6 (by simp)
                              have kb := kb.trans kH14
                              have c10 := kH14.cl c10 (by simp)
                              have rw := kH14.rd rw (by simp)
                              have hq2 := inn_in (l := work * ((g.B bi).l1)) (h := work * ((g.B bi).l2)) (m := ((bs.getD ((i + 2) % bs.length) 0 : Nat) : Int)) (by omega)
                              obtain ⟨gone, egone⟩ : ∃ z, inn (work * ((g.B bi).l1)) (work * ((g.B bi).l2)) ((bs.getD ((i + 2) % bs.length) 0 : Nat) : Int) = z := ⟨_, rfl⟩
                              rw [egone] at hq2 ⊢
                              have hstep := tin_step ht ebi bd hwk hq2
                              rw [hrv2] at hstep
                              have hdone := hstep.1
                              refine wD_mov (v := iv gone) rfl ?_
                              refine wD_end (by repeat' first | exact True.intro | exact (fun h => h) | refine And.intro ?_ ?_ | (intro h; have h : (_ : Nat) = _ := h; omega)) ?_
                              refine wN_seq ?_
                              refine wN_addo (b := L1.next) (o := 0) rfl ?_
                              refine wN_ld (b := L1.next) (o := 0) (v := iv ((g.B bi).need)) rfl c10.rd rfl ?_
                              refine wN_mov (v := iv gone) rfl ?_
                              refine wN_sub (a := (g.B bi).need) (b := gone) rfl rfl ⟨by omega, by omega⟩ ?_
                              refine wN_mm (a := 0) (b := ((g.B bi).need) - gone) rfl rfl ?_
                              refine wN_mov (v := iv (max 0 (((g.B bi).need) - gone))) rfl ?_
                              refine wN_end ?_
                              refine wN_seq ?_
                              refine wN_mov (v := iv x.leaked) rfl ?_
                              refine wN_addo (b := L1.next) (o := 0) rfl ?_
                              refine wN_ld (b := L1.next) (o := 0) (v := iv ((g.B bi).need)) rfl c10.rd rfl ?_
                              refine wN_mov (v := iv (max 0 (((g.B bi).need) - gone))) rfl ?_
                              refine wN_sub (a := (g.B bi).need) (b := max 0 (((g.B bi).need) - gone)) rfl rfl ⟨by omega, by omega⟩ ?_
                              refine wN_add (a := x.leaked) (b := ((g.B bi).need) - (max 0 (((g.B bi).need) - gone))) rfl rfl ⟨by omega, by omega⟩ ?_
                              refine wN_mov (v := iv (x.leaked + (((g.B bi).need) - (max 0 (((g.B bi).need) - gone))))) rfl ?_
                              refine wN_end ?_
                              refine wN_seq ?_
                              refine wN_mov (v := .slice (some ⟨bb, 0, none⟩) g.bn g.bn) rfl ?_
                              refine wN_mov (v := iv (i : Int)) rfl ?_
                              refine wN_idx (b := bb) (o := 0) (k := i) (j := (i : Int)) rfl rfl rfl hi ?_
                              refine wN_addo (b := bb) (o := 0 + i * 5) rfl ?_
                              refine wN_lda (b := bb) (o := 0 + i * 5 + 3) rfl rl (show row 2 _ _ = some [iv (g.st o i).d1, iv (g.st o i).d2] from by subst eo; exact flc_two (Fh.fs_at (g := g) (o := no us) (k := g.bn) (i := i) (by omega))) ?_
                              refine wN_mov (v := iv ((x.now + (upq (g.B bi).need rt)) + work)) rfl ?_
                              refine wN_callB rfl (has30_ok) ?_
                              intro tH15 H15 hH15 kH15
                              have mH15 := kH15.1
                              have hk := hk.trans kH15
                              have hat := hat.keep kH15 (by simp)
                              have c1 := kH15.cl c1 (by simp)
                              have rl := kH15.rd rl (by simp)
                              have rs := kH15.rd rs (by simp)
                              have ry := kH15.rd ry (by simp)
                              have rb := kH15.rd rb (by simp)
                              have rr := kH15.rd rr (by simp)
                              have c6 := kH15.cl c6 (by simp)
                              have kb := kb.trans kH15
                              have c10 := kH15.cl c10 (by simp)
                              have rw := kH15.rd rw (by simp)
                              cases tH15
                              · exact absurd hdone (inB_f hH15)
                              · refine wN_pur (v := .bool false) rfl rfl ?_
                                refine wN_end ?_
                                refine condF ?_
                                first | refine wN_skip ?_ | skip
                                first | refine wN_reg ?_ | refine wN_blk ?_ | (refine wOps_nil ?_; refine wN_reg ?_)
                                refine wN_add (a := (i : Int)) (b := 1) rfl rfl ⟨by omega, by omega⟩ ?_
                                refine wN_mov (v := iv ((i : Int) + 1)) rfl ?_
                                refine wN_end ?_
                                exact ⟨q - 1, (_, i + 1), by omega, ⟨by show i + 1 + (q - 1) = g.bn; omega, kb, hstep⟩, rfl, rfl, rfl, rfl, rfl, rfl, rfl, rfl, rfl, rfl, rfl, rfl, rfl, trivial⟩
                        · have g10 : (bi : Int) ≠ (bi : Int) := by simpa using g10
                          exact absurd rfl g10
                    · have q8 : ¬ ((i : Int) > 0) := of_decide_eq_false q8
                      have hi0 : i = 0 := by omega
                      obtain ⟨rt, hrt⟩ : ∃ z, z = g.inlet := ⟨_, rfl⟩
                      have hrv2 : g.rtv o i = rt := by rw [hi0, hrt]; rfl
                      rw [← hrt]
                      have hr1 : 1 ≤ rt ∧ rt ≤ 1073741824 := by omega
                      rw [hrv2] at hfill
                      first | refine wN_skip ?_ | skip
                      refine wN_seq ?_
                      refine wN_mov (v := iv rt) rfl ?_
                      refine wN_c_lss (a := rt) (b := 1) rfl rfl ?_
                      refine wN_end ?_
                      refine And.intro (fun q12 => ?_) (fun q12 => ?_)
                      · have q12 : rt < 1 := of_decide_eq_true q12
                        omega
                      · have q12 : ¬ (rt < 1) := of_decide_eq_false q12
                        have hup := upq_in nb hr1.1
                        first | refine wN_skip ?_ | skip
                        refine wN_seq ?_
                        refine wN_mov (v := iv x.taken) rfl ?_
                        refine wN_addo (b := L1.next) (o := 0) rfl ?_
                        refine wN_ld (b := L1.next) (o := 0) (v := iv ((g.B bi).need)) rfl c10.rd rfl ?_
                        refine wN_mov (v := iv x.left) rfl ?_
                        refine wN_sub (a := (g.B bi).need) (b := x.left) rfl rfl ⟨by omega, by omega⟩ ?_
                        refine wN_mm (a := 0) (b := ((g.B bi).need) - x.left) rfl rfl ?_
                        refine wN_add (a := x.taken) (b := max 0 (((g.B bi).need) - x.left)) rfl rfl ⟨by omega, by omega⟩ ?_
                        refine wN_mov (v := iv (x.taken + (max 0 (((g.B bi).need) - x.left)))) rfl ?_
                        refine wN_end ?_
                        refine wN_seq ?_
                        refine wN_mov (v := iv x.spilled) rfl ?_
                        refine wN_mov (v := iv x.left) rfl ?_
                        refine wN_addo (b := L1.next) (o := 0) rfl ?_
                        refine wN_ld (b := L1.next) (o := 0) (v := iv ((g.B bi).need)) rfl c10.rd rfl ?_
                        refine wN_sub (a := x.left) (b := (g.B bi).need) rfl rfl ⟨by omega, by omega⟩ ?_
                        refine wN_mm (a := 0) (b := x.left - ((g.B bi).need)) rfl rfl ?_
                        refine wN_add (a := x.spilled) (b := max 0 (x.left - ((g.B bi).need))) rfl rfl ⟨by omega, by omega⟩ ?_
                        refine wN_mov (v := iv (x.spilled + (max 0 (x.left - ((g.B bi).need))))) rfl ?_
                        refine wN_end ?_
                        refine wN_seq ?_
                        refine wN_mov (v := iv x.now) rfl ?_
                        refine wN_addo (b := L1.next) (o := 0) rfl ?_
                        refine wN_ld (b := L1.next) (o := 0) (v := iv ((g.B bi).need)) rfl c10.rd rfl ?_
                        refine wN_mov (v := iv rt) rfl ?_
                        refine wN_add (a := (g.B bi).need) (b := rt) rfl rfl ⟨by omega, by omega⟩ ?_
                        refine wN_sub (a := ((g.B bi).need) + rt) (b := 1) rfl rfl ⟨by omega, by omega⟩ ?_
                        refine wN_mov (v := iv rt) rfl ?_
                        refine wN_quo (a := (((g.B bi).need) + rt) - 1) (b := rt) rfl rfl (by omega) (by omega) ⟨by omega, by omega⟩ ?_
                        refine wN_add (a := x.now) (b := (upq (g.B bi).need rt)) rfl rfl ⟨by omega, by omega⟩ ?_
                        refine wN_mov (v := iv (x.now + (upq (g.B bi).need rt))) rfl ?_
                        refine wN_end ?_
                        refine wN_seq ?_
                        refine wN_mov (v := .slice (some ⟨bb, 0, none⟩) g.bn g.bn) rfl ?_
                        refine wN_mov (v := iv (i : Int)) rfl ?_
                        refine wN_idx (b := bb) (o := 0) (k := i) (j := (i : Int)) rfl rfl rfl hi ?_
                        refine wN_addo (b := bb) (o := 0 + i * 5) rfl ?_
                        refine wN_ld (b := bb) (o := 0 + i * 5) (v := iv (bi : Int)) rfl rl (show _ = some (iv (bi : Int)) from by subst eo; rw [← ebi, ← Fh.st_bed g (no us) i]; exact flc_at (j := 0) (Fh.fs_at (g := g) (o := no us) (k := g.bn) (i := i) (by omega)) rfl) ?_
                        refine wN_mov (v := iv (bi : Int)) rfl ?_
                        refine wN_b_neq (a := (bi : Int)) (b := (bi : Int)) rfl rfl ?_
                        intro t13 g13; cases t13
                        · have g13 : ¬ ((bi : Int) ≠ (bi : Int)) := by simpa using g13
                          refine wN_mov (v := .bool false) rfl ?_
                          refine wN_g rfl (wN_mov (v := .slice (some ⟨bb, 0, none⟩) g.bn g.bn) rfl ?_)
                          refine wN_g rfl (wN_mov (v := iv (i : Int)) rfl ?_)
                          refine wN_g rfl (wN_idx (b := bb) (o := 0) (k := i) (j := (i : Int)) rfl rfl rfl hi ?_)
                          refine wN_g rfl (wN_addo (b := bb) (o := 0 + i * 5) rfl ?_)
                          refine wN_g rfl (wN_lda (b := bb) (o := 0 + i * 5 + 1) rfl rl (show row 2 _ _ = some [iv (g.st o i).f1, iv (g.st o i).f2] from by subst eo; exact row_sub (j := 1) (m := 2) (flc_row (Fh.fs_at (g := g) (o := no us) (k := g.bn) (i := i) (by omega))) (by decide)) ?_)
                          refine wN_g rfl (wN_mov (v := iv (x.now + (upq (g.B bi).need rt))) rfl ?_)
                          refine wN_g rfl (wN_callB rfl (has30_ok) ?_)
                          intro tH16 H16 hH16 kH16
                          have mH16 := kH16.1
                          have hk := hk.trans kH16
                          have hat := hat.keep kH16 (by simp)
                          have c1 := kH16.cl c1 (by simp)
                          have rl := kH16.rd rl (by simp)
                          have rs := kH16.rd rs (by simp)
                          have ry := kH16.rd ry (by simp)
                          have rb := kH16.rd rb (by simp)
                          have rr := kH16.rd rr (by simp)
                          have c6 := kH16.cl c6 (by simp)
                          have kb := kb.trans kH16
                          have c10 := kH16.cl c10 (by simp)
                          cases tH16
                          · exact absurd hfill (inB_f hH16)
                          · refine wN_g rfl (wN_pur (v := .bool false) rfl rfl ?_)
                            refine wN_pur (v := .bool false) rfl rfl ?_
                            refine wN_end ?_
                            refine condF ?_
                            first | refine wN_skip ?_ | skip
                            refine wN_seq ?_
                            refine wN_mov (v := .slice (some ⟨yb, 0, none⟩) bs.length yc) rfl ?_
                            refine wN_mov (v := iv (i : Int)) rfl ?_
                            refine wN_mov (v := .slice (some ⟨yb, 0, none⟩) bs.length yc) rfl ?_
                            refine wN_len (m := bs.length) rfl ?_
                            refine wN_rem (a := (i : Int)) (b := (bs.length : Int)) rfl rfl (by omega) (by omega) ⟨by omega, by omega⟩ ⟨by omega, by omega⟩ ?_
                            refine wN_idx (b := yb) (o := 0) (k := ((i) % bs.length)) (j := (i : Int) % (bs.length : Int)) rfl rfl (show ((i : Int)) % (bs.length : Int) = (((i) % bs.length : Nat) : Int) from rfl) (Nat.mod_lt _ hbs0) ?_
                            refine wN_ld (b := yb) (o := 0 + ((i) % bs.length) * 1) (v := .int .u32 ((bs.getD ((i) % bs.length) 0 : Nat) : Int)) rfl ry (u32_get (us := bs) (i := ((i) % bs.length)) (Nat.mod_lt _ hbs0)) ?_
                            refine wN_pur (v := iv ((bs.getD (i % bs.length) 0 : Nat) : Int)) rfl (conv_59 _ (u32_le hbs _) rfl) ?_
                            have hu32 := u32_le hbs (i % bs.length)
                            refine wN_rem (a := ((bs.getD (i % bs.length) 0 : Nat) : Int)) (b := 4) rfl rfl (by omega) (by omega) ⟨by omega, by omega⟩ ⟨by omega, by omega⟩ ?_
                            refine wN_mov (v := iv (((bs.getD (i % bs.length) 0 : Nat) : Int) % 4)) rfl ?_
                            refine wN_end ?_
                            obtain ⟨kw, hkw, hfar⟩ := wind_far g.wm (by have := v.w; unfold Fh.wm; omega) (by have := v.w; unfold Fh.wm; omega) (bs.getD (i % bs.length) 0 % 4) (Nat.mod_lt _ (by decide))
                            refine loop_low (fn := Try.f6) E6_2 N6 L6x2 (fun wd : Nat => [(1, .slice (some ⟨sb, 0, none⟩) g.bn cap), (2, .slice (some ⟨yb, 0, none⟩) bs.length yc), (3, pt z3), (7, .slice (some ⟨bb, 0, none⟩) g.bn g.bn), (8, pt z8), (10, iv (x.now + (upq (g.B bi).need rt))), (11, iv (x.taken + (max 0 (((g.B bi).need) - x.left)))), (12, iv x.leaked), (13, iv (x.spilled + (max 0 (x.left - ((g.B bi).need))))), (14, iv x.left), (15, iv (i : Int)), (16, iv (bi : Int)), (17, pt L1.next), (18, iv rt), (82, .slice (some ⟨sb, 0, none⟩) g.bn cap), (83, iv (g.bn : Int)), (84, iv (i : Int)), (19, iv (wd : Int))])
                              (fun k wd H' => wd < 4 ∧ g.wm.testBit ((wd + k) % 4) = true ∧ Keep H16 H' []) kw (bs.getD (i % bs.length) 0 % 4) ⟨Nat.mod_lt _ (by decide), hfar, Keep.refl _ _⟩ ⟨rfl, rfl, rfl, rfl, rfl, rfl, rfl, rfl, rfl, rfl, rfl, rfl, rfl, rfl, rfl, rfl, rfl, rfl, trivial⟩ ?_
                            rintro k2 wd L2 ⟨hwd, hft, hkj⟩
                            have hk := hk.trans hkj
                            have hat := hat.keep hkj (by simp)
                            have c1 := hkj.cl c1 (by simp)
                            have rl := hkj.rd rl (by simp)
                            have rs := hkj.rd rs (by simp)
                            have ry := hkj.rd ry (by simp)
                            have rb := hkj.rd rb (by simp)
                            have rr := hkj.rd rr (by simp)
                            have c6 := hkj.cl c6 (by simp)
                            have kb := kb.trans hkj
                            have c10 := hkj.cl c10 (by simp)
                            have kc := hkj
                            have mj := hkj.1
                            refine wN_seq ?_
                            refine wN_addo (b := z3) (o := 0) rfl ?_
                            refine wN_ld (b := z3) (o := 4) (v := iv g.winds) rfl c1.rd rfl ?_
                            refine wN_mov (v := iv (wd : Int)) rfl ?_
                            obtain ⟨p, hp, hp15⟩ : ∃ p, g.wm / 2 ^ wd = p ∧ p ≤ 15 := ⟨_, rfl, Nat.le_trans (Nat.div_le_self _ _) (by have := v.w; unfold Fh.wm; omega)⟩
                            refine wN_pur (v := iv (p : Int)) rfl (by rw [← hp]; exact h_shr (m := g.wm) (d := wd) (by omega) (by rw [show (g.wm : Int) = g.winds by have := v.w; unfold Fh.wm; omega]; rfl) rfl) ?_
                            refine wN_pur (v := iv ((p % 2 : Nat) : Int)) rfl (h_and1 (m := p) (by omega) rfl rfl) ?_
                            refine wN_c_eql (a := ((p % 2 : Nat) : Int)) (b := 0) rfl rfl ?_
                            refine wN_end ?_
                            refine And.intro (fun q14 => ?_) (fun q14 => ?_)
                            · have q14 : ((p % 2 : Nat) : Int) = 0 := by simpa using q14
                              have hbit : g.wm.testBit wd = false := by rw [Nat.testBit_eq_decide_div_mod_eq, hp]; simp; omega
                              first | refine wN_skip ?_ | skip
                              first | refine wN_reg ?_ | refine wN_blk ?_ | (refine wOps_nil ?_; refine wN_reg ?_)
                              refine wN_mov (v := iv (wd : Int)) rfl ?_
                              refine wN_add (a := (wd : Int)) (b := 1) rfl rfl ⟨by omega, by omega⟩ ?_
                              refine wN_rem (a := (wd : Int) + 1) (b := 4) rfl rfl (by omega) (by omega) ⟨by omega, by omega⟩ ⟨by omega, by omega⟩ ?_
                              refine wN_mov (v := iv (((wd : Int) + 1) % 4)) rfl ?_
                              refine wN_end ?_
                              have hk2 : 1 ≤ k2 := Nat.pos_of_ne_zero (fun e => by subst e; rw [Nat.add_zero, Nat.mod_eq_of_lt hwd, hbit] at hft; cases hft)
                              exact ⟨k2 - 1, (wd + 1) % 4, by omega, ⟨Nat.mod_lt _ (by decide), by rw [show ((wd + 1) % 4 + (k2 - 1)) % 4 = (wd + k2) % 4 by omega]; exact hft, kc⟩, rfl, rfl, rfl, rfl, rfl, rfl, rfl, rfl, rfl, rfl, rfl, rfl, rfl, rfl, rfl, rfl, rfl, rfl, trivial⟩
                            · have q14 : ¬ (((p % 2 : Nat) : Int) = 0) := by simpa using q14
                              have hbit : g.wm.testBit wd = true := by rw [Nat.testBit_eq_decide_div_mod_eq, hp]; simp; omega
                              obtain ⟨hw, hwl, hwf⟩ := hat.wrk hbi
                              have hw4 := (v.b bi hbi).2.2.2.2.2
                              rcases hw with ⟨_, h0, _⟩ | ⟨xw, ew, rw, _⟩
                              · omega
                              have lw := hwf xw ew; have lw2 := rw.lt
                              have hsi := getS (b := g.B bi) (i := wd) (by omega)
                              have hss := v.s bi hbi _ (List.mem_of_getElem? hsi)
                              have hle := wk_le (g := g) (b := g.B bi) hbit 4 hwd
                              refine wD_seq ?_
                              refine wD_addo (b := L1.next) (o := 0) rfl ?_
                              refine wD_ld (b := L1.next) (o := 3) (v := .slice (some ⟨xw, 0, none⟩) ((g.B bi).wn) ((g.B bi).wcap)) rfl c10.rd (show _ = some (Value.slice (some ⟨xw, 0, none⟩) ((g.B bi).wn) ((g.B bi).wcap)) from by rw [← ew]; rfl) ?_
                              refine wD_mov (v := iv (wd : Int)) rfl ?_
                              refine wD_idx (b := xw) (o := 0) (k := wd) (j := (wd : Int)) rfl rfl rfl (by omega) ?_
                              refine wD_lda (b := xw) (o := 0 + wd * 2) rfl rw (spc_row hsi) ?_
                              refine wD_mov (v := .slice (some ⟨yb, 0, none⟩) bs.length yc) rfl ?_
                              refine wD_mov (v := iv (i : Int)) rfl ?_
                              refine wD_add (a := (i : Int)) (b := 1) rfl rfl ⟨by omega, by omega⟩ ?_
                              refine wD_mov (v := .slice (some ⟨yb, 0, none⟩) bs.length yc) rfl ?_
                              refine wD_len (m := bs.length) rfl ?_
                              refine wD_rem (a := (i : Int) + 1) (b := (bs.length : Int)) rfl rfl (by omega) (by omega) ⟨by omega, by omega⟩ ⟨by omega, by omega⟩ ?_
                              refine wD_idx (b := yb) (o := 0) (k := ((i + 1) % bs.length)) (j := ((i : Int) + 1) % (bs.length : Int)) rfl rfl (show ((i : Int) + 1) % (bs.length : Int) = (((i + 1) % bs.length : Nat) : Int) from rfl) (Nat.mod_lt _ hbs0) ?_
                              refine wD_ld (b := yb) (o := 0 + ((i + 1) % bs.length) * 1) (v := .int .u32 ((bs.getD ((i + 1) % bs.length) 0 : Nat) : Int)) rfl ry (u32_get (us := bs) (i := ((i + 1) % bs.length)) (Nat.mod_lt _ hbs0)) ?_
                              obtain ⟨H17, fH17, kH17⟩ := inner31_ok (kn := kn) (lo := lo) (H := L2) (l := ((g.B bi).S wd).1) (h := ((g.B bi).S wd).2) (x := bs.getD ((i + 1) % bs.length) 0) ⟨by omega, by omega, by omega⟩ (u32_le hbs _)
                              refine wD_callf (vs := [.agg #[iv (((g.B bi).S wd).1), iv (((g.B bi).S wd).2)], .int .u32 ((bs.getD ((i + 1) % bs.length) 0 : Nat) : Int)]) rfl (callX_args fH17) ?_
                              have mH17 := kH17.1
                              have hk := hk.trans kH17
                              have hat := hat.keep kH17 (by simp)
                              have c1 := kH17.cl c1 (by simp)
                              have rl := kH17.rd rl (by simp)
                              have rs := kH17.rd rs (by simp)
                              have ry := kH17.rd ry (by simp)
                              have rb := kH17.rd rb (by simp)
                              have rr := kH17.rd rr (by simp)
                              have c6 := kH17.cl c6 (by simp)
                              have kb := kb.trans kH17
                              have c10 := kH17.cl c10 (by simp)
                              have rw := kH17.rd rw (by simp)
                              have hq1 := inn_in (l := ((g.B bi).S wd).1) (h := ((g.B bi).S wd).2) (m := ((bs.getD ((i + 1) % bs.length) 0 : Nat) : Int)) (by omega)
                              obtain ⟨work, ework⟩ : ∃ z, inn (((g.B bi).S wd).1) (((g.B bi).S wd).2) ((bs.getD ((i + 1) % bs.length) 0 : Nat) : Int) = z := ⟨_, rfl⟩
                              rw [ework] at hq1 ⊢
                              have hwk : (g.W bi).1 ≤ work ∧ work ≤ (g.W bi).2 := ⟨Int.le_trans hle.1 hq1.1, Int.le_trans hq1.2 hle.2⟩
                              have hwk2 : 0 ≤ work ∧ work ≤ 16384 := by omega
                              have mm1 := mul_rng (a := work) (b := (g.B bi).l1) (p := 16384) (q := 1048576) hwk2 bd.q1; have mm2 := mul_rng (a := work) (b := (g.B bi).l2) (p := 16384) (q := 1048576) hwk2 bd.q2
                              have mm3 : work * (g.B bi).l1 ≤ work * (g.B bi).l2 := Int.mul_le_mul_of_nonneg_left (by have := (v.b bi hbi).2.2.2.1; omega) hwk2.1
                              refine wD_mov (v := iv work) rfl ?_
                              refine wD_end (by repeat' first | exact True.intro | exact (fun h => h) | refine And.intro ?_ ?_ | (intro h; have h : (_ : Nat) = _ := h; omega)) ?_
                              refine wN_seq ?_
                              refine wN_mov (v := iv (x.now + (upq (g.B bi).need rt))) rfl ?_
                              refine wN_mov (v := iv work) rfl ?_
                              refine wN_add (a := x.now + (upq (g.B bi).need rt)) (b := work) rfl rfl ⟨by omega, by omega⟩ ?_
                              refine wN_mov (v := iv ((x.now + (upq (g.B bi).need rt)) + work)) rfl ?_
                              refine wN_end ?_
                              refine wD_seq ?_
                              refine wD_mov (v := iv work) rfl ?_
                              refine wD_addo (b := L1.next) (o := 0) rfl ?_
                              refine wD_addo (b := L1.next) (o := 1) rfl ?_
                              refine wD_ld (b := L1.next) (o := 1) (v := iv ((g.B bi).l1)) rfl c10.rd rfl ?_
                              refine wD_mul (a := work) (b := (g.B bi).l1) rfl rfl ⟨by omega, by omega⟩ ?_
                              refine wD_mov (v := iv work) rfl ?_
                              refine wD_addo (b := L1.next) (o := 0) rfl ?_
                              refine wD_addo (b := L1.next) (o := 1) rfl ?_
                              refine wD_ld (b := L1.next) (o := 2) (v := iv ((g.B bi).l2)) rfl c10.rd rfl ?_
                              refine wD_mul (a := work) (b := (g.B bi).l2) rfl rfl ⟨by omega, by omega⟩ ?_
                              refine wD_pur (v := .agg #[iv (work * ((g.B bi).l1)), iv (work * ((g.B bi).l2))]) rfl (by kernel_rfl) ?_
                              refine wD_mov (v := .slice (some ⟨yb, 0, none⟩) bs.length yc) rfl ?_
                              refine wD_mov (v := iv (i : Int)) rfl ?_
                              refine wD_add (a := (i : Int)) (b := 2) rfl rfl ⟨by omega, by omega⟩ ?_
                              refine wD_mov (v := .slice (some ⟨yb, 0, none⟩) bs.length yc) rfl ?_
                              refine wD_len (m := bs.length) rfl ?_
                              refine wD_rem (a := (i : Int) + 2) (b := (bs.length : Int)) rfl rfl (by omega) (by omega) ⟨by omega, by omega⟩ ⟨by omega, by omega⟩ ?_
                              refine wD_idx (b := yb) (o := 0) (k := ((i + 2) % bs.length)) (j := ((i : Int) + 2) % (bs.length : Int)) rfl rfl (show ((i : Int) + 2) % (bs.length : Int) = (((i + 2) % bs.length : Nat) : Int) from rfl) (Nat.mod_lt _ hbs0) ?_
                              refine wD_ld (b := yb) (o := 0 + ((i + 2) % bs.length) * 1) (v := .int .u32 ((bs.getD ((i + 2) % bs.length) 0 : Nat) : Int)) rfl ry (u32_get (us := bs) (i := ((i + 2) % bs.length)) (Nat.mod_lt _ hbs0)) ?_
                              obtain ⟨H18, fH18, kH18⟩ := inner31_ok (kn := kn) (lo := lo) (H := H17) (l := work * ((g.B bi).l1)) (h := work * ((g.B bi).l2)) (x := bs.getD ((i + 2) % bs.length) 0) ⟨by omega, by omega, by omega⟩ (u32_le hbs _)
                              refine wD_callf (vs := [.agg #[iv (work * ((g.B bi).l1)), iv (work * ((g.B bi).l2))], .int .u32 ((bs.getD ((i + 2) % bs.length) 0 : Nat) : Int)]) rfl (callX_args fH18) ?_
                              have mH18 := kH18.1
                              have hk := hk.trans kH18
                              have hat := hat.keep kH18 (by simp)
                              have c1 := kH18.cl c1 (by simp)
                              have rl := kH18.rd rl (by simp)
                              have rs := kH18.rd rs (by simp)
                              have ry := kH18.rd ry (by simp)
                              have rb := kH18.rd rb (by simp)
                              have rr := kH18.rd rr (by simp)
                              have c6 := kH18.cl c6 (by simp)
                              have kb := kb.trans kH18
                              have c10 := kH18.cl c10 (by simp)
                              have rw := kH18.rd rw (by simp)
                              have hq2 := inn_in (l := work * ((g.B bi).l1)) (h := work * ((g.B bi).l2)) (m := ((bs.getD ((i + 2) % bs.length) 0 : Nat) : Int)) (by omega)
                              obtain ⟨gone, egone⟩ : ∃ z, inn (work * ((g.B bi).l1)) (work * ((g.B bi).l2)) ((bs.getD ((i + 2) % bs.length) 0 : Nat) : Int) = z := ⟨_, rfl⟩
                              rw [egone] at hq2 ⊢
                              have hstep := tin_step ht ebi bd hwk hq2
                              rw [hrv2] at hstep
                              have hdone := hstep.1
                              refine wD_mov (v := iv gone) rfl ?_
                              refine wD_end (by repeat' first | exact True.intro | exact (fun h => h) | refine And.intro ?_ ?_ | (intro h; have h : (_ : Nat) = _ := h; omega)) ?_
                              refine wN_seq ?_
                              refine wN_addo (b := L1.next) (o := 0) rfl ?_
                              refine wN_ld (b := L1.next) (o := 0) (v := iv ((g.B bi).need)) rfl c10.rd rfl ?_
                              refine wN_mov (v := iv gone) rfl ?_
                              refine wN_sub (a := (g.B bi).need) (b := gone) rfl rfl ⟨by omega, by omega⟩ ?_
                              refine wN_mm (a := 0) (b := ((g.B bi).need) - gone) rfl rfl ?_
                              refine wN_mov (v := iv (max 0 (((g.B bi).need) - gone))) rfl ?_
                              refine wN_end ?_
                              refine wN_seq ?_
                              refine wN_mov (v := iv x.leaked) rfl ?_
                              refine wN_addo (b := L1.next) (o := 0) rfl ?_
                              refine wN_ld (b := L1.next) (o := 0) (v := iv ((g.B bi).need)) rfl c10.rd rfl ?_
                              refine wN_mov (v := iv (max 0 (((g.B bi).need) - gone))) rfl ?_
                              refine wN_sub (a := (g.B bi).need) (b := max 0 (((g.B bi).need) - gone)) rfl rfl ⟨by omega, by omega⟩ ?_
                              refine wN_add (a := x.leaked) (b := ((g.B bi).need) - (max 0 (((g.B bi).need) - gone))) rfl rfl ⟨by omega, by omega⟩ ?_
                              refine wN_mov (v := iv (x.leaked + (((g.B bi).need) - (max 0 (((g.B bi).need) - gone))))) rfl ?_
                              refine wN_end ?_
                              refine wN_seq ?_
                              refine wN_mov (v := .slice (some ⟨bb, 0, none⟩) g.bn g.bn) rfl ?_
                              refine wN_mov (v := iv (i : Int)) rfl ?_
                              refine wN_idx (b := bb) (o := 0) (k := i) (j := (i : Int)) rfl rfl rfl hi ?_
                              refine wN_addo (b := bb) (o := 0 + i * 5) rfl ?_
                              refine wN_lda (b := bb) (o := 0 + i * 5 + 3) rfl rl (show row 2 _ _ = some [iv (g.st o i).d1, iv (g.st o i).d2] from by subst eo; exact flc_two (Fh.fs_at (g := g) (o := no us) (k := g.bn) (i := i) (by omega))) ?_
                              refine wN_mov (v := iv ((x.now + (upq (g.B bi).need rt)) + work)) rfl ?_
                              refine wN_callB rfl (has30_ok) ?_
                              intro tH19 H19 hH19 kH19
                              have mH19 := kH19.1
                              have hk := hk.trans kH19
                              have hat := hat.keep kH19 (by simp)
                              have c1 := kH19.cl c1 (by simp)
                              have rl := kH19.rd rl (by simp)
                              have rs := kH19.rd rs (by simp)
                              have ry := kH19.rd ry (by simp)
                              have rb := kH19.rd rb (by simp)
                              have rr := kH19.rd rr (by simp)
                              have c6 := kH19.cl c6 (by simp)
                              have kb := kb.trans kH19
                              have c10 := kH19.cl c10 (by simp)
                              have rw := kH19.rd rw (by simp)
                              cases tH19
                              · exact absurd hdone (inB_f hH19)
                              · refine wN_pur (v := .bool false) rfl rfl ?_
                                refine wN_end ?_
                                refine condF ?_
                                first | refine wN_skip ?_ | skip
                                first | refine wN_reg ?_ | refine wN_blk ?_ | (refine wOps_nil ?_; refine wN_reg ?_)
                                refine wN_add (a := (i : Int)) (b := 1) rfl rfl ⟨by omega, by omega⟩ ?_
                                refine wN_mov (v := iv ((i : Int) + 1)) rfl ?_
                                refine wN_end ?_
                                exact ⟨q - 1, (_, i + 1), by omega, ⟨by show i + 1 + (q - 1) = g.bn; omega, kb, hstep⟩, rfl, rfl, rfl, rfl, rfl, rfl, rfl, rfl, rfl, rfl, rfl, rfl, rfl, trivial⟩
                        · have g13 : (bi : Int) ≠ (bi : Int) := by simpa using g13
                          exact absurd rfl g13
                  · have q7 : ¬ ((i : Int) < (g.bn : Int)) := of_decide_eq_false q7
                    have hi : i = g.bn := by omega
                    obtain ⟨n1, hn1⟩ : ∃ n, g.bn = n + 1 := ⟨g.bn - 1, by omega⟩
                    rw [hi, hn1] at ht
                    have hz := ht
                    have ela : g.la us = g.st o n1 := by unfold Fh.la; rw [eo, hn1]; rfl
                    have hz : ((g.st o n1).d1 ≤ x.now ∧ x.now ≤ (g.st o n1).d2) ∧ ((g.st o n1).t1 ≤ x.taken ∧ x.taken ≤ (g.st o n1).t2) ∧ ((g.st o n1).l1 ≤ x.leaked ∧ x.leaked ≤ (g.st o n1).l2) ∧ ((g.st o n1).s1 ≤ x.spilled ∧ x.spilled ≤ (g.st o n1).s2) ∧ ((g.st o n1).r1 ≤ x.left ∧ x.left ≤ (g.st o n1).r2) ∧ x.taken = x.leaked + x.spilled + x.left := ht
                    rw [← ela] at hz
                    have hcons := hz.2.2.2.2.2
                    obtain ⟨⟨b1, b2⟩, ⟨b3, b4⟩, ⟨b5, b6⟩, ⟨b7, b8⟩, ⟨b9, b10⟩⟩ := tin_bound (g := g) (o := o) (i := n1 + 1) (x := x) ht (fun k hk => hin k (by omega))
                    refine wN_seq ?_
                    refine wN_addo (b := z8) (o := 0) rfl ?_
                    refine wN_lda (b := z8) (o := 0) rfl c6.rd (show row 2 _ _ = some [iv ((g.la us).t1), iv ((g.la us).t2)] from rfl) ?_
                    refine wN_mov (v := iv x.taken) rfl ?_
                    refine wN_callB rfl (has30_ok) ?_
                    intro tH20 H20 hH20 kH20
                    have mH20 := kH20.1
                    have hk := hk.trans kH20
                    have hat := hat.keep kH20 (by simp)
                    have c1 := kH20.cl c1 (by simp)
                    have rl := kH20.rd rl (by simp)
                    have rs := kH20.rd rs (by simp)
                    have ry := kH20.rd ry (by simp)
                    have rb := kH20.rd rb (by simp)
                    have rr := kH20.rd rr (by simp)
                    have c6 := kH20.cl c6 (by simp)
                    have kb := kb.trans kH20
                    cases tH20
                    · exact absurd hz.2.1 (inB_f hH20)
                    · refine wN_mov (v := .bool true) rfl ?_
                      refine wN_g rfl (wN_addo (b := z8) (o := 0) rfl ?_)
                      refine wN_g rfl (wN_lda (b := z8) (o := 2) rfl c6.rd (show row 2 _ _ = some [iv ((g.la us).l1), iv ((g.la us).l2)] from rfl) ?_)
                      refine wN_g rfl (wN_mov (v := iv x.leaked) rfl ?_)
                      refine wN_g rfl (wN_callB rfl (has30_ok) ?_)
                      intro tH21 H21 hH21 kH21
                      have mH21 := kH21.1
                      have hk := hk.trans kH21
                      have hat := hat.keep kH21 (by simp)
                      have c1 := kH21.cl c1 (by simp)
                      have rl := kH21.rd rl (by simp)
                      have rs := kH21.rd rs (by simp)
                      have ry := kH21.rd ry (by simp)
                      have rb := kH21.rd rb (by simp)
                      have rr := kH21.rd rr (by simp)
                      have c6 := kH21.cl c6 (by simp)
                      have kb := kb.trans kH21
                      cases tH21
                      · exact absurd hz.2.2.1 (inB_f hH21)
                      · refine wN_pur (v := .bool true) rfl rfl ?_
                        refine wN_mov (v := .bool true) rfl ?_
                        refine wN_g rfl (wN_addo (b := z8) (o := 0) rfl ?_)
                        refine wN_g rfl (wN_lda (b := z8) (o := 4) rfl c6.rd (show row 2 _ _ = some [iv ((g.la us).s1), iv ((g.la us).s2)] from rfl) ?_)
                        refine wN_g rfl (wN_mov (v := iv x.spilled) rfl ?_)
                        refine wN_g rfl (wN_callB rfl (has30_ok) ?_)
                        intro tH22 H22 hH22 kH22
                        have mH22 := kH22.1
                        have hk := hk.trans kH22
                        have hat := hat.keep kH22 (by simp)
                        have c1 := kH22.cl c1 (by simp)
                        have rl := kH22.rd rl (by simp)
                        have rs := kH22.rd rs (by simp)
                        have ry := kH22.rd ry (by simp)
                        have rb := kH22.rd rb (by simp)
                        have rr := kH22.rd rr (by simp)
                        have c6 := kH22.cl c6 (by simp)
                        have kb := kb.trans kH22
                        cases tH22
                        · exact absurd hz.2.2.2.1 (inB_f hH22)
                        · refine wN_pur (v := .bool true) rfl rfl ?_
                          refine wN_mov (v := .bool true) rfl ?_
                          refine wN_g rfl (wN_addo (b := z8) (o := 0) rfl ?_)
                          refine wN_g rfl (wN_lda (b := z8) (o := 6) rfl c6.rd (show row 2 _ _ = some [iv ((g.la us).r1), iv ((g.la us).r2)] from rfl) ?_)
                          refine wN_g rfl (wN_mov (v := iv x.left) rfl ?_)
                          refine wN_g rfl (wN_callB rfl (has30_ok) ?_)
                          intro tH23 H23 hH23 kH23
                          have mH23 := kH23.1
                          have hk := hk.trans kH23
                          have hat := hat.keep kH23 (by simp)
                          have c1 := kH23.cl c1 (by simp)
                          have rl := kH23.rd rl (by simp)
                          have rs := kH23.rd rs (by simp)
                          have ry := kH23.rd ry (by simp)
                          have rb := kH23.rd rb (by simp)
                          have rr := kH23.rd rr (by simp)
                          have c6 := kH23.cl c6 (by simp)
                          have kb := kb.trans kH23
                          cases tH23
                          · exact absurd hz.2.2.2.2.1 (inB_f hH23)
                          · refine wN_pur (v := .bool true) rfl rfl ?_
                            refine wN_mov (v := .bool true) rfl ?_
                            refine wN_end ?_
                            refine wN_seq ?_
                            refine wN_mov (v := .bool true) rfl ?_
                            refine wN_mov (v := .bool true) rfl ?_
                            refine wN_g rfl (wN_mov (v := iv x.taken) rfl ?_)
                            refine wN_g rfl (wN_mov (v := iv x.leaked) rfl ?_)
                            refine wN_g rfl (wN_mov (v := iv x.spilled) rfl ?_)
                            refine wN_g rfl (wN_add (a := x.leaked) (b := x.spilled) rfl rfl ⟨by omega, by omega⟩ ?_)
                            refine wN_g rfl (wN_mov (v := iv x.left) rfl ?_)
                            refine wN_g rfl (wN_add (a := x.leaked + x.spilled) (b := x.left) rfl rfl ⟨by omega, by omega⟩ ?_)
                            refine wN_g rfl (wN_b_eql (a := x.taken) (b := (x.leaked + x.spilled) + x.left) rfl rfl ?_)
                            intro t15 g15; cases t15
                            · have g15 : ¬ (x.taken = ((x.leaked + x.spilled) + x.left)) := by simpa using g15
                              exact absurd hcons g15
                            · have g15 : x.taken = ((x.leaked + x.spilled) + x.left) := by simpa using g15
                              refine wN_pur (v := .bool true) rfl rfl ?_
                              refine wN_mov (v := .bool true) rfl ?_
                              refine wN_g rfl (wN_callf (vs := []) rfl (callX_known hkn) ?_)
                              refine wN_pur (v := .bool true) rfl rfl ?_
                              refine wN_mov (v := .bool true) rfl ?_
                              refine wN_end ?_
                              exact And.intro trivial (Exists.intro _ (And.intro rfl rfl))
                · have g6 : ((g.la us).t2) > g.reserve := of_decide_eq_true g6
                  omega
              · have g5 : (g.bn : Int) ≠ (g.bn : Int) := by simpa using g5
                exact absurd rfl g5
      · have g2 : (bs.length : Int) = 0 := by simpa using g2
        refine wN_pur (v := .bool true) rfl rfl ?_
        refine wN_end ?_
        refine condT ?_
        refine wN_seq ?_
        refine wN_callf (vs := []) rfl (callX_known hkn) ?_
        refine wN_mov (v := .bool true) rfl ?_
        refine wN_end ?_
        exact And.intro trivial (Exists.intro _ (And.intro rfl rfl))
    · have g1 : (m : Int) > 12 := of_decide_eq_true g1
      refine wN_pur (v := .bool true) rfl rfl ?_
      refine wN_mov (v := .bool true) rfl ?_
      refine wN_gs rfl ?_
      refine wN_gs rfl ?_
      refine wN_gs rfl ?_
      refine wN_pur (v := .bool true) rfl rfl ?_
      refine wN_end ?_
      refine condT ?_
      refine wN_seq ?_
      refine wN_callf (vs := []) rfl (callX_known hkn) ?_
      refine wN_mov (v := .bool true) rfl ?_
      refine wN_end ?_
      exact And.intro trivial (Exists.intro _ (And.intro rfl rfl))
  · skip
    refine wN_mov (v := .bool true) rfl ?_
    refine wN_gs rfl ?_
    refine wN_gs rfl ?_
    refine wN_gs rfl ?_
    refine wN_pur (v := .bool true) rfl rfl ?_
    refine wN_mov (v := .bool true) rfl ?_
    refine wN_gs rfl ?_
    refine wN_gs rfl ?_
    refine wN_gs rfl ?_
    refine wN_pur (v := .bool true) rfl rfl ?_
    refine wN_end ?_
    refine condT ?_
    refine wN_seq ?_
    refine wN_callf (vs := []) rfl (callX_known hkn) ?_
    refine wN_mov (v := .bool true) rfl ?_
    refine wN_end ?_
    exact And.intro trivial (Exists.intro _ (And.intro rfl rfl))
end
end Go.Ax

namespace Go.Ax
open Go Go.RowKit Go.Proofs Go.ChangeShapes Go.WideShapes Go.Deep

/-- A type whose cells are whole numbers. -/
def IntT (P : Program) (t : TypeId) : Prop := ∀ (H : Type) (enc : TypeId × Value → H) (w : World) (base : Nat) (spare : Nat → Bool) (held : Bool) (fuel : Nat) (cs : List Value) (x : DataW H × List MemPlace),
  DataW.trod enc P w base spare held fuel t cs = some x → cs.length = P.cellsOf t ∧ ∀ j, j < cs.length → ∃ n, cs[j]? = some (.int .i64 n)
theorem IntT.int {P : Program} {t : TypeId} (ht : P.underlying t = some (.int .i64)) (hc : P.cellsOf t = 1) : IntT P t := by
  intro H enc w base spare held fuel cs x h
  obtain ⟨n, rfl, _⟩ := DataW.trod_int ht h
  refine ⟨by rw [hc]; rfl, fun j hj => ⟨n, ?_⟩⟩
  have : j = 0 := by simp at hj; omega
  subst this; rfl
theorem IntT.struct {P : Program} {t : TypeId} {fs : Array Field} (ht : P.underlying t = some (.struct fs)) (hf : ∀ f ∈ fs.toList, IntT P f.type)
    (hcov : ((List.range (P.cellsOf t)).all fun j => fs.toList.any fun f => decide (f.offset ≤ j) && decide (j < f.offset + P.cellsOf f.type)) = true) : IntT P t := by
  intro H enc w base spare held fuel cs x h
  obtain ⟨xs, n, _, _, hlen, hxl, hg⟩ := DataW.trod_struct ht h
  refine ⟨hlen, fun j hj => ?_⟩
  have h1 := List.all_eq_true.1 hcov j (List.mem_range.2 (by omega))
  obtain ⟨f, hfm, h2⟩ := List.any_eq_true.1 h1
  simp only [Bool.and_eq_true, decide_eq_true_eq] at h2
  obtain ⟨i, hi, hfi⟩ := List.getElem_of_mem hfm
  have hfs : fs[i]? = some f := by
    rw [← Array.getElem?_toList, List.getElem?_eq_getElem hi, hfi]
  have hi2 : i < xs.length := by simpa [hxl] using hi
  have h3 := hg i f hfs
  rw [List.getElem?_eq_getElem hi2] at h3
  obtain ⟨h4, h5⟩ := hf f hfm _ _ _ _ _ _ _ _ _ h3
  obtain ⟨m, hm⟩ := h5 (j - f.offset) (by omega)
  refine ⟨m, ?_⟩
  rw [List.getElem?_take] at hm
  split at hm
  · rw [List.getElem?_drop, show f.offset + (j - f.offset) = j by omega] at hm; exact hm
  · cases hm

/-- A slice of rows of whole numbers, as it is given. -/
structure Given {α : Type} (w : World) (v : Value) (f : α → List Value) (l : List α) (x : Imp) : Prop where
  ok : ∀ (i : Nat) u, x.cs[i]? = some u → w.cell? ⟨x.blk, x.off + i, none⟩ = some u ∧ flat1 u = true
  cs : x.cs = l.flatMap f
  v : (v = .slice none 0 0 ∧ l = []) ∨ ∃ cap, v = .slice (some ⟨x.blk, x.off, none⟩) l.length cap ∧ l.length ≤ cap
theorem flat_get {α : Type} {f : α → List Value} {k : Nat} (hk : 0 < k) : ∀ {l : List α} (_ : ∀ x ∈ l, (f x).length = k) (i : Nat) (u : Value), (l.flatMap f)[i]? = some u → ∃ x, l[i / k]? = some x ∧ (f x)[i % k]? = some u
  | [], _, i, u, h => by simp at h
  | y :: r, hl, i, u, h => by
    have hy := hl y (List.mem_cons_self ..)
    rw [List.flatMap_cons, List.getElem?_append] at h
    split at h
    · rename_i q
      rw [hy] at q
      refine ⟨y, ?_, ?_⟩
      · rw [Nat.div_eq_of_lt q]; rfl
      · rw [Nat.mod_eq_of_lt q]; exact h
    · rename_i q
      rw [hy] at q h
      obtain ⟨x, h1, h2⟩ := flat_get hk (fun x hx => hl x (List.mem_cons_of_mem _ hx)) _ u h
      refine ⟨x, ?_, ?_⟩
      · rw [Nat.div_eq_sub_div hk (by omega)]; exact h1
      · rw [Nat.mod_eq_sub_mod (by omega)]; exact h2
theorem slice_given {H : Type} {enc : TypeId × Value → H} {P : Program} {w : World} {base b0 : Nat} {r : Reach} {held : Bool} {α : Type} (f : α → List Value) (mk : (Nat → Int) → α) (k : Nat) {t e : TypeId} {fuel : Nat} {v : Value} {x : DataW H × List MemPlace}
    (ht : P.underlying t = some (.slice e)) (hI : IntT P e) (hc : P.cellsOf e = k) (hk : 0 < k) (hmk : ∀ N : Nat → Int, f (mk N) = (List.range k).map fun j => Value.int .i64 (N j))
    (hok : Cell.okWide P w r b0 t v) (h : DataW.trod enc P w base (fun _ => true) held fuel t [v] = some x) : ∃ (l : List α) (y : Imp), Given w v f l y := by
  rcases open_slice ht h with ⟨h0, _⟩ | ⟨a, len, cap, m, n, D, Pl, hcs, hb, hl, hm, hmm, hx, hi⟩
  · cases h0
    exact ⟨[], ⟨0, 0, []⟩, fun i u e => by simp at e, rfl, .inl ⟨rfl, rfl⟩⟩
  · cases hcs
    obtain ⟨blk, off, spot⟩ := a
    have hs : spot = none := by
      unfold Cell.okWide at hok
      rw [ht] at hok
      unfold Cell.ok at hok
      simp only [ht] at hok
      exact hok.2.2.2.1
    subst hs
    simp only [if_true] at hmm
    subst hmm
    have hcell : ∀ i, i < len → ∀ j, j < k → ∃ n, w.cell? ⟨blk, off + (i * k + j), none⟩ = some (.int .i64 n) := by
      intro i hil j hj
      obtain ⟨cs', h1, h2⟩ := hi i (by omega)
      obtain ⟨h3, h4⟩ := hI _ _ _ _ _ _ _ _ _ h2
      obtain ⟨_, h5, h6⟩ := World.cells?_some h1
      obtain ⟨n, hn⟩ := h4 j (by omega)
      refine ⟨n, ?_⟩
      have h7 := h6 j (by omega)
      rw [hn, hc, add_add] at h7
      have e : (⟨blk, off, none⟩ : Addr).add (i * k + j) = ⟨blk, off + (i * k + j), none⟩ := by
        unfold Addr.add
        by_cases q : i * k + j = 0
        · simp [q]
        · simp
      rw [e] at h7
      exact h7
    refine ⟨(List.range len).map fun i => mk fun j => match w.cell? ⟨blk, off + (i * k + j), none⟩ with | some (.int _ n) => n | _ => 0, ⟨blk, off, _⟩, ?_, rfl, .inr ⟨m, by simp, by simpa using hl⟩⟩
    intro i u hu
    obtain ⟨y, h1, h2⟩ := flat_get hk (fun y hy => by
      obtain ⟨i, _, rfl⟩ := List.mem_map.1 hy
      rw [hmk]; simp) i u hu
    have hlt : i / k < len := by
      have := get_lt h1
      simpa using this
    rw [List.getElem?_map, List.getElem?_range hlt] at h1
    simp only [Option.map_some, Option.some.injEq] at h1
    subst h1
    have hj : i % k < k := Nat.mod_lt _ hk
    rw [hmk, List.getElem?_map, List.getElem?_range hj] at h2
    simp only [Option.map_some, Option.some.injEq] at h2
    obtain ⟨n, hn⟩ := hcell _ hlt _ hj
    rw [hn] at h2
    subst h2
    rw [Nat.div_add_mod' ] at hn
    exact ⟨hn, rfl⟩
theorem Given.rel {α : Type} {w : World} {v : Value} {f : α → List Value} {l : List α} {x : Imp} (g : Given w v f l x) {r : Ren} {H : Hp} {b : Nat} (hr : r b = some ⟨x.blk, x.off, none⟩) (hb : b < H.next) (hc : cellsOf H b = some x.cs) (hro : H.t.get b = some (.ro x.cs)) :
    ∃ a cap, VR r (.slice a l.length cap) v ∧ Sl H a l.length cap (l.flatMap f) ∧ ∀ b, a = some ⟨b, 0, none⟩ → H.t.get b = some (.ro (l.flatMap f)) := by
  rcases g.v with ⟨rfl, rfl⟩ | ⟨cap, rfl, hl⟩
  · exact ⟨none, 0, .nilSlice, .inl ⟨.inl rfl, rfl, rfl, rfl⟩, fun b e => by cases e⟩
  · refine ⟨some ⟨b, 0, none⟩, cap, ?_, .inr ⟨b, rfl, ⟨hb, by rw [hc, g.cs]⟩, hl⟩, fun b' e => by cases e; rw [hro, g.cs]⟩
    have := VR.slice (o := 0) (n := l.length) (c := cap) hr rfl hl
    simpa using this
theorem flat_ints (us : List Int) : us.flatMap (fun x => [iv x]) = ints us := by
  induction us with
  | nil => rfl
  | cons u us ih => rw [List.flatMap_cons, ih]; rfl
end Go.Ax

/-! Slices of rows of plain cells, as arguments. -/
namespace Go.Ax
open Go Go.RowKit Go.Proofs Go.ChangeShapes Go.WideShapes Go.Deep

theorem IntT.row {α : Type} {P : Program} {t : TypeId} {k : Nat} {f : α → List Value} {mk : (Nat → Int) → α} (h : IntT P t) (hc : P.cellsOf t = k) (hmk : ∀ N : Nat → Int, f (mk N) = (List.range k).map fun j => Value.int .i64 (N j))
    {H : Type} {enc : TypeId × Value → H} {w : World} {base : Nat} {spare : Nat → Bool} {held : Bool} (fuel : Nat) (cs : List Value) (x : DataW H × List MemPlace) (hx : DataW.trod enc P w base spare held fuel t cs = some x) : ∃ y : α, cs = f y ∧ True := by
  obtain ⟨h1, h2⟩ := h _ _ _ _ _ _ _ _ _ hx
  have : ∃ N : Nat → Int, ∀ j, j < cs.length → cs[j]? = some (.int .i64 (N j)) := by
    refine ⟨fun j => match cs[j]? with | some (.int _ n) => n | _ => 0, fun j hj => ?_⟩
    obtain ⟨n, hn⟩ := h2 j hj
    simp [hn]
  obtain ⟨N, hN⟩ := this
  refine ⟨mk N, ?_, trivial⟩
  rw [hmk]
  apply List.ext_getElem?
  intro j
  by_cases hj : j < k
  · rw [hN j (by omega), List.getElem?_map, List.getElem?_range hj]; rfl
  · rw [List.getElem?_eq_none (by omega), List.getElem?_eq_none (by simp; omega)]
theorem spot_of {w : World} {a : Addr} {v : Value} (h : w.cell? a = some v) : a.spot = none := by
  unfold World.cell? at h
  split at h
  · cases hs : a.spot with
    | none => rfl
    | some x => rw [hs] at h; simp at h
  · cases h
theorem add_zero' (a : Addr) : a.add 0 = a := by unfold Addr.add; simp
theorem add_plain (b o n : Nat) : (⟨b, o, none⟩ : Addr).add n = ⟨b, o + n, none⟩ := by
  unfold Addr.add
  by_cases q : n = 0
  · simp [q]
  · simp [q]
/-- A slice of rows, as it is read; Q: what else is known of a row. -/
theorem rows_read {H : Type} {enc : TypeId × Value → H} {P : Program} {w : World} {base : Nat} {held : Bool} {α : Type} {f : α → List Value} {Q : α → Prop} {k : Nat} {t e : TypeId} {fuel : Nat} {v : Value} {x : DataW H × List MemPlace}
    (ht : P.underlying t = some (.slice e)) (hR : ∀ (fuel : Nat) (cs : List Value) (x : DataW H × List MemPlace), DataW.trod enc P w base (fun _ => true) held fuel e cs = some x → ∃ y : α, cs = f y ∧ Q y) (hc : P.cellsOf e = k) (hk : 0 < k) (hfk : ∀ y, (f y).length = k)
    (h : DataW.trod enc P w base (fun _ => true) held fuel t [v] = some x) : ∃ (l : List α), l.length ≤ maxLen ∧ (∀ y ∈ l, Q y) ∧
      (((v = .slice none 0 0 ∨ ∃ a', v = .slice (some a') 0 0) ∧ l = []) ∨ ∃ blk off cap, v = .slice (some ⟨blk, off, none⟩) l.length cap ∧ l.length ≤ cap ∧ ∀ (i : Nat) u, (l.flatMap f)[i]? = some u → w.cell? ⟨blk, off + i, none⟩ = some u) := by
  rcases open_slice ht h with ⟨h0, _⟩ | ⟨a, len, cap, m, n, D, Pl, hcs, hb, hl, hm, hmm, hx, hi⟩
  · cases h0
    exact ⟨[], by simp, fun y hy => by simp at hy, .inl ⟨.inl rfl, rfl⟩⟩
  cases hcs
  simp only [if_true] at hmm
  subst hmm
  rcases Nat.eq_zero_or_pos m with h0 | h0
  · subst h0
    have : len = 0 := by omega
    subst this
    exact ⟨[], by simp, fun y hy => by simp at hy, .inl ⟨.inr ⟨_, rfl⟩, rfl⟩⟩
  obtain ⟨blk, off, spot⟩ := a
  have hs : spot = none := by
    obtain ⟨cs', h1, h2⟩ := hi 0 h0
    obtain ⟨y, hy, _⟩ := hR _ _ _ h2
    obtain ⟨_, h5, h6⟩ := World.cells?_some h1
    have h7 := h6 0 (by omega)
    rw [Nat.zero_mul, add_zero', add_zero'] at h7
    have h8 : cs'[0]? = some (cs'[0]'(by omega)) := List.getElem?_eq_getElem _
    rw [h8] at h7
    exact spot_of h7
  subst hs
  have hrow : ∀ i, i < len → ∃ y : α, Q y ∧ ∀ j, j < k → ∃ u, (f y)[j]? = some u ∧ w.cell? ⟨blk, off + (i * k + j), none⟩ = some u := by
    intro i hil
    obtain ⟨cs', h1, h2⟩ := hi i (by omega)
    obtain ⟨y, rfl, hq⟩ := hR _ _ _ h2
    obtain ⟨_, h5, h6⟩ := World.cells?_some h1
    refine ⟨y, hq, fun j hj => ?_⟩
    have h7 := h6 j (by omega)
    have h8 : (f y)[j]? = some ((f y)[j]'(by rw [hfk]; exact hj)) := List.getElem?_eq_getElem _
    rw [h8, hc, add_plain, add_plain, Nat.add_assoc] at h7
    exact ⟨_, h8, h7⟩
  have key : ∀ n, n ≤ len → ∃ l : List α, l.length = n ∧ (∀ y ∈ l, Q y) ∧ ∀ (i : Nat) y, l[i]? = some y → ∀ j, j < k → ∃ u, (f y)[j]? = some u ∧ w.cell? ⟨blk, off + (i * k + j), none⟩ = some u := by
    intro n
    induction n with
    | zero => intro _; exact ⟨[], rfl, fun y hy => by simp at hy, fun i y e => by simp at e⟩
    | succ n ih =>
      intro hn
      obtain ⟨l, h1, hq, h2⟩ := ih (by omega)
      obtain ⟨y, hyq, hy⟩ := hrow n (by omega)
      refine ⟨l ++ [y], by simp [h1], fun z hz => ?_, fun i z e => ?_⟩
      · simp only [List.mem_append, List.mem_singleton] at hz
        rcases hz with hz | rfl
        · exact hq z hz
        · exact hyq
      rw [List.getElem?_append] at e
      split at e
      · exact h2 i z e
      · rename_i q
        have : i = n := by have := get_lt e; simp at this; omega
        subst this
        rw [h1, Nat.sub_self] at e
        simp at e; subst e
        exact hy
  obtain ⟨l, hl1, hq, hl2⟩ := key len (Nat.le_refl _)
  refine ⟨l, by omega, hq, .inr ⟨blk, off, m, by rw [hl1], by omega, fun i u hu => ?_⟩⟩
  obtain ⟨y, h1, h2⟩ := flat_get hk (fun y _ => hfk y) i u hu
  have hj : i % k < k := Nat.mod_lt _ hk
  obtain ⟨u', e1, e2⟩ := hl2 _ y h1 _ hj
  rw [h2] at e1; cases e1
  rw [Nat.div_add_mod'] at e2
  exact e2
/-- Rows of plain cells. -/
theorem rows_givenG {H : Type} {enc : TypeId × Value → H} {P : Program} {w : World} {base b0 : Nat} {r : Reach} {held : Bool} {α : Type} {f : α → List Value} {Q : α → Prop} {k : Nat} {t e : TypeId} {fuel : Nat} {v : Value} {x : DataW H × List MemPlace}
    (ht : P.underlying t = some (.slice e)) (hR : ∀ (fuel : Nat) (cs : List Value) (x : DataW H × List MemPlace), DataW.trod enc P w base (fun _ => true) held fuel e cs = some x → ∃ y : α, cs = f y ∧ Q y) (hc : P.cellsOf e = k) (hk : 0 < k) (hfk : ∀ y, (f y).length = k) (hflat : ∀ y u, u ∈ f y → flat1 u = true)
    (hok : Cell.okWide P w r b0 t v) (h : DataW.trod enc P w base (fun _ => true) held fuel t [v] = some x) : ∃ (l : List α) (y : Imp), Given w v f l y ∧ l.length ≤ maxLen ∧ ∀ y ∈ l, Q y := by
  obtain ⟨l, h1, h2, ⟨h3, rfl⟩ | ⟨blk, off, cap, h3, h4, h5⟩⟩ := rows_read ht hR hc hk hfk h
  · rcases h3 with h3 | ⟨⟨blk, off, spot⟩, rfl⟩
    · exact ⟨[], ⟨0, 0, []⟩, ⟨fun i u e => by simp at e, rfl, .inl ⟨h3, rfl⟩⟩, h1, h2⟩
    · have hs : spot = none := by
        unfold Cell.okWide at hok
        rw [ht] at hok
        unfold Cell.ok at hok
        simp only [ht] at hok
        exact hok.2.2.2.1
      subst hs
      exact ⟨[], ⟨blk, off, []⟩, ⟨fun i u e => by simp at e, rfl, .inr ⟨0, rfl, Nat.le_refl 0⟩⟩, h1, h2⟩
  · refine ⟨l, ⟨blk, off, l.flatMap f⟩, ⟨fun i u hu => ⟨h5 i u hu, ?_⟩, rfl, .inr ⟨cap, h3, h4⟩⟩, h1, h2⟩
    obtain ⟨y, hy, hu'⟩ := List.mem_flatMap.1 (List.mem_of_getElem? hu)
    exact hflat y u hu'
theorem maxLen_le : maxLen ≤ 9223372036854775807 := by decide

end Go.Ax

/-! A harvest as an argument: its beds and its rates, and what they hold. -/
namespace Go.Ax
open Go Go.RowKit Go.Proofs Go.ChangeShapes Go.WideShapes Go.Deep

def renOf (imps : List Imp) : Ren := fun b => (imps[b]?).map fun x => ⟨x.blk, x.off, none⟩
theorem imports3 {P : Program} (imps outs : List Imp) (w : World) (h : ∀ x ∈ imps, ∀ (i : Nat) v, x.cs[i]? = some v → w.cell? ⟨x.blk, x.off + i, none⟩ = some v ∧ flat1 v = true)
    (hcs : ∀ x ∈ outs, ∀ (i : Nat) v, x.cs[i]? = some v → ∃ v', w.cell? ⟨x.blk, x.off + i, none⟩ = some v' ∧ VR (renOf imps) v v') :
    ∃ (r : Ren) (H : Hp), Rel P r w.heap.size H w ∧ H.next = (imps ++ outs).length ∧ (∀ b loc, r b = some loc → b < H.next) ∧ Ren.Le (renOf imps) r ∧ ∀ (b : Nat) x, (imps ++ outs)[b]? = some x → r b = some ⟨x.blk, x.off, none⟩ ∧ H.t.get b = some (.ro x.cs) := by
  have hall : ∀ x ∈ imps ++ outs, ∀ (i : Nat) v, x.cs[i]? = some v → ∃ v', w.cell? ⟨x.blk, x.off + i, none⟩ = some v' ∧ VR (renOf imps) v v' := by
    intro x hx i v hv
    rcases List.mem_append.1 hx with hx | hx
    · obtain ⟨h1, h2⟩ := h x hx i v hv
      exact ⟨v, h1, flat1_vr h2⟩
    · exact hcs x hx i v hv
  obtain ⟨t, ht⟩ := tr_of (fun b => ((imps ++ outs)[b]?).map fun x => .ro x.cs) (imps ++ outs).length
  have hle : Ren.Le (renOf imps) (fun b => ((imps ++ outs)[b]?).map fun x => ⟨x.blk, x.off, none⟩) := fun b loc e => by
    unfold renOf at e
    have hlt : b < imps.length := by
      rcases Nat.lt_or_ge b imps.length with q | q
      · exact q
      · rw [List.getElem?_eq_none q] at e; cases e
    show ((imps ++ outs)[b]?).map _ = _
    rw [List.getElem?_append_left hlt]; exact e
  have hr : ∀ (b : Nat) loc, ((imps ++ outs)[b]?).map (fun x => (⟨x.blk, x.off, none⟩ : Loc)) = some loc → ∃ x, (imps ++ outs)[b]? = some x ∧ b < (imps ++ outs).length ∧ loc = ⟨x.blk, x.off, none⟩ ∧ t.get b = some (.ro x.cs) := by
    intro b loc e
    cases hx : (imps ++ outs)[b]? with
    | none => rw [hx] at e; cases e
    | some x =>
      rw [hx] at e
      simp at e
      have hlt := get_lt hx
      exact ⟨x, rfl, hlt, e.symm, by rw [ht, if_pos hlt, hx]; rfl⟩
  have low : ∀ {g o : Nat} {v : Value}, w.cell? ⟨g, o, none⟩ = some v → g < w.heap.size := fun {g o v} hv => by
    unfold World.cell? at hv
    rcases Nat.lt_or_ge g w.heap.size with q | q
    · exact q
    · rw [Array.getElem?_eq_none q] at hv; cases hv
  refine ⟨fun b => ((imps ++ outs)[b]?).map fun x => ⟨x.blk, x.off, none⟩, { next := (imps ++ outs).length, t }, ⟨?_, ?_, ?_, Nat.le_refl _⟩, rfl, ?_, hle, ?_⟩
  · intro b loc e
    obtain ⟨x, hx, hlt, rfl, hg⟩ := hr b loc e
    refine ⟨hlt, ?_⟩
    show Dm _ _ _ (t.get b)
    rw [hg]
    cases hc : x.cs with
    | nil => exact .inl rfl
    | cons v l =>
      obtain ⟨v', h1, _⟩ := hall x (List.mem_of_getElem? hx) 0 v (by rw [hc]; rfl)
      exact .inr (low h1)
  · intro b loc o e eo
    obtain ⟨x, hx, hlt, rfl, hg⟩ := hr b loc e
    rw [hg] at eo; cases eo
    refine ⟨rfl, fun i v ev => ?_⟩
    obtain ⟨v', h1, h2⟩ := hall x (List.mem_of_getElem? hx) i v ev
    unfold World.cell? at h1
    simp only at h1
    split at h1
    · rename_i C e' f hC
      exact ⟨C, e', f, v', hC, by simpa using h1, h2.mono hle⟩
    · cases h1
  · intro b b' loc loc' e e' _ hl _
    obtain ⟨x, hx, hlt, rfl, hg⟩ := hr b loc e
    obtain ⟨o, h1, h2, h3⟩ := hl
    have : t.get b = some o := h1
    rw [hg] at this; cases this
    cases h3
  · intro b loc e
    obtain ⟨x, hx, hlt, rfl, hg⟩ := hr b loc e
    exact hlt
  · intro b x hx
    have hlt := get_lt hx
    refine ⟨by simp only [hx, Option.map_some], ?_⟩
    show t.get b = _
    rw [ht, if_pos hlt, hx]; rfl

/-- An inner slice, as it is given: an empty one may have any address. -/
structure GivI {α : Type} (w : World) (v : Value) (f : α → List Value) (l : List α) (x : Imp) : Prop where
  ok : ∀ (i : Nat) u, x.cs[i]? = some u → w.cell? ⟨x.blk, x.off + i, none⟩ = some u ∧ flat1 u = true
  cs : x.cs = l.flatMap f
  v : ((v = .slice none 0 0 ∨ ∃ a', v = .slice (some a') 0 0) ∧ l = []) ∨ ∃ cap, v = .slice (some ⟨x.blk, x.off, none⟩) l.length cap ∧ l.length ≤ cap
theorem givI_of {H : Type} {enc : TypeId × Value → H} {P : Program} {w : World} {base : Nat} {held : Bool} {α : Type} {f : α → List Value} {Q : α → Prop} {k : Nat} {t e : TypeId} {fuel : Nat} {v : Value} {x : DataW H × List MemPlace}
    (ht : P.underlying t = some (.slice e)) (hR : ∀ (fuel : Nat) (cs : List Value) (x : DataW H × List MemPlace), DataW.trod enc P w base (fun _ => true) held fuel e cs = some x → ∃ y : α, cs = f y ∧ Q y) (hc : P.cellsOf e = k) (hk : 0 < k) (hfk : ∀ y, (f y).length = k) (hflat : ∀ y u, u ∈ f y → flat1 u = true)
    (h : DataW.trod enc P w base (fun _ => true) held fuel t [v] = some x) : ∃ (l : List α) (y : Imp), GivI w v f l y := by
  obtain ⟨l, h1, h2, ⟨h3, rfl⟩ | ⟨blk, off, cap, h3, h4, h5⟩⟩ := rows_read ht hR hc hk hfk h
  · exact ⟨[], ⟨0, 0, []⟩, ⟨fun i u e => by simp at e, rfl, .inl ⟨h3, rfl⟩⟩⟩
  · refine ⟨l, ⟨blk, off, l.flatMap f⟩, ⟨fun i u hu => ⟨h5 i u hu, ?_⟩, rfl, .inr ⟨cap, h3, h4⟩⟩⟩
    obtain ⟨y, hy, hu'⟩ := List.mem_flatMap.1 (List.mem_of_getElem? hu)
    exact hflat y u hu'
theorem GivI.rel {α : Type} {w : World} {v : Value} {f : α → List Value} {l : List α} {x : Imp} (g : GivI w v f l x) {r : Ren} {b : Nat} (hr : r b = some ⟨x.blk, x.off, none⟩) :
    ∃ a cap, VR r (.slice a l.length cap) v ∧ (∀ y, a = some ⟨y, 0, none⟩ → y = b) ∧ ∀ H : Hp, b < H.next → H.t.get b = some (.ro x.cs) → Sl H a l.length cap (l.flatMap f) := by
  rcases g.v with ⟨rfl | ⟨a', rfl⟩, rfl⟩ | ⟨cap, rfl, hl⟩
  · exact ⟨none, 0, .nilSlice, fun y e => by (cases e), fun H _ _ => .inl ⟨.inl rfl, rfl, rfl, rfl⟩⟩
  · exact ⟨some ⟨0, 0, some 0⟩, 0, .weird, fun y e => by (cases e), fun H _ _ => .inl ⟨.inr rfl, rfl, rfl, rfl⟩⟩
  · refine ⟨some ⟨b, 0, none⟩, cap, ?_, fun y e => by (cases e; rfl), fun H hb hc => .inr ⟨b, rfl, ⟨hb, by unfold cellsOf; rw [hc, g.cs]⟩, hl⟩⟩
    have := VR.slice (o := 0) (n := l.length) (c := cap) hr rfl hl
    simpa using this
structure BV where
  need : Int
  l1 : Int
  l2 : Int
  wv : Value
  ws : List (Int × Int)
  x : Imp
def BV.f (b : BV) : List Value := [iv b.need, iv b.l1, iv b.l2, b.wv]
def BV.Q (w : World) (b : BV) : Prop := GivI w b.wv (fun s : Int × Int => [iv s.1, iv s.2]) b.ws b.x
structure RV where
  rv : Value
  l : List Int
  x : Imp
def RV.f (r : RV) : List Value := [r.rv]
def RV.Q (w : World) (r : RV) : Prop := GivI w r.rv (fun n : Int => [iv n]) r.l r.x
theorem bogs_abs {w : World} {imps : List Imp} : ∀ (L : List BV) (pre post : List Imp), imps = pre ++ L.map BV.x ++ post → (∀ b ∈ L, b.Q w) → ∃ bs : List Bg, bs.length = L.length ∧ LR (renOf imps) (bgc bs) (L.flatMap BV.f) ∧
    ∀ (H : Hp) (f : Nat), imps.length ≤ f → (∀ (b : Nat) x, imps[b]? = some x → b < H.next ∧ H.t.get b = some (.ro x.cs)) → ∀ b ∈ bs, Sl H b.wa b.wn b.wcap (spc b.ws) ∧ b.ws.length = b.wn ∧ ∀ x, b.wa = some ⟨x, 0, none⟩ → x < f
  | [], _, _, _, _ => ⟨[], rfl, .nil, fun _ _ _ _ b hb => by simp at hb⟩
  | b :: L, pre, post, he, hq => by
    obtain ⟨bs, e1, e2, e3⟩ := bogs_abs (imps := imps) L (pre ++ [b.x]) post (by rw [he]; simp) (fun x hx => hq x (List.mem_cons_of_mem _ hx))
    have q := hq b (List.mem_cons_self ..)
    have i1 : imps[pre.length]? = some b.x := by rw [he]; simp
    obtain ⟨a1, c1, r1, y1, l1⟩ := GivI.rel q (r := renOf imps) (b := pre.length) (by unfold renOf; rw [i1]; rfl)
    refine ⟨⟨b.need, b.l1, b.l2, a1, b.ws.length, c1, b.ws⟩ :: bs, by simp [e1], ?_, fun H f hf hH x hx => ?_⟩
    · show LR (renOf imps) (iv b.need :: iv b.l1 :: iv b.l2 :: .slice a1 b.ws.length c1 :: bgc bs) (iv b.need :: iv b.l1 :: iv b.l2 :: b.wv :: L.flatMap BV.f)
      exact .cons (.int _ _) (.cons (.int _ _) (.cons (.int _ _) (.cons r1 e2)))
    · simp only [List.mem_cons] at hx
      rcases hx with rfl | hx
      · obtain ⟨b1, d1⟩ := hH _ _ i1
        exact ⟨l1 H b1 d1, rfl, fun x e => by have := y1 x e; have := get_lt i1; omega⟩
      · exact e3 H f hf hH x hx
theorem rates_abs {w : World} {imps : List Imp} : ∀ (L : List RV) (pre post : List Imp), imps = pre ++ L.map RV.x ++ post → (∀ b ∈ L, b.Q w) → ∃ bs : List Rw, bs.length = L.length ∧ LR (renOf imps) (rwc bs) (L.flatMap RV.f) ∧
    ∀ (H : Hp) (f : Nat), imps.length ≤ f → (∀ (b : Nat) x, imps[b]? = some x → b < H.next ∧ H.t.get b = some (.ro x.cs)) → ∀ b ∈ bs, Sl H b.ra b.n b.cap (ints b.l) ∧ b.l.length = b.n ∧ ∀ x, b.ra = some ⟨x, 0, none⟩ → x < f
  | [], _, _, _, _ => ⟨[], rfl, .nil, fun _ _ _ _ b hb => by simp at hb⟩
  | b :: L, pre, post, he, hq => by
    obtain ⟨bs, e1, e2, e3⟩ := rates_abs (imps := imps) L (pre ++ [b.x]) post (by rw [he]; simp) (fun x hx => hq x (List.mem_cons_of_mem _ hx))
    have q := hq b (List.mem_cons_self ..)
    have i1 : imps[pre.length]? = some b.x := by rw [he]; simp
    obtain ⟨a1, c1, r1, y1, l1⟩ := GivI.rel q (r := renOf imps) (b := pre.length) (by unfold renOf; rw [i1]; rfl)
    refine ⟨⟨a1, b.l.length, c1, b.l⟩ :: bs, by simp [e1], ?_, fun H f hf hH x hx => ?_⟩
    · show LR (renOf imps) (.slice a1 b.l.length c1 :: rwc bs) (b.rv :: L.flatMap RV.f)
      exact .cons r1 e2
    · simp only [List.mem_cons] at hx
      rcases hx with rfl | hx
      · obtain ⟨b1, d1⟩ := hH _ _ i1
        exact ⟨by rw [← flat_ints]; exact l1 H b1 d1, rfl, fun x e => by have := y1 x e; have := get_lt i1; omega⟩
      · exact e3 H f hf hH x hx
/-- A list of rows that point elsewhere, as it is given. -/
structure GivO {α : Type} (w : World) (v : Value) (f : α → List Value) (l : List α) (x : Imp) : Prop where
  cs : ∀ (i : Nat) u, (l.flatMap f)[i]? = some u → w.cell? ⟨x.blk, x.off + i, none⟩ = some u
  v : ((v = .slice none 0 0 ∨ ∃ a', v = .slice (some a') 0 0) ∧ l = []) ∨ ∃ cap, v = .slice (some ⟨x.blk, x.off, none⟩) l.length cap ∧ l.length ≤ cap
theorem givO_rel {α : Type} {w : World} {v : Value} {f : α → List Value} {l : List α} {x : Imp} (g : GivO w v f l x) {r : Ren} {H : Hp} {b n : Nat} {cs : List Value} (hr : r b = some ⟨x.blk, x.off, none⟩) (hb : b < H.next) (hg : H.t.get b = some (.ro cs)) (hn : n = l.length) (h0 : l = [] → cs = []) :
    ∃ a cap, VR r (.slice a n cap) v ∧ Sl H a n cap cs := by
  subst hn
  rcases g.v with ⟨rfl | ⟨a', rfl⟩, rfl⟩ | ⟨cap, rfl, hl⟩
  · exact ⟨none, 0, .nilSlice, .inl ⟨.inl rfl, rfl, rfl, h0 rfl⟩⟩
  · exact ⟨some ⟨0, 0, some 0⟩, 0, .weird, .inl ⟨.inr rfl, rfl, rfl, h0 rfl⟩⟩
  · refine ⟨some ⟨b, 0, none⟩, cap, ?_, .inr ⟨b, rfl, ⟨hb, by unfold cellsOf; rw [hg]⟩, hl⟩⟩
    have := VR.slice (o := 0) (n := l.length) (c := cap) hr rfl hl
    simpa using this
/-- A harvest, as it is given. -/
structure HG (w : World) (s1 s2 : Value) (L1 : List BV) (L2 : List RV) (x1 x2 : Imp) : Prop where
  g1 : GivO w s1 BV.f L1 x1
  g2 : GivO w s2 RV.f L2 x2
  q1 : ∀ b ∈ L1, b.Q w
  q2 : ∀ b ∈ L2, b.Q w
theorem imports_harvest {P : Program} (pre : List Imp) {w : World} {s1 s2 : Value} {L1 : List BV} {L2 : List RV} {x1 x2 : Imp} (hg : HG w s1 s2 L1 L2 x1 x2) (inlet reserve winds : Int) (h : ∀ x ∈ pre, ∀ (i : Nat) v, x.cs[i]? = some v → w.cell? ⟨x.blk, x.off + i, none⟩ = some v ∧ flat1 v = true) :
    ∃ (r : Ren) (H : Hp) (g : Fh), Rel P r w.heap.size H w ∧ (∀ b loc, r b = some loc → b < H.next) ∧ (∀ (b : Nat) x, pre[b]? = some x → b < H.next ∧ r b = some ⟨x.blk, x.off, none⟩ ∧ H.t.get b = some (.ro x.cs)) ∧ g.At H.next H ∧ g.inlet = inlet ∧ g.reserve = reserve ∧ g.winds = winds ∧
      VR r (.slice g.ba g.bn g.bcap) s1 ∧ VR r (.slice g.ra g.rn g.rcap) s2 := by
  obtain ⟨bs, b1, b2, b3⟩ := bogs_abs (w := w) (imps := pre ++ L1.map BV.x ++ L2.map RV.x) L1 pre (L2.map RV.x) rfl hg.q1
  obtain ⟨rs, r1, r2, r3⟩ := rates_abs (w := w) (imps := pre ++ L1.map BV.x ++ L2.map RV.x) L2 (pre ++ L1.map BV.x) [] (by simp) hg.q2
  obtain ⟨imps, himps⟩ : ∃ imps, imps = pre ++ L1.map BV.x ++ L2.map RV.x := ⟨_, rfl⟩
  rw [← himps] at b2 b3 r2 r3
  have himp : ∀ x ∈ imps, ∀ (i : Nat) v, x.cs[i]? = some v → w.cell? ⟨x.blk, x.off + i, none⟩ = some v ∧ flat1 v = true := by
    intro x hx
    rw [himps] at hx
    simp only [List.mem_append, List.mem_map] at hx
    rcases hx with (hx | ⟨y, hy, rfl⟩) | ⟨y, hy, rfl⟩
    · exact h x hx
    · exact (hg.q1 y hy).ok
    · exact (hg.q2 y hy).ok
  have side : ∀ {α : Type} {v : Value} {f : α → List Value} {l : List α} {x : Imp} {cs : List Value}, GivO w v f l x → LR (renOf imps) cs (l.flatMap f) → ∀ (i : Nat) u, cs[i]? = some u → ∃ v', w.cell? ⟨x.blk, x.off + i, none⟩ = some v' ∧ VR (renOf imps) u v' := by
    intro α v f l x cs gv hl i u hu
    have hlt := get_lt hu
    have hlt2 : i < (l.flatMap f).length := by rw [← hl.1]; exact hlt
    have hu2 := List.getElem?_eq_getElem hlt2
    exact ⟨_, gv.cs i _ hu2, hl.2 i u _ hu hu2⟩
  obtain ⟨r, H, h1, h2, h3, h4, h5⟩ := imports3 (P := P) imps [⟨x1.blk, x1.off, bgc bs⟩, ⟨x2.blk, x2.off, rwc rs⟩] w himp (by
    intro x hx i u hu
    simp only [List.mem_cons, List.not_mem_nil, or_false] at hx
    rcases hx with rfl | rfl
    · exact side hg.g1 b2 i u hu
    · exact side hg.g2 r2 i u hu)
  have hnx : H.next = imps.length + 2 := by rw [h2]; simp
  have hg5 : ∀ (b : Nat) x, imps[b]? = some x → r b = some ⟨x.blk, x.off, none⟩ ∧ H.t.get b = some (.ro x.cs) := fun b x hx => h5 b x (by rw [List.getElem?_append_left (get_lt hx)]; exact hx)
  have hH : ∀ (b : Nat) x, imps[b]? = some x → b < H.next ∧ H.t.get b = some (.ro x.cs) := fun b x hx => ⟨by have := get_lt hx; omega, (hg5 b x hx).2⟩
  obtain ⟨o1, p1⟩ := h5 imps.length ⟨x1.blk, x1.off, bgc bs⟩ (by simp)
  obtain ⟨o2, p2⟩ := h5 (imps.length + 1) ⟨x2.blk, x2.off, rwc rs⟩ (by simp)
  obtain ⟨a1, c1, v1, s1'⟩ := givO_rel hg.g1 o1 (by omega) p1 b1 (fun e => by have : bs = [] := List.eq_nil_of_length_eq_zero (by rw [b1, e]; rfl); rw [this]; rfl)
  obtain ⟨a2, c2, v2, s2'⟩ := givO_rel hg.g2 o2 (by omega) p2 r1 (fun e => by have : rs = [] := List.eq_nil_of_length_eq_zero (by rw [r1, e]; rfl); rw [this]; rfl)
  refine ⟨r, H, ⟨a1, bs.length, c1, bs, a2, rs.length, c2, rs, inlet, reserve, winds⟩, h1, h3, fun b x hx => ?_, ?_, rfl, rfl, rfl, v1, v2⟩
  · have hx2 : imps[b]? = some x := by rw [himps, List.append_assoc, List.getElem?_append_left (get_lt hx)]; exact hx
    exact ⟨(hH b x hx2).1, hg5 b x hx2⟩
  · exact ⟨Nat.le_refl _, s1', s2', rfl, rfl, fun x e => s1'.old x e, fun x e => s2'.old x e, b3 H H.next (by omega) hH, r3 H H.next (by omega) hH⟩
end Go.Ax


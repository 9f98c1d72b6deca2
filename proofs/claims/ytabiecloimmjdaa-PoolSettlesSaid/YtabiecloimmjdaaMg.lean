import Derived.Test.YtabiecloimmjdaaMf
import Derived.Test.YtabiecloimmjdaaRows
import Derived.Test.YtabiecloimmjdaaChecked
import Derived.Deep.Slices
import Derived.Deep.Fields
import Derived.ChangeSame
set_option linter.all false
/-
 Pool: the document's Advances, Settle, Break (written by program).
-/
namespace Go.Ax
open Go Go.RowKit Go.Proofs

noncomputable section
def cnt (ds : List Dl) (g : Int) : Nat → Int
 | 0 => 0
 | k + 1 => cnt ds g k + (if (ds.getD k Dl.z).r = g then 1 else 0)
theorem cnt_in {ds : List Dl} {g : Int} : ∀ k, 0 ≤ cnt ds g k ∧ cnt ds g k ≤ k
 | 0 => by show (0 : Int) ≤ 0 ∧ (0 : Int) ≤ ((0 : Nat) : Int); omega
 | k + 1 => by
  have ih := cnt_in (ds := ds) (g := g) k
  show 0 ≤ cnt ds g k + _ ∧ cnt ds g k + _ ≤ ((k + 1 : Nat) : Int)
  split <;> omega
theorem cnt_zero {ds : List Dl} {g : Int} : ∀ k, cnt ds g k = 0 ↔ ∀ j, j < k → (ds.getD j Dl.z).r ≠ g
 | 0 => ⟨fun _ j h => absurd h (Nat.not_lt_zero _), fun _ => rfl⟩
 | k + 1 => by
  have ih := cnt_zero (ds := ds) (g := g) k
  have b := cnt_in (ds := ds) (g := g) k
  show cnt ds g k + _ = 0 ↔ _
  constructor
  ·intro h j hj
   by_cases e : (ds.getD k Dl.z).r = g
   ·rw [if_pos e] at h; omega
   ·rw [if_neg e] at h
    rcases Nat.lt_or_ge j k with q | q
    ·exact ih.1 (by omega) j q
    ·rw [show j = k by omega]; exact e
  ·intro h
   rw [if_neg (h k (by omega)), ih.2 fun j hj => h j (by omega)]; rfl
theorem cnt_grl {ds : List Dl} (hd : ds.any badD = false) {g : Int} : cnt ds g ds.length = 0 ↔ g ∉ grl ds := by
 rw [cnt_zero, grl_mem hd]
 constructor
 ·rintro h ⟨j, hj, e⟩; exact h j hj e
 ·intro h j hj e; exact h ⟨j, hj, e⟩
def grU (ds : List Dl) (k : Nat) : List Int := ((List.range k).map fun n : Nat => (n : Int)).filter fun g => ds.any fun d => d.r == g
theorem grU_step {ds : List Dl} (hd : ds.any badD = false) {k : Nat} : k < 1024 → grU ds (k + 1) = grU ds k ++ (if (k : Int) ∈ grl ds then [(k : Int)] else []) := by
 intro hk
 unfold grU
 rw [List.range_succ, List.map_append, List.filter_append]
 refine congrArg (fun z : List Int => ((List.range k).map fun n : Nat => (n : Int)).filter (fun g => ds.any fun d => d.r == g) ++ z) ?_
 have hm : ((k : Int) ∈ grl ds) ↔ (ds.any fun d => d.r == (k : Int)) = true := by
  unfold grl
  rw [List.mem_filter]
  exact ⟨fun h => h.2, fun h => ⟨List.mem_map.2 ⟨k, by simp; omega, rfl⟩, h⟩⟩
 by_cases h : (k : Int) ∈ grl ds
 ·rw [if_pos h]; simp only [List.map_cons, List.map_nil]; simp only [List.filter, hm.1 h]
 ·rw [if_neg h]; simp only [List.map_cons, List.map_nil]; simp only [List.filter, Bool.eq_false_iff.2 (fun q => h (hm.2 q))]
section
variable {kn : Kn} {lo : Nat} {H : Hp}
theorem refadv_ok {us : List Pr} {sa : Option Addr} {n cap : Nat} {adv : Int} (hs : Sl H sa n cap (prc us)) (hl : us.length = n) (hn : n ≤ 1000000) (hlo : lo ≤ H.next) (hu : us.any badP = false) (h0 : 0 < n) (ha1 : 0 ≤ adv) (ha2 : adv ≤ 1000) {d : Dl} (hdx : okD d) : ∃ H', FnX Try.prog kn lo 38 [.agg #[.slice sa n cap, iv adv], .agg (Dl.f d).toArray] H (iv (wA us adv d)) H' ∧ Keep H H' [] := by
 have key := fnX_low (kn := kn) (lo := lo) (H := H) (args := [.agg #[.slice sa n cap, iv adv], .agg (Dl.f d).toArray]) (Q := fun w H' => w = iv (wA us adv d) ∧ Keep H H' []) Try.func38 B38 N38 Z38 L38 (by simp) ?_
 ·obtain ⟨w, H', h, rfl, q⟩ := key; exact ⟨H', h, q⟩
 have hk := Keep.refl H []
 have fs := hs.old
 have hax := wA_in hu (by omega) ha1 ha2 hdx
 refine wN_seq <| wN_box (v := .agg #[.slice sa n cap, iv adv]) rfl ?_
 intro H1 kH1 nH1 c1
 have c1 : Cl H1 H.next [.slice sa n cap, iv adv] := c1
 have mH1 := kH1.1
 have hk := hk.trans kH1
 have hs := kH1.sl0 hs
 refine wN_box (v := .agg (Dl.f d).toArray) rfl ?_
 intro H2 kH2 nH2 c2
 have c2 : Cl H2 H1.next [iv d.r, iv d.g, iv d.c] := c2
 have mH2 := kH2.1
 have hk := hk.trans kH2
 have hs := kH2.sl0 hs
 have c1 := kH2.cl c1 (by simp)
 refine wN_mov (v := iv 0) rfl <| wN_end <| wN_seq <| wN_lda (b := H.next) (o := 0) rfl c1.rd (show row 2 _ _ = some [.slice sa n cap, iv adv] from rfl) <| wN_lda (b := H1.next) (o := 0) rfl c2.rd (show row 3 _ _ = some [iv d.r, iv d.g, iv d.c] from rfl) ?_
 obtain ⟨H3, fH3, kH3⟩ := refworth_ok (kn := kn) (lo := lo) (H := H2) (adv := adv) hs hl hn (by omega) hu h0 (d := d) hdx
 refine wN_callf (vs := [.agg #[.slice sa n cap, iv adv], .agg (Dl.f d).toArray]) rfl (callX_args fH3) ?_
 have mH3 := kH3.1
 have hk := hk.trans kH3
 have hs := kH3.sl0 hs
 have c1 := kH3.cl c1 (by simp)
 have c2 := kH3.cl c2 (by simp)
 refine wN_mov (v := .tuple #[iv (wW us d), iv (wI us d)]) rfl <| wN_pur (v := iv (wW us d)) rfl (by kernel_rfl) <| wN_pur (v := iv (wI us d)) rfl (by kernel_rfl) <| wN_mov (v := iv (wW us d)) rfl <| wN_mov (v := iv (wI us d)) rfl <| wN_end <| wN_seq <| wN_mov (v := iv (wW us d)) rfl <| wN_addo (b := H.next) (o := 0) rfl <| wN_ld (b := H.next) (o := 1) (v := iv adv) rfl c1.rd rfl <| wN_mul (a := (wW us d)) (b := adv) rfl rfl ⟨by omega, by omega⟩ <| wN_quo (a := (wW us d) * adv) (b := 1000) rfl rfl (by omega) (by omega) ⟨by omega, by omega⟩ ?_
 refine wN_mov (v := iv (((wW us d) * adv) / 1000)) rfl <| wN_end ?_
 exact And.intro trivial (Exists.intro _ (And.intro rfl ⟨rfl, hk⟩))
set_option maxRecDepth 100000 in
theorem refvD_ok {ds : List Dl} {la : Option Addr} {m capl : Nat} (hd : Sl H la m capl (dlc ds)) (hm : ds.length = m) (hmn : m ≤ 1000000) (hlo : lo ≤ H.next) : ∃ H', FnX Try.prog kn lo 26 [.slice la m capl] H (.bool (vD ds)) H' ∧ Keep H H' [] := by
 have key := fnX_low (kn := kn) (lo := lo) (H := H) (args := [.slice la m capl]) (Q := fun w H' => w = .bool (vD ds) ∧ Keep H H' []) Try.func26 B26 N26 Z26 L26 (by simp) ?_
 ·obtain ⟨w, H', h, rfl, q⟩ := key; exact ⟨H', h, q⟩
 have hk := Keep.refl H []
 have fd := hd.old
 refine wN_seq <| wN_mov (v := .bool false) rfl <| wN_end <| wN_seq <| wN_mov (v := iv 0) rfl <| wN_end ?_
 refine loop_low (fn := Try.f26) E26_1 N26 L26x1 (fun i : Nat => [(0, .slice la m capl), (3, iv (i : Int))])
  (fun k i H' => i + k = m ∧ i ≤ 129 ∧ Keep H H' [] ∧ Sl H' la m capl (dlc ds) ∧ ∀ j, j < i → badD (ds.getD j Dl.z) = false) m 0 ⟨by omega, by omega, hk, hd, fun j h => absurd h (by omega)⟩ ⟨rfl, rfl, trivial⟩ ?_
 rintro k i L1 ⟨hik, hi9, hk, hd, hall⟩
 have mk := hk.1
 refine wN_seq <| wN_mov (v := iv (i : Int)) rfl <| wN_mov (v := .slice la m capl) rfl <| wN_len (m := m) rfl <| wN_b_lss (a := (i : Int)) (b := (m : Int)) rfl rfl ?_
 intro t1 g1; cases t1
 ·have g1 : ¬ ((i : Int) < (m : Int)) := of_decide_eq_false g1
  refine wN_mov (v := .bool false) rfl <| wN_gs rfl <| wN_gs rfl <| wN_pur (v := .bool false) rfl rfl <| wN_end <| condF ?_
  first | (refine wN_exit ?_; show wC _ _ _ _ _ _ _ _ _) | skip
  refine wN_seq <| wN_mov (v := .slice la m capl) rfl <| wN_len (m := m) rfl <| wN_c_leq (a := (m : Int)) (b := 128) rfl rfl <| wN_mov (v := .bool (decide ((m : Int) ≤ 128))) rfl <| wN_end ?_
  refine And.intro trivial (Exists.intro _ (And.intro rfl ⟨congrArg Value.bool (show decide ((m : Int) ≤ 128) = vD ds from ?_), hk⟩))
  symm; unfold vD; rw [hm]
  by_cases q : m ≤ 128
  ·rw [any_false (z := Dl.z) (fun j hj => hall j (by omega)), decide_eq_true q, decide_eq_true (by omega)]; rfl
  ·rw [decide_eq_false q, decide_eq_false (by omega)]; rfl
 ·have g1 : (i : Int) < (m : Int) := of_decide_eq_true g1
  refine wN_mov (v := .bool true) rfl ?_
  refine wN_g rfl (wN_mov (v := iv (i : Int)) rfl ?_)
  refine wN_g rfl (wN_b_leq (a := (i : Int)) (b := 128) rfl rfl ?_)
  intro t2 g2; cases t2
  ·have g2 : ¬ ((i : Int) ≤ 128) := of_decide_eq_false g2
   refine wN_pur (v := .bool false) rfl rfl <| wN_end <| condF ?_
   first | (refine wN_exit ?_; show wC _ _ _ _ _ _ _ _ _) | skip
   refine wN_seq <| wN_mov (v := .slice la m capl) rfl <| wN_len (m := m) rfl <| wN_c_leq (a := (m : Int)) (b := 128) rfl rfl <| wN_mov (v := .bool (decide ((m : Int) ≤ 128))) rfl <| wN_end ?_
   refine And.intro trivial (Exists.intro _ (And.intro rfl ⟨congrArg Value.bool (show decide ((m : Int) ≤ 128) = vD ds from ?_), hk⟩))
   symm; unfold vD; rw [hm]
   by_cases q : m ≤ 128
   ·rw [any_false (z := Dl.z) (fun j hj => hall j (by omega)), decide_eq_true q, decide_eq_true (by omega)]; rfl
   ·rw [decide_eq_false q, decide_eq_false (by omega)]; rfl
  ·have g2 : (i : Int) ≤ 128 := of_decide_eq_true g2
   refine wN_pur (v := .bool true) rfl rfl <| wN_end <| condT ?_
   have hi : i < m := by omega
   rcases id hd with ⟨_, h0s, _⟩ | ⟨sb, es, rs, _⟩
   ·omega
   have ls := rs.1
   first | refine wN_skip ?_ | skip
   refine wN_seq <| wN_mov (v := .slice la m capl) rfl <| wN_mov (v := iv (i : Int)) rfl <| wN_idx (b := sb) (o := 0) (k := i) (j := (i : Int)) (by rw [← es]; rfl) rfl rfl hi <| wN_lda (b := sb) (o := 0 + i * 3) rfl rs (dlc_rowF (by omega)) <| wN_callB rfl (refD_ok (by omega)) ?_
   intro tH1 H1 hH1 kH1
   have mH1 := kH1.1
   have hk := hk.trans kH1
   have hd := kH1.sl0 hd
   have rs := kH1.rd rs (by simp)
   cases tH1
   ·have hb : badD (ds.getD i Dl.z) = true := by simpa using hH1
    refine wN_pur (v := .bool true) rfl rfl <| wN_end <| condT <| wN_seq <| wN_mov (v := .bool false) rfl <| wN_end ?_
    exact And.intro trivial (Exists.intro _ (And.intro rfl ⟨congrArg Value.bool (show false = vD ds from (by symm; unfold vD; rw [any_true (z := Dl.z) (j := i) (by omega) hb]; simp)), hk⟩))
   ·have hb : badD (ds.getD i Dl.z) = false := by simpa using hH1
    refine wN_pur (v := .bool false) rfl rfl <| wN_end <| condF ?_
    first | refine wN_skip ?_ | skip
    first | refine wN_reg ?_ | refine wN_blk ?_ | refine wN_bseq ?_ | (refine wOps_nil ?_; refine wN_reg ?_)
    refine wN_mov (v := iv (i : Int)) rfl <| wN_add (a := (i : Int)) (b := 1) rfl rfl ⟨by omega, by omega⟩ <| wN_mov (v := iv ((i : Int) + 1)) rfl <| wN_end ?_
    exact ⟨k - 1, i + 1, by omega, ⟨by omega, by omega, hk, hd, fun j hj => by rcases Nat.lt_or_ge j i with c | c; exact hall j c; rw [show j = i by omega]; exact hb⟩, rfl, rfl, trivial⟩
set_option maxRecDepth 100000 in
theorem reftotal_ok {us : List Pr} {sa : Option Addr} {n cap : Nat} {adv : Int} (hs : Sl H sa n cap (prc us)) (hl : us.length = n) (hn : n ≤ 1000000) {ds : List Dl} {la : Option Addr} {m capl : Nat} (hd : Sl H la m capl (dlc ds)) (hm : ds.length = m) (hlo : lo ≤ H.next) (hu : us.any badP = false) (h0 : 0 < n) (ha1 : 0 ≤ adv) (ha2 : adv ≤ 1000) (hm2 : m ≤ 128) (hdv : ds.any badD = false) : ∃ H', FnX Try.prog kn lo 41 [.agg #[.slice sa n cap, iv adv], .slice la m capl] H (iv (tW us ds m)) H' ∧ Keep H H' [] := by
 have key := fnX_low (kn := kn) (lo := lo) (H := H) (args := [.agg #[.slice sa n cap, iv adv], .slice la m capl]) (Q := fun w H' => w = iv (tW us ds m) ∧ Keep H H' []) Try.func41 B41 N41 Z41 L41 (by simp) ?_
 ·obtain ⟨w, H', h, rfl, q⟩ := key; exact ⟨H', h, q⟩
 have hk := Keep.refl H []
 have fs := hs.old
 have fd := hd.old
 refine wN_seq <| wN_box (v := .agg #[.slice sa n cap, iv adv]) rfl ?_
 intro H1 kH1 nH1 c1
 have c1 : Cl H1 H.next [.slice sa n cap, iv adv] := c1
 have mH1 := kH1.1
 have hk := hk.trans kH1
 have hs := kH1.sl0 hs
 have hd := kH1.sl0 hd
 refine wN_mov (v := iv 0) rfl <| wN_end <| wN_seq <| wN_mov (v := iv 0) rfl <| wN_end <| wN_seq <| wN_mov (v := iv 0) rfl <| wN_end ?_
 refine loop_low (fn := Try.f41) E41_1 N41 L41x1 (fun i : Nat => [(1, .slice la m capl), (2, pt H.next), (5, iv (tW us ds i)), (6, iv (i : Int))])
  (fun k i H' => i + k = m ∧ Keep H H' [] ∧ H1.next ≤ H'.next ∧ Sl H' sa n cap (prc us) ∧ Sl H' la m capl (dlc ds) ∧ Cl H' H.next [.slice sa n cap, iv adv]) m 0 ⟨by omega, hk, by omega, hs, hd, c1⟩ ⟨rfl, rfl, rfl, rfl, trivial⟩ ?_
 rintro k i L1 ⟨hik, hk, hnx, hs, hd, ct⟩
 have mk := hk.1
 refine wN_seq <| wN_mov (v := iv (i : Int)) rfl <| wN_mov (v := .slice la m capl) rfl <| wN_len (m := m) rfl <| wN_c_lss (a := (i : Int)) (b := (m : Int)) rfl rfl <| wN_end ?_
 refine And.intro (fun q1 => ?_) (fun q1 => ?_)
 ·have q1 : (i : Int) < (m : Int) := of_decide_eq_true q1
  have hi : i < m := by omega
  rcases id hd with ⟨_, h0s, _⟩ | ⟨sb, es, rs, _⟩
  ·omega
  have ls := rs.1
  have hdx := okD_of (any_at (z := Dl.z) hdv (show i < ds.length by omega))
  have hwx := wW_in hu (by omega) hdx
  have hax := wA_in hu (by omega) ha1 ha2 hdx
  have htw := tW_in hu (by omega) hdv i (by omega)
  have hta := tA_in hu (by omega) ha1 ha2 hdv i (by omega)
  first | refine wN_skip ?_ | skip
  refine wD_seq <| wD_lda (b := H.next) (o := 0) rfl ct.rd (show row 2 _ _ = some [.slice sa n cap, iv adv] from rfl) <| wD_mov (v := .slice la m capl) rfl <| wD_mov (v := iv (i : Int)) rfl <| wD_idx (b := sb) (o := 0) (k := i) (j := (i : Int)) (by rw [← es]; rfl) rfl rfl hi <| wD_lda (b := sb) (o := 0 + i * 3) rfl rs (dlc_rowF (by omega)) ?_
  obtain ⟨H2, fH2, kH2⟩ := refworth_ok (kn := kn) (lo := lo) (H := L1) (adv := adv) hs hl hn (by omega) hu h0 (d := (ds.getD i Dl.z)) hdx
  refine wD_callf (vs := [.agg #[.slice sa n cap, iv adv], .agg (Dl.f (ds.getD i Dl.z)).toArray]) rfl (callX_args fH2) ?_
  have mH2 := kH2.1
  have hk := hk.trans kH2
  have hs := kH2.sl0 hs
  have hd := kH2.sl0 hd
  have ct := kH2.cl ct (by simp)
  have rs := kH2.rd rs (by simp)
  refine wD_mov (v := .tuple #[iv (wW us (ds.getD i Dl.z)), iv (wI us (ds.getD i Dl.z))]) rfl <| wD_pur (v := iv (wW us (ds.getD i Dl.z))) rfl (by kernel_rfl) <| wD_pur (v := iv (wI us (ds.getD i Dl.z))) rfl (by kernel_rfl) <| wD_mov (v := iv (wW us (ds.getD i Dl.z))) rfl <| wD_mov (v := iv (wI us (ds.getD i Dl.z))) rfl ?_
  refine wD_end (by repeat' first | exact True.intro | exact (fun h => h) | refine And.intro ?_ ?_ | (intro h; have h : (_ : Nat) = _ := h; omega)) ?_
  first | refine wN_reg ?_ | refine wN_blk ?_ | refine wN_bseq ?_ | (refine wOps_nil ?_; refine wN_reg ?_)
  refine wN_mov (v := iv (tW us ds i)) rfl <| wN_mov (v := iv (wW us (ds.getD i Dl.z))) rfl <| wN_add (a := (tW us ds i)) (b := (wW us (ds.getD i Dl.z))) rfl rfl ⟨by omega, by omega⟩ <| wN_mov (v := iv ((tW us ds i) + (wW us (ds.getD i Dl.z)))) rfl <| wN_end ?_
  first | refine wN_reg ?_ | refine wN_blk ?_ | refine wN_bseq ?_ | (refine wOps_nil ?_; refine wN_reg ?_)
  refine wN_mov (v := iv (i : Int)) rfl <| wN_add (a := (i : Int)) (b := 1) rfl rfl ⟨by omega, by omega⟩ <| wN_mov (v := iv ((i : Int) + 1)) rfl <| wN_end ?_
  exact ⟨k - 1, i + 1, by omega, ⟨by omega, hk, by omega, hs, hd, ct⟩, rfl, rfl, rfl, rfl, trivial⟩
 ·have q1 : ¬ ((i : Int) < (m : Int)) := of_decide_eq_false q1
  refine wN_seq <| wN_mov (v := iv (tW us ds i)) rfl <| wN_mov (v := iv (tW us ds i)) rfl <| wN_end ?_
  have e : i = m := by omega
  exact And.intro trivial (Exists.intro _ (And.intro rfl ⟨by rw [e]; rfl, hk⟩))
set_option maxRecDepth 100000 in
theorem refof_ok {us : List Pr} {sa : Option Addr} {n cap : Nat} {adv : Int} (hs : Sl H sa n cap (prc us)) (hl : us.length = n) (hn : n ≤ 1000000) {ds : List Dl} {la : Option Addr} {m capl : Nat} (hd : Sl H la m capl (dlc ds)) (hm : ds.length = m) (hlo : lo ≤ H.next) (hu : us.any badP = false) (h0 : 0 < n) (ha1 : 0 ≤ adv) (ha2 : adv ≤ 1000) (hm2 : m ≤ 128) (hdv : ds.any badD = false) {g : Int} : ∃ H', FnX Try.prog kn lo 42 [.agg #[.slice sa n cap, iv adv], .slice la m capl, iv g] H (.tuple #[iv (hwS us ds g m), iv (haS us adv ds g m), iv (cnt ds g m)]) H' ∧ Keep H H' [] := by
 have key := fnX_low (kn := kn) (lo := lo) (H := H) (args := [.agg #[.slice sa n cap, iv adv], .slice la m capl, iv g]) (Q := fun w H' => w = .tuple #[iv (hwS us ds g m), iv (haS us adv ds g m), iv (cnt ds g m)] ∧ Keep H H' []) Try.func42 B42 N42 Z42 L42 (by simp) ?_
 ·obtain ⟨w, H', h, rfl, q⟩ := key; exact ⟨H', h, q⟩
 have hk := Keep.refl H []
 have fs := hs.old
 have fd := hd.old
 refine wN_seq <| wN_box (v := .agg #[.slice sa n cap, iv adv]) rfl ?_
 intro H1 kH1 nH1 c1
 have c1 : Cl H1 H.next [.slice sa n cap, iv adv] := c1
 have mH1 := kH1.1
 have hk := hk.trans kH1
 have hs := kH1.sl0 hs
 have hd := kH1.sl0 hd
 refine wN_mov (v := iv 0) rfl <| wN_mov (v := iv 0) rfl <| wN_mov (v := iv 0) rfl <| wN_end <| wN_seq <| wN_mov (v := iv 0) rfl <| wN_mov (v := iv 0) rfl <| wN_mov (v := iv 0) rfl <| wN_end <| wN_seq <| wN_mov (v := iv 0) rfl <| wN_end ?_
 refine loop_low (fn := Try.f42) E42_1 N42 L42x1 (fun i : Nat => [(1, .slice la m capl), (2, iv g), (3, pt H.next), (9, iv (hwS us ds g i)), (10, iv (haS us adv ds g i)), (11, iv (cnt ds g i)), (12, iv (i : Int))])
  (fun k i H' => i + k = m ∧ Keep H H' [] ∧ H1.next ≤ H'.next ∧ Sl H' sa n cap (prc us) ∧ Sl H' la m capl (dlc ds) ∧ Cl H' H.next [.slice sa n cap, iv adv]) m 0 ⟨by omega, hk, by omega, hs, hd, c1⟩ ⟨rfl, rfl, rfl, rfl, rfl, rfl, rfl, trivial⟩ ?_
 rintro k i L1 ⟨hik, hk, hnx, hs, hd, ct⟩
 have mk := hk.1
 refine wN_seq <| wN_mov (v := iv (i : Int)) rfl <| wN_mov (v := .slice la m capl) rfl <| wN_len (m := m) rfl <| wN_c_lss (a := (i : Int)) (b := (m : Int)) rfl rfl <| wN_end ?_
 refine And.intro (fun q1 => ?_) (fun q1 => ?_)
 ·have q1 : (i : Int) < (m : Int) := of_decide_eq_true q1
  have hi : i < m := by omega
  rcases id hd with ⟨_, h0s, _⟩ | ⟨sb, es, rs, _⟩
  ·omega
  have ls := rs.1
  have hdx := okD_of (any_at (z := Dl.z) hdv (show i < ds.length by omega))
  have hwx := wW_in hu (by omega) hdx
  have hax := wA_in hu (by omega) ha1 ha2 hdx
  have htw := tW_in hu (by omega) hdv i (by omega)
  have hta := tA_in hu (by omega) ha1 ha2 hdv i (by omega)
  have hwb := hwS_in (g := g) hu (by omega) hdv i (by omega)
  have hab := haS_in (g := g) hu (by omega) ha1 ha2 hdv i (by omega)
  have hcb := cnt_in (ds := ds) (g := g) i
  first | refine wN_skip ?_ | skip
  refine wN_seq <| wN_mov (v := .slice la m capl) rfl <| wN_mov (v := iv (i : Int)) rfl <| wN_idx (b := sb) (o := 0) (k := i) (j := (i : Int)) (by rw [← es]; rfl) rfl rfl hi <| wN_addo (b := sb) (o := 0 + i * 3) rfl <| wN_ld (b := sb) (o := 0 + i * 3) (v := iv ((ds.getD i Dl.z).r)) rfl rs (dlc_atF (ds := ds) (i := i) (j := 0) (by omega) rfl) <| wN_mov (v := iv g) rfl <| wN_c_eql (a := (ds.getD i Dl.z).r) (b := g) rfl rfl <| wN_end ?_
  refine And.intro (fun q2 => ?_) (fun q2 => ?_)
  ·have q2 : ((ds.getD i Dl.z).r) = g := by simpa using q2
   refine wD_seq <| wD_lda (b := H.next) (o := 0) rfl ct.rd (show row 2 _ _ = some [.slice sa n cap, iv adv] from rfl) <| wD_mov (v := .slice la m capl) rfl <| wD_mov (v := iv (i : Int)) rfl <| wD_idx (b := sb) (o := 0) (k := i) (j := (i : Int)) (by rw [← es]; rfl) rfl rfl hi <| wD_lda (b := sb) (o := 0 + i * 3) rfl rs (dlc_rowF (by omega)) ?_
   obtain ⟨H2, fH2, kH2⟩ := refworth_ok (kn := kn) (lo := lo) (H := L1) (adv := adv) hs hl hn (by omega) hu h0 (d := (ds.getD i Dl.z)) hdx
   refine wD_callf (vs := [.agg #[.slice sa n cap, iv adv], .agg (Dl.f (ds.getD i Dl.z)).toArray]) rfl (callX_args fH2) ?_
   have mH2 := kH2.1
   have hk := hk.trans kH2
   have hs := kH2.sl0 hs
   have hd := kH2.sl0 hd
   have ct := kH2.cl ct (by simp)
   have rs := kH2.rd rs (by simp)
   refine wD_mov (v := .tuple #[iv (wW us (ds.getD i Dl.z)), iv (wI us (ds.getD i Dl.z))]) rfl <| wD_pur (v := iv (wW us (ds.getD i Dl.z))) rfl (by kernel_rfl) <| wD_pur (v := iv (wI us (ds.getD i Dl.z))) rfl (by kernel_rfl) <| wD_mov (v := iv (wW us (ds.getD i Dl.z))) rfl <| wD_mov (v := iv (wI us (ds.getD i Dl.z))) rfl ?_
   refine wD_end (by repeat' first | exact True.intro | exact (fun h => h) | refine And.intro ?_ ?_ | (intro h; have h : (_ : Nat) = _ := h; omega)) ?_
   refine wN_seq <| wN_mov (v := iv (hwS us ds g i)) rfl <| wN_mov (v := iv (wW us (ds.getD i Dl.z))) rfl <| wN_add (a := (hwS us ds g i)) (b := (wW us (ds.getD i Dl.z))) rfl rfl ⟨by omega, by omega⟩ <| wN_mov (v := iv ((hwS us ds g i) + (wW us (ds.getD i Dl.z)))) rfl <| wN_end <| wD_seq <| wD_mov (v := iv (haS us adv ds g i)) rfl <| wD_lda (b := H.next) (o := 0) rfl ct.rd (show row 2 _ _ = some [.slice sa n cap, iv adv] from rfl) <| wD_mov (v := .slice la m capl) rfl <| wD_mov (v := iv (i : Int)) rfl <| wD_idx (b := sb) (o := 0) (k := i) (j := (i : Int)) (by rw [← es]; rfl) rfl rfl hi ?_
   refine wD_lda (b := sb) (o := 0 + i * 3) rfl rs (dlc_rowF (by omega)) ?_
   obtain ⟨H3, fH3, kH3⟩ := refadv_ok (kn := kn) (lo := lo) (H := H2) hs hl hn (by omega) hu h0 ha1 ha2 (d := (ds.getD i Dl.z)) hdx
   refine wD_callf (vs := [.agg #[.slice sa n cap, iv adv], .agg (Dl.f (ds.getD i Dl.z)).toArray]) rfl (callX_args fH3) ?_
   have mH3 := kH3.1
   have hk := hk.trans kH3
   have hs := kH3.sl0 hs
   have hd := kH3.sl0 hd
   have ct := kH3.cl ct (by simp)
   have rs := kH3.rd rs (by simp)
   refine wD_add (a := (haS us adv ds g i)) (b := (wA us adv (ds.getD i Dl.z))) rfl rfl ⟨by omega, by omega⟩ <| wD_mov (v := iv ((haS us adv ds g i) + (wA us adv (ds.getD i Dl.z)))) rfl ?_
   refine wD_end (by repeat' first | exact True.intro | exact (fun h => h) | refine And.intro ?_ ?_ | (intro h; have h : (_ : Nat) = _ := h; omega)) ?_
   first | refine wN_reg ?_ | refine wN_blk ?_ | refine wN_bseq ?_ | (refine wOps_nil ?_; refine wN_reg ?_)
   refine wN_mov (v := iv (cnt ds g i)) rfl <| wN_add (a := (cnt ds g i)) (b := 1) rfl rfl ⟨by omega, by omega⟩ <| wN_mov (v := iv ((cnt ds g i) + 1)) rfl <| wN_end ?_
   first | refine wN_reg ?_ | refine wN_blk ?_ | refine wN_bseq ?_ | (refine wOps_nil ?_; refine wN_reg ?_)
   refine wN_mov (v := iv (i : Int)) rfl <| wN_add (a := (i : Int)) (b := 1) rfl rfl ⟨by omega, by omega⟩ <| wN_mov (v := iv ((i : Int) + 1)) rfl <| wN_end ?_
   have e1 : hwS us ds g (i + 1) = hwS us ds g i + wW us (ds.getD i Dl.z) := by show hwS us ds g i + _ = _; rw [if_pos (by assumption)]
   have e2 : haS us adv ds g (i + 1) = haS us adv ds g i + wA us adv (ds.getD i Dl.z) := by show haS us adv ds g i + _ = _; rw [if_pos (by assumption)]
   have e3 : cnt ds g (i + 1) = cnt ds g i + 1 := by show cnt ds g i + _ = _; rw [if_pos (by assumption)]
   exact ⟨k - 1, i + 1, by omega, ⟨by omega, hk, by omega, hs, hd, ct⟩, rfl, rfl, rfl, (by show some (iv _) = some (iv _); rw [e1]), (by show some (iv _) = some (iv _); rw [e2]), (by show some (iv _) = some (iv _); rw [e3]), rfl, trivial⟩
  ·have q2 : ¬ (((ds.getD i Dl.z).r) = g) := by simpa using q2
   first | refine wN_skip ?_ | skip
   first | refine wN_reg ?_ | refine wN_blk ?_ | refine wN_bseq ?_ | (refine wOps_nil ?_; refine wN_reg ?_)
   refine wN_mov (v := iv (i : Int)) rfl <| wN_add (a := (i : Int)) (b := 1) rfl rfl ⟨by omega, by omega⟩ <| wN_mov (v := iv ((i : Int) + 1)) rfl <| wN_end ?_
   have e1 : hwS us ds g (i + 1) = hwS us ds g i + 0 := by show hwS us ds g i + _ = _; rw [if_neg (by assumption)]
   have e2 : haS us adv ds g (i + 1) = haS us adv ds g i + 0 := by show haS us adv ds g i + _ = _; rw [if_neg (by assumption)]
   have e3 : cnt ds g (i + 1) = cnt ds g i + 0 := by show cnt ds g i + _ = _; rw [if_neg (by assumption)]
   rw [Int.add_zero] at e1 e2 e3
   exact ⟨k - 1, i + 1, by omega, ⟨by omega, hk, by omega, hs, hd, ct⟩, rfl, rfl, rfl, (by show some (iv _) = some (iv _); rw [e1]), (by show some (iv _) = some (iv _); rw [e2]), (by show some (iv _) = some (iv _); rw [e3]), rfl, trivial⟩
 ·have q1 : ¬ ((i : Int) < (m : Int)) := of_decide_eq_false q1
  refine wN_seq <| wN_mov (v := iv (hwS us ds g i)) rfl <| wN_mov (v := iv (haS us adv ds g i)) rfl <| wN_mov (v := iv (cnt ds g i)) rfl <| wN_mov (v := iv (hwS us ds g i)) rfl <| wN_mov (v := iv (haS us adv ds g i)) rfl <| wN_mov (v := iv (cnt ds g i)) rfl <| wN_end ?_
  have e : i = m := by omega
  exact And.intro trivial (Exists.intro _ (And.intro rfl ⟨by rw [e]; rfl, hk⟩))
set_option maxRecDepth 100000 in
theorem refAdvances_ok {us : List Pr} {sa : Option Addr} {n cap : Nat} {adv : Int} (hs : Sl H sa n cap (prc us)) (hl : us.length = n) (hn : n ≤ 1000000) {ds : List Dl} {la : Option Addr} {m capl : Nat} (hd : Sl H la m capl (dlc ds)) (hm : ds.length = m) (hmn : m ≤ 1000000) (hlo : lo ≤ H.next) : ∃ H', FnX Try.prog kn lo 17 [.agg #[.slice sa n cap, iv adv], .slice la m capl] H (.tuple #[iv (avV us adv ds), iv (avE us adv ds)]) H' ∧ Keep H H' [] := by
 have key := fnX_low (kn := kn) (lo := lo) (H := H) (args := [.agg #[.slice sa n cap, iv adv], .slice la m capl]) (Q := fun w H' => w = .tuple #[iv (avV us adv ds), iv (avE us adv ds)] ∧ Keep H H' []) Try.func17 B17 N17 Z17 L17 (by simp) ?_
 ·obtain ⟨w, H', h, rfl, q⟩ := key; exact ⟨H', h, q⟩
 have hk := Keep.refl H []
 have fs := hs.old
 have fd := hd.old
 refine wN_seq <| wN_box (v := .agg #[.slice sa n cap, iv adv]) rfl ?_
 intro H1 kH1 nH1 c1
 have c1 : Cl H1 H.next [.slice sa n cap, iv adv] := c1
 have mH1 := kH1.1
 have hk := hk.trans kH1
 have hs := kH1.sl0 hs
 have hd := kH1.sl0 hd
 refine wN_mov (v := iv 0) rfl <| wN_mov (v := iv 0) rfl <| wN_end <| wN_seq <| wN_lda (b := H.next) (o := 0) rfl c1.rd (show row 2 _ _ = some [.slice sa n cap, iv adv] from rfl) <| wN_callB rfl (refT_ok hs hl hn (by omega)) ?_
 intro tH2 H2 hH2 kH2
 have mH2 := kH2.1
 have hk := hk.trans kH2
 have hs := kH2.sl0 hs
 have hd := kH2.sl0 hd
 have c1 := kH2.cl c1 (by simp)
 cases tH2
 ·have vhH2 : vT us adv = false := hH2
  have qvT := vhH2
  refine wN_pur (v := .bool true) rfl rfl <| wN_mov (v := .bool true) rfl <| wN_gs rfl <| wN_gs rfl <| wN_gs rfl <| wN_pur (v := .bool true) rfl rfl <| wN_end <| condT <| wN_seq <| wN_mov (v := iv 0) rfl <| wN_mov (v := iv 1) rfl <| wN_end ?_
  exact And.intro trivial (Exists.intro _ (And.intro rfl ⟨by unfold avV avE; first | (rw [qvT]; rfl) | (rw [qvD]; simp; rfl) | (simp only [qvT, qvD]; rfl), hk⟩))
 ·have vhH2 : vT us adv = true := hH2
  obtain ⟨h0x, h8, hu, ha1, ha2⟩ := vT_t vhH2
  have h0 : 0 < n := by omega
  have qvT := vhH2
  refine wN_pur (v := .bool false) rfl rfl <| wN_mov (v := .bool false) rfl ?_
  refine wN_g rfl (wN_mov (v := .slice la m capl) rfl ?_)
  refine wN_g rfl (wN_callB rfl (refvD_ok hd hm hmn (by omega)) ?_)
  intro tH3 H3 hH3 kH3
  have mH3 := kH3.1
  have hk := hk.trans kH3
  have hs := kH3.sl0 hs
  have hd := kH3.sl0 hd
  have c1 := kH3.cl c1 (by simp)
  cases tH3
  ·have vhH3 : vD ds = false := hH3
   have qvD := vhH3
   refine wN_g rfl (wN_pur (v := .bool true) rfl rfl ?_)
   refine wN_pur (v := .bool true) rfl rfl <| wN_end <| condT <| wN_seq <| wN_mov (v := iv 0) rfl <| wN_mov (v := iv 1) rfl <| wN_end ?_
   exact And.intro trivial (Exists.intro _ (And.intro rfl ⟨by unfold avV avE; first | (rw [qvT]; rfl) | (rw [qvD]; simp; rfl) | (simp only [qvT, qvD]; rfl), hk⟩))
  ·have vhH3 : vD ds = true := hH3
   obtain ⟨hm8, hdv⟩ := vD_t vhH3
   have qvD := vhH3
   refine wN_g rfl (wN_pur (v := .bool false) rfl rfl ?_)
   refine wN_pur (v := .bool false) rfl rfl <| wN_end <| condF ?_
   first | refine wN_skip ?_ | skip
   refine wN_seq <| wN_mov (v := iv 0) rfl <| wN_end <| wN_seq <| wN_mov (v := iv 0) rfl <| wN_end ?_
   refine loop_low (fn := Try.f17) E17_1 N17 L17x1 (fun i : Nat => [(1, .slice la m capl), (2, pt H.next), (6, iv (tA us adv ds i)), (7, iv (i : Int))])
    (fun k i H' => i + k = m ∧ Keep H H' [] ∧ H1.next ≤ H'.next ∧ Sl H' sa n cap (prc us) ∧ Sl H' la m capl (dlc ds) ∧ Cl H' H.next [.slice sa n cap, iv adv]) m 0 ⟨by omega, hk, by omega, hs, hd, c1⟩ ⟨rfl, rfl, rfl, rfl, trivial⟩ ?_
   rintro k i L1 ⟨hik, hk, hnx, hs, hd, ct⟩
   have mk := hk.1
   refine wN_seq <| wN_mov (v := iv (i : Int)) rfl <| wN_mov (v := .slice la m capl) rfl <| wN_len (m := m) rfl <| wN_c_lss (a := (i : Int)) (b := (m : Int)) rfl rfl <| wN_end ?_
   refine And.intro (fun q1 => ?_) (fun q1 => ?_)
   ·have q1 : (i : Int) < (m : Int) := of_decide_eq_true q1
    have hi : i < m := by omega
    rcases id hd with ⟨_, h0s, _⟩ | ⟨sb, es, rs, _⟩
    ·omega
    have ls := rs.1
    have hdx := okD_of (any_at (z := Dl.z) hdv (show i < ds.length by omega))
    have hwx := wW_in hu (by omega) hdx
    have hax := wA_in hu (by omega) ha1 ha2 hdx
    have htw := tW_in hu (by omega) hdv i (by omega)
    have hta := tA_in hu (by omega) ha1 ha2 hdv i (by omega)
    first | refine wN_skip ?_ | skip
    first | refine wD_dreg ?_ | refine wB_dreg ?_ | refine wB_seq ?_ | (refine wOps_nil ?_; refine wD_dreg ?_)
    refine wD_mov (v := iv (tA us adv ds i)) rfl <| wD_lda (b := H.next) (o := 0) rfl ct.rd (show row 2 _ _ = some [.slice sa n cap, iv adv] from rfl) <| wD_mov (v := .slice la m capl) rfl <| wD_mov (v := iv (i : Int)) rfl <| wD_idx (b := sb) (o := 0) (k := i) (j := (i : Int)) (by rw [← es]; rfl) rfl rfl hi <| wD_lda (b := sb) (o := 0 + i * 3) rfl rs (dlc_rowF (by omega)) ?_
    obtain ⟨H4, fH4, kH4⟩ := refadv_ok (kn := kn) (lo := lo) (H := L1) hs hl hn (by omega) hu h0 ha1 ha2 (d := (ds.getD i Dl.z)) hdx
    refine wD_callf (vs := [.agg #[.slice sa n cap, iv adv], .agg (Dl.f (ds.getD i Dl.z)).toArray]) rfl (callX_args fH4) ?_
    have mH4 := kH4.1
    have hk := hk.trans kH4
    have hs := kH4.sl0 hs
    have hd := kH4.sl0 hd
    have ct := kH4.cl ct (by simp)
    have rs := kH4.rd rs (by simp)
    refine wD_add (a := (tA us adv ds i)) (b := (wA us adv (ds.getD i Dl.z))) rfl rfl ⟨by omega, by omega⟩ <| wD_mov (v := iv ((tA us adv ds i) + (wA us adv (ds.getD i Dl.z)))) rfl ?_
    refine wD_end (by repeat' first | exact True.intro | exact (fun h => h) | refine And.intro ?_ ?_ | (intro h; have h : (_ : Nat) = _ := h; omega)) ?_
    first | refine wN_reg ?_ | refine wN_blk ?_ | refine wN_bseq ?_ | (refine wOps_nil ?_; refine wN_reg ?_)
    refine wN_mov (v := iv (i : Int)) rfl <| wN_add (a := (i : Int)) (b := 1) rfl rfl ⟨by omega, by omega⟩ <| wN_mov (v := iv ((i : Int) + 1)) rfl <| wN_end ?_
    exact ⟨k - 1, i + 1, by omega, ⟨by omega, hk, by omega, hs, hd, ct⟩, rfl, rfl, rfl, rfl, trivial⟩
   ·have q1 : ¬ ((i : Int) < (m : Int)) := of_decide_eq_false q1
    refine wN_seq <| wN_mov (v := iv (tA us adv ds i)) rfl <| wN_mov (v := iv (tA us adv ds i)) rfl <| wN_mov (v := iv 0) rfl <| wN_end ?_
    have e : i = m := by omega
    exact And.intro trivial (Exists.intro _ (And.intro rfl ⟨by unfold avV avE; rw [qvT, qvD]; show Value.tuple #[iv _, iv 0] = _; rw [e, ← hm]; rfl, hk⟩))
end
end
end Go.Ax

/-
 Pool: the document's Settle, Break; lists of payments compared (written by program).
-/
namespace Go.Ax
open Go Go.RowKit Go.Proofs

noncomputable section
theorem eq_struct {P : Program} {d : Nat} {t : TypeId} {xs ys : Array Value} {fs : Array Field} (hu : prun P (underlying t) = some (.struct fs)) (hp : P.stoodInHeld t = false) (g : Field → Bool)
  (hf : ∀ f ∈ fs.toList, f.name ≠ "_" ∧ ∃ u v, prun P (part f.type xs f.offset) = some u ∧ prun P (part f.type ys f.offset) = some v ∧ prun P (Op.equalIn d f.type u v) = some (g f)) :
  prun P (Op.equalIn (d + 1) t (.agg xs) (.agg ys)) = some (fs.toList.all g) := by
 simp only [Op.equalIn, pr_bind, hu, Option.bind_some, show prun P program = some P from rfl, hp, Bool.false_eq_true, if_false]
 rw [← Array.forIn_toList]
 generalize fs.toList = l at hf
 induction l with
 | nil => rfl
 | cons f l ih =>
  obtain ⟨hn, u, v, h1, h2, h3⟩ := hf f (by simp)
  have ih := ih (fun g hg => hf g (by simp [hg]))
  simp only [List.forIn_cons, pr_bind, pr_ite]
  rw [if_pos hn]
  cases hg : g f with
  | true =>
   simp only [h1, h2, h3, hg, Option.bind_some, Bool.not_true, Bool.false_eq_true, if_false, pr_pure, List.all_cons, Bool.true_and]
   exact ih
  | false =>
   simp only [h1, h2, h3, hg, Option.bind_some, Bool.not_false, if_true, pr_pure, List.all_cons, Bool.false_and]
theorem eq_int {d : Nat} {x y : Int} : prun Try.prog (Op.equalIn (d + 1) 3 (iv x) (iv y)) = some (decide (x = y)) := by
 have h : prun Try.prog (Op.equalIn (d + 1) 3 (iv x) (iv y)) = some (x == y) := by kernel_rfl
 rw [h]
 by_cases e : x = y <;> simp [e]
def fldsIn (P : Program) (t : TypeId) : Array Field :=
 match P.underlying t with
 | some (.struct fs) => fs
 | _ => #[]
theorem all_map {β γ : Type} (l : List β) (f : β → γ) (g : γ → Bool) : l.all (fun x => g (f x)) = (l.map f).all g := by
 induction l with
 | nil => rfl
 | cons a l ih => simp [ih]
theorem und50 : Try.prog.underlying 50 = some (.struct (fldsIn Try.prog 50)) := by kernel_rfl
theorem fs50 : (fldsIn Try.prog 50).toList.map (fun f => (f.type, f.offset, f.name == "_")) = [(3, 0, false), (3, 1, false), (3, 2, false), (3, 3, false), (3, 4, false)] := by kernel_rfl
theorem st50 : Program.stoodInHeld Try.prog 50 = false := by kernel_rfl
set_option maxRecDepth 100000 in
theorem eq50 {d : Nat} (a b c e f : Int) : prun Try.prog (Op.equalIn (d + 2) 50 (.agg #[iv a, iv b, iv c, iv e, iv f]) (.agg #[iv a, iv b, iv c, iv e, iv f])) = some true := by
 have h := eq_struct (d := d + 1) (xs := #[iv a, iv b, iv c, iv e, iv f]) (ys := #[iv a, iv b, iv c, iv e, iv f]) (pr_under und50) st50 (fun _ => true) (by
   intro q hq
   have h : (q.type, q.offset, q.name == "_") ∈ [(3, 0, false), (3, 1, false), (3, 2, false), (3, 3, false), (3, 4, false)] := by rw [← fs50]; exact List.mem_map.mpr ⟨q, hq, rfl⟩
   simp only [List.mem_cons, List.not_mem_nil, or_false, Prod.mk.injEq] at h
   have one : ∀ x : Int, prun Try.prog (Op.equalIn (d + 1) 3 (iv x) (iv x)) = some true := fun x => by rw [eq_int]; simp
   rcases h with ⟨h1, h2, h3⟩ | ⟨h1, h2, h3⟩ | ⟨h1, h2, h3⟩ | ⟨h1, h2, h3⟩ | ⟨h1, h2, h3⟩ <;> (refine ⟨by intro e; rw [e] at h3; simp at h3, ?_⟩; rw [h1, h2])
   ·exact ⟨iv a, iv a, by kernel_rfl, by kernel_rfl, one a⟩
   ·exact ⟨iv b, iv b, by kernel_rfl, by kernel_rfl, one b⟩
   ·exact ⟨iv c, iv c, by kernel_rfl, by kernel_rfl, one c⟩
   ·exact ⟨iv e, iv e, by kernel_rfl, by kernel_rfl, one e⟩
   ·exact ⟨iv f, iv f, by kernel_rfl, by kernel_rfl, one f⟩)
 rw [show d + 2 = d + 1 + 1 from rfl, h]
 simp
set_option maxRecDepth 100000 in
theorem neq50 {n : Nat} {S : Rg} {d : Option Tmp} {x y : Operand} {p : String} {ty : TypeId} {a b c e f : Int} (hx : evS S x = some (.agg #[iv a, iv b, iv c, iv e, iv f])) (hy : evS S y = some (.agg #[iv a, iv b, iv c, iv e, iv f])) : pureOp Try.prog (frS n S) ⟨d, .binOp .neq 50 x y 50, ty, p, #[], none⟩ = some (.bool false) := by
 have key : prun Try.prog (do eqGuard .neq 50 x y (.agg #[iv a, iv b, iv c, iv e, iv f]) (.agg #[iv a, iv b, iv c, iv e, iv f]); binOp .neq 50 (.agg #[iv a, iv b, iv c, iv e, iv f]) (.agg #[iv a, iv b, iv c, iv e, iv f])) = some (.bool false) := by
  rw [pr_bind, show prun Try.prog (eqGuard .neq 50 x y (.agg #[iv a, iv b, iv c, iv e, iv f]) (.agg #[iv a, iv b, iv c, iv e, iv f])) = some () from by kernel_rfl, Option.bind_some]
  show prun Try.prog (do pure (Value.bool (!(← Op.equalIn (9998 + 2) 50 (.agg #[iv a, iv b, iv c, iv e, iv f]) (.agg #[iv a, iv b, iv c, iv e, iv f]))))) = _
  rw [pr_bind, eq50]; rfl
 unfold pureOp
 simp only [ev_frS, hx, hy, show flat (.agg #[iv a, iv b, iv c, iv e, iv f]) = true from rfl, Bool.and_self, cond_true, key]
 rfl
theorem grU_len2 {ds : List Dl} (k : Nat) : (grU ds k).length ≤ ds.length := by
 have hn : (grU ds k).Nodup := by
  unfold grU
  refine List.Pairwise.filter _ ?_
  exact (List.pairwise_map.2 (List.Pairwise.imp (fun h => by omega) List.pairwise_lt_range))
 have := nodup_len (L := ds.map (·.r)) hn fun x hx => by
  unfold grU at hx
  rw [List.mem_filter, List.any_eq_true] at hx
  obtain ⟨_, d, hd, e⟩ := hx
  exact List.mem_map.2 ⟨d, hd, by simpa using e⟩
 rwa [List.length_map] at this
theorem grU_all {ds : List Dl} : grU ds 1024 = grl ds := by unfold grU grl; rfl
theorem bk_iff {w all wanted k : Int} (hw : 0 < w) (hall : w ≤ all) : (shr k w all ≥ wanted ↔ wanted * all ≤ k * w) := by
 unfold shr
 rw [if_neg (by omega)]
 exact Int.le_ediv_iff_mul_le (by omega)
theorem bk_least {w P q : Int} (hw : 0 < w) (hq : q = (P + w - 1) / w) : (∀ k, q ≤ k → P ≤ k * w) ∧ ∀ k, k < q → k * w < P := by
 have h1 : w * q ≤ P + w - 1 := by rw [hq]; exact Int.mul_ediv_self_le (by omega)
 have h2 : P + w - 1 < w * q + w := by rw [hq]; exact Int.lt_mul_ediv_self_add hw
 rw [Int.mul_comm] at h1 h2
 refine ⟨fun k hk => ?_, fun k hk => ?_⟩
 ·have := Int.mul_le_mul_of_nonneg_right hk (show 0 ≤ w by omega)
  omega
 ·have := Int.mul_le_mul_of_nonneg_right (show k ≤ q - 1 by omega) (show 0 ≤ w by omega)
  rw [Int.sub_mul] at this
  omega
section
variable {kn : Kn} {lo : Nat} {H : Hp}
set_option maxRecDepth 100000 in
set_option maxHeartbeats 1000000 in
theorem refSettle_ok {us : List Pr} {sa : Option Addr} {n cap : Nat} {adv : Int} (hs : Sl H sa n cap (prc us)) (hl : us.length = n) (hn : n ≤ 1000000) {ds : List Dl} {la : Option Addr} {m capl : Nat} (hd : Sl H la m capl (dlc ds)) (hm : ds.length = m) (hmn : m ≤ 1000000) (hlo : lo ≤ H.next) {rev : Int} : ∃ pv H', FnX Try.prog kn lo 19 [.agg #[.slice sa n cap, iv adv], .slice la m capl, iv rev] H (.tuple #[pv, iv (stK us adv ds rev), iv (stE us adv ds rev)]) H' ∧ Acc lo H.next 50 H' pv (stL us adv ds rev).length (plc us adv ds rev (stL us adv ds rev)) ∧ Keep H H' [] := by
 have key := fnX_low (kn := kn) (lo := lo) (H := H) (args := [.agg #[.slice sa n cap, iv adv], .slice la m capl, iv rev]) (Q := fun w H' => ∃ pv, w = .tuple #[pv, iv (stK us adv ds rev), iv (stE us adv ds rev)] ∧ Acc lo H.next 50 H' pv (stL us adv ds rev).length (plc us adv ds rev (stL us adv ds rev)) ∧ Keep H H' []) Try.func19 B19 N19 Z19 L19 (by simp) ?_
 ·obtain ⟨w, H', h, pv, rfl, r⟩ := key; exact ⟨pv, H', h, r⟩
 have hk := Keep.refl H []
 have fs := hs.old
 have fd := hd.old
 refine wN_seq <| wN_box (v := .agg #[.slice sa n cap, iv adv]) rfl ?_
 intro H1 kH1 nH1 c1
 have c1 : Cl H1 H.next [.slice sa n cap, iv adv] := c1
 have mH1 := kH1.1
 have hk := hk.trans kH1
 have hs := kH1.sl0 hs
 have hd := kH1.sl0 hd
 refine wN_mov (v := .slice none 0 0) rfl <| wN_mov (v := iv 0) rfl <| wN_mov (v := iv 0) rfl <| wN_end <| wN_seq <| wN_lda (b := H.next) (o := 0) rfl c1.rd (show row 2 _ _ = some [.slice sa n cap, iv adv] from rfl) <| wN_callB rfl (refT_ok hs hl hn (by omega)) ?_
 intro tH2 H2 hH2 kH2
 have mH2 := kH2.1
 have hk := hk.trans kH2
 have hs := kH2.sl0 hs
 have hd := kH2.sl0 hd
 have c1 := kH2.cl c1 (by simp)
 cases tH2
 ·have vhH2 : vT us adv = false := hH2
  have qvT := vhH2
  refine wN_pur (v := .bool true) rfl rfl <| wN_mov (v := .bool true) rfl <| wN_gs rfl <| wN_gs rfl <| wN_gs rfl <| wN_pur (v := .bool true) rfl rfl <| wN_end <| condT <| wN_seq <| wN_mov (v := .slice none 0 0) rfl <| wN_mov (v := iv 0) rfl <| wN_mov (v := iv 1) rfl ?_
  refine wN_end ?_
  exact And.intro trivial (Exists.intro _ (And.intro rfl ⟨.slice none 0 0, by unfold stK stE; rw [if_neg (by first | (rw [qvT]; simp; done) | (rw [qvD]; simp; done) | (rw [qrv]; simp; done))]; rw [if_neg (by first | (rw [qvT]; simp; done) | (rw [qvD]; simp; done) | (rw [qrv]; simp; done))]; rfl, by unfold stL; rw [if_neg (by first | (rw [qvT]; simp; done) | (rw [qvD]; simp; done) | (rw [qrv]; simp; done))]; exact .inl ⟨rfl, rfl, rfl⟩, hk⟩))
 ·have vhH2 : vT us adv = true := hH2
  obtain ⟨h0x, h8, hu, ha1, ha2⟩ := vT_t vhH2
  have h0 : 0 < n := by omega
  have qvT := vhH2
  refine wN_pur (v := .bool false) rfl rfl <| wN_mov (v := .bool false) rfl ?_
  refine wN_g rfl (wN_mov (v := .slice la m capl) rfl ?_)
  refine wN_g rfl (wN_callB rfl (refvD_ok hd hm hmn (by omega)) ?_)
  intro tH3 H3 hH3 kH3
  have mH3 := kH3.1
  have hk := hk.trans kH3
  have hs := kH3.sl0 hs
  have hd := kH3.sl0 hd
  have c1 := kH3.cl c1 (by simp)
  cases tH3
  ·have vhH3 : vD ds = false := hH3
   have qvD := vhH3
   refine wN_g rfl (wN_pur (v := .bool true) rfl rfl ?_)
   refine wN_pur (v := .bool true) rfl rfl <| wN_end <| condT <| wN_seq <| wN_mov (v := .slice none 0 0) rfl <| wN_mov (v := iv 0) rfl <| wN_mov (v := iv 1) rfl <| wN_end ?_
   exact And.intro trivial (Exists.intro _ (And.intro rfl ⟨.slice none 0 0, by unfold stK stE; rw [if_neg (by first | (rw [qvT]; simp; done) | (rw [qvD]; simp; done) | (rw [qrv]; simp; done))]; rw [if_neg (by first | (rw [qvT]; simp; done) | (rw [qvD]; simp; done) | (rw [qrv]; simp; done))]; rfl, by unfold stL; rw [if_neg (by first | (rw [qvT]; simp; done) | (rw [qvD]; simp; done) | (rw [qrv]; simp; done))]; exact .inl ⟨rfl, rfl, rfl⟩, hk⟩))
  ·have vhH3 : vD ds = true := hH3
   obtain ⟨hm8, hdv⟩ := vD_t vhH3
   have qvD := vhH3
   refine wN_g rfl (wN_pur (v := .bool false) rfl rfl ?_)
   refine wN_pur (v := .bool false) rfl rfl <| wN_end <| condF ?_
   first | refine wN_skip ?_ | skip
   refine wN_seq <| wN_mov (v := iv rev) rfl <| wN_callB rfl (in35_ok) ?_
   intro tH4 H4 hH4 kH4
   have mH4 := kH4.1
   have hk := hk.trans kH4
   have hs := kH4.sl0 hs
   have hd := kH4.sl0 hd
   have c1 := kH4.cl c1 (by simp)
   cases tH4
   ·have qrv : inB rev 0 1073741824 = false := hH4
    have hrv := inB_f qrv
    refine wN_pur (v := .bool true) rfl rfl <| wN_end <| condT <| wN_seq <| wN_mov (v := .slice none 0 0) rfl <| wN_mov (v := iv 0) rfl <| wN_mov (v := iv 2) rfl <| wN_end ?_
    exact And.intro trivial (Exists.intro _ (And.intro rfl ⟨.slice none 0 0, by unfold stK stE; rw [if_neg (by first | (rw [qvT]; simp; done) | (rw [qvD]; simp; done) | (rw [qrv]; simp; done))]; rw [if_pos (by rw [qvT, qvD]; rfl), if_neg (by rw [qrv]; simp)]; rfl, by unfold stL; rw [if_neg (by first | (rw [qvT]; simp; done) | (rw [qvD]; simp; done) | (rw [qrv]; simp; done))]; exact .inl ⟨rfl, rfl, rfl⟩, hk⟩))
   ·have qrv : inB rev 0 1073741824 = true := hH4
    have hrv := inB_t qrv
    refine wN_pur (v := .bool false) rfl rfl <| wN_end <| condF ?_
    first | refine wN_skip ?_ | skip
    refine wN_seq <| wN_lda (b := H.next) (o := 0) rfl c1.rd (show row 2 _ _ = some [.slice sa n cap, iv adv] from rfl) <| wN_mov (v := .slice la m capl) rfl ?_
    obtain ⟨H5, fH5, kH5⟩ := reftotal_ok (kn := kn) (lo := lo) (H := H4) hs hl hn hd hm (by omega) hu h0 ha1 ha2 (by omega) hdv
    refine wN_callf (vs := [.agg #[.slice sa n cap, iv adv], .slice la m capl]) rfl (callX_args fH5) ?_
    have mH5 := kH5.1
    have hk := hk.trans kH5
    have hs := kH5.sl0 hs
    have hd := kH5.sl0 hd
    have c1 := kH5.cl c1 (by simp)
    refine wN_mov (v := iv (tW us ds m)) rfl <| wN_end <| wN_seq <| wN_mov (v := iv rev) rfl <| wN_mov (v := iv rev) rfl <| wN_end <| wN_seq <| wN_mov (v := .slice none 0 0) rfl <| wN_end <| wN_seq <| wN_mov (v := iv 0) rfl <| wN_end ?_
    refine loop_low (fn := Try.f19) E19_1 N19 L19x1 (fun x : Nat × Value => [(1, .slice la m capl), (2, iv rev), (3, pt H.next), (9, iv (tW us ds m)), (10, iv (rev - sumK (fun g => shr rev (hwS us ds g ds.length) (tW us ds ds.length)) (grU ds x.1))), (11, x.2), (12, iv (x.1 : Int))])
     (fun k x H' => x.1 + k = 1024 ∧ Keep H H' [] ∧ H5.next ≤ H'.next ∧ Sl H' sa n cap (prc us) ∧ Sl H' la m capl (dlc ds) ∧ Cl H' H.next [.slice sa n cap, iv adv] ∧ Acc lo H5.next 50 H' x.2 (grU ds x.1).length (plc us adv ds rev (grU ds x.1))) 1024 (0, .slice none 0 0) ⟨rfl, hk, Nat.le_refl _, hs, hd, c1, .inl ⟨rfl, rfl, rfl⟩⟩ ⟨rfl, rfl, rfl, rfl, (by show some (iv _) = some (iv _); simp [sumK, grU]), rfl, rfl, trivial⟩ ?_
    rintro k ⟨i, wv⟩ L1 ⟨hik, hk, hnx, hs, hd, ct, hacc⟩
    simp only [] at hik hacc
    have mk := hk.1
    have kacc := Keep.refl L1 []
    have hbk := bkv_in hacc
    refine wN_seq <| wN_mov (v := iv (i : Int)) rfl <| wN_c_leq (a := (i : Int)) (b := 1023) rfl rfl <| wN_end ?_
    refine And.intro (fun q1 => ?_) (fun q1 => ?_)
    ·have q1 : (i : Int) ≤ 1023 := of_decide_eq_true q1
     have hi : i < 1024 := by omega
     have hul := grU_len2 (ds := ds) i
     have hsum := sumK_in (f := (fun g => shr rev (hwS us ds g ds.length) (tW us ds ds.length))) (M := 1073741824) (l := grU ds i) fun g _ => by have a := hwS_in (g := g) hu (by omega) hdv ds.length (Nat.le_refl _); have b := shr_in hrv.1 hrv.2 a.1 (hw_le_tW hu (by omega) hdv g ds.length (Nat.le_refl _)); exact ⟨b.1, by show shr rev (hwS us ds g ds.length) (tW us ds ds.length) ≤ 1073741824; omega⟩
     first | refine wN_skip ?_ | skip
     refine wN_seq <| wN_lda (b := H.next) (o := 0) rfl ct.rd (show row 2 _ _ = some [.slice sa n cap, iv adv] from rfl) <| wN_mov (v := .slice la m capl) rfl <| wN_mov (v := iv (i : Int)) rfl ?_
     obtain ⟨H6, fH6, kH6⟩ := refof_ok (kn := kn) (lo := lo) (H := L1) hs hl hn hd hm (by omega) hu h0 ha1 ha2 (by omega) hdv (g := (i : Int))
     have hcz := cnt_grl hdv (g := (i : Int))
     rw [hm] at hcz
     have hwb := hwS_in (g := (i : Int)) hu (by omega) hdv m (by omega)
     have hab := haS_in (g := (i : Int)) hu (by omega) ha1 ha2 hdv m (by omega)
     have hcb := cnt_in (ds := ds) (g := (i : Int)) m
     have hle := hw_le_tW hu (by omega) hdv (i : Int) m (by omega)
     have htb := tW_in hu (by omega) hdv m (by omega)
     refine wN_callf (vs := [.agg #[.slice sa n cap, iv adv], .slice la m capl, iv (i : Int)]) rfl (callX_args fH6) ?_
     have mH6 := kH6.1
     have hk := hk.trans kH6
     have kacc := kacc.trans kH6
     have hs := kH6.sl0 hs
     have hd := kH6.sl0 hd
     have ct := kH6.cl ct (by simp)
     refine wN_mov (v := .tuple #[iv (hwS us ds (i : Int) m), iv (haS us adv ds (i : Int) m), iv (cnt ds (i : Int) m)]) rfl <| wN_pur (v := iv (hwS us ds (i : Int) m)) rfl (by kernel_rfl) <| wN_pur (v := iv (haS us adv ds (i : Int) m)) rfl (by kernel_rfl) <| wN_pur (v := iv (cnt ds (i : Int) m)) rfl (by kernel_rfl) <| wN_mov (v := iv (hwS us ds (i : Int) m)) rfl <| wN_mov (v := iv (haS us adv ds (i : Int) m)) rfl <| wN_mov (v := iv (cnt ds (i : Int) m)) rfl <| wN_end <| wN_seq <| wN_mov (v := iv (cnt ds (i : Int) m)) rfl <| wN_c_eql (a := (cnt ds (i : Int) m)) (b := 0) rfl rfl <| wN_end ?_
     refine And.intro (fun q2 => ?_) (fun q2 => ?_)
     ·have q2 : (cnt ds (i : Int) m) = 0 := by simpa using q2
      first | (refine wN_exit ?_; show wC _ _ _ _ _ _ _ _ _) | skip
      first | refine wN_reg ?_ | refine wN_blk ?_ | refine wN_bseq ?_ | (refine wOps_nil ?_; refine wN_reg ?_)
      refine wN_mov (v := iv (i : Int)) rfl <| wN_add (a := (i : Int)) (b := 1) rfl rfl ⟨by omega, by omega⟩ <| wN_mov (v := iv ((i : Int) + 1)) rfl <| wN_end ?_
      have hgu : grU ds (i + 1) = grU ds i := by rw [grU_step hdv (by omega), if_neg (hcz.1 (by omega)), List.append_nil]
      exact ⟨k - 1, (i + 1, wv), by omega, ⟨by simp only []; omega, hk, by omega, hs, hd, ct, by simp only []; rw [hgu]; exact hacc.keep kacc⟩, rfl, rfl, rfl, rfl, (by show some (iv _) = some (iv _); rw [hgu]), rfl, rfl, trivial⟩
     ·have q2 : ¬ ((cnt ds (i : Int) m) = 0) := by simpa using q2
      first | refine wN_skip ?_ | skip
      refine wN_seq <| wN_mov (v := iv rev) rfl <| wN_mov (v := iv (hwS us ds (i : Int) m)) rfl <| wN_mov (v := iv (tW us ds m)) rfl ?_
      have hsb := shr_in hrv.1 hrv.2 hwb.1 hle
      obtain ⟨H7, fH7, kH7⟩ := refshare_ok (kn := kn) (lo := lo) (H := H6) (rev := rev) (x := (hwS us ds (i : Int) m)) (all := tW us ds m) (by omega) (by omega) (by omega) (by omega) (by omega) (by omega)
      refine wN_callf rfl (callX_args fH7) ?_
      have mH7 := kH7.1
      have hk := hk.trans kH7
      have kacc := kacc.trans kH7
      have hs := kH7.sl0 hs
      have hd := kH7.sl0 hd
      have ct := kH7.cl ct (by simp)
      refine wN_mov (v := iv (shr rev (hwS us ds (i : Int) m) (tW us ds m))) rfl <| wN_end <| wN_seq <| wN_mov (v := iv (rev - sumK (fun g => shr rev (hwS us ds g ds.length) (tW us ds ds.length)) (grU ds i))) rfl <| wN_mov (v := iv (shr rev (hwS us ds (i : Int) m) (tW us ds m))) rfl <| wN_sub (a := (rev - sumK (fun g => shr rev (hwS us ds g ds.length) (tW us ds ds.length)) (grU ds i))) (b := (shr rev (hwS us ds (i : Int) m) (tW us ds m))) rfl rfl ⟨by omega, by omega⟩ <| wN_mov (v := iv ((rev - sumK (fun g => shr rev (hwS us ds g ds.length) (tW us ds ds.length)) (grU ds i)) - (shr rev (hwS us ds (i : Int) m) (tW us ds m)))) rfl <| wN_end ?_
      first | refine wN_reg ?_ | refine wN_blk ?_ | refine wN_bseq ?_ | (refine wOps_nil ?_; refine wN_reg ?_)
      refine wN_mov (v := wv) rfl <| wN_mov (v := iv (i : Int)) rfl <| wN_mov (v := iv (hwS us ds (i : Int) m)) rfl <| wN_mov (v := iv (haS us adv ds (i : Int) m)) rfl <| wN_mov (v := iv (shr rev (hwS us ds (i : Int) m) (tW us ds m))) rfl <| wN_mov (v := iv (shr rev (hwS us ds (i : Int) m) (tW us ds m))) rfl <| wN_mov (v := iv (haS us adv ds (i : Int) m)) rfl <| wN_sub (a := (shr rev (hwS us ds (i : Int) m) (tW us ds m))) (b := (haS us adv ds (i : Int) m)) rfl rfl ⟨by omega, by omega⟩ <| wN_pur (v := .agg #[iv (i : Int), iv (hwS us ds (i : Int) m), iv (haS us adv ds (i : Int) m), iv (shr rev (hwS us ds (i : Int) m) (tW us ds m)), iv ((shr rev (hwS us ds (i : Int) m) (tW us ds m)) - (haS us adv ds (i : Int) m))]) rfl (by kernel_rfl) ?_
      obtain ⟨H8, hH8⟩ : ∃ H8, H7.new (.cells [iv (i : Int), iv (hwS us ds (i : Int) m), iv (haS us adv ds (i : Int) m), iv (shr rev (hwS us ds (i : Int) m) (tW us ds m)), iv ((shr rev (hwS us ds (i : Int) m) (tW us ds m)) - (haS us adv ds (i : Int) m))] 50 false) = H8 := ⟨_, rfl⟩
      refine wN_memh (H' := H8) (k := .heavy) rfl (by kernel_rfl) ((heap_build1 (v := .agg #[iv (i : Int), iv (hwS us ds (i : Int) m), iv (haS us adv ds (i : Int) m), iv (shr rev (hwS us ds (i : Int) m) (tW us ds m)), iv ((shr rev (hwS us ds (i : Int) m) (tW us ds m)) - (haS us adv ds (i : Int) m))]) se37 zo50 rfl rfl rfl (by decide)).trans (by rw [← hH8]; rfl)) (fun b e => by cases e) ?_
      obtain ⟨kH8, nH8, c8⟩ := new_facts hH8; clear hH8
      have c8 : Cl H8 H7.next [iv (i : Int), iv (hwS us ds (i : Int) m), iv (haS us adv ds (i : Int) m), iv (shr rev (hwS us ds (i : Int) m) (tW us ds m)), iv ((shr rev (hwS us ds (i : Int) m) (tW us ds m)) - (haS us adv ds (i : Int) m))] := c8
      have mH8 := kH8.1
      have hk := hk.trans kH8
      have kacc := kacc.trans kH8
      have hs := kH8.sl0 hs
      have hd := kH8.sl0 hd
      have ct := kH8.cl ct (by simp)
      obtain ⟨H9, kdH9, eH9, dH9, aH9, kbH9⟩ := heap_append_out (P := Try.prog) (lo := lo) (k := (grU ds i).length) (t1 := 37) se37 un37 (c8.sl (Nat.le_refl 1)) rfl (by decide) rfl (plc_len _) (by omega) (hacc.keep kacc) (by omega) (by omega)
      refine wN_memh (k := kdH9) rfl (by cases wv <;> kernel_rfl) (eH9 _ _ _ _ _ _ _ rfl rfl) (reg_ok dH9 _) ?_
      have hk := hk.new kbH9 (fun b hb => .inr (by have := hbk _ hb; omega))
      have hs := kbH9.sl hs (fun b e hx => by have := fs b e; have := hbk _ hx; omega)
      have hd := kbH9.sl hd (fun b e hx => by have := fd b e; have := hbk _ hx; omega)
      have ct := kbH9.cl ct (fun hx => by have := hbk _ hx; omega)
      have mH9 := kbH9.1
      refine wN_mov (v := .slice (some ⟨H8.next, 0, none⟩) ((grU ds i).length + 1) ((grU ds i).length + 1)) rfl <| wN_end ?_
      first | refine wN_reg ?_ | refine wN_blk ?_ | refine wN_bseq ?_ | (refine wOps_nil ?_; refine wN_reg ?_)
      refine wN_mov (v := iv (i : Int)) rfl <| wN_add (a := (i : Int)) (b := 1) rfl rfl ⟨by omega, by omega⟩ <| wN_mov (v := iv ((i : Int) + 1)) rfl <| wN_end ?_
      have hin : (i : Int) ∈ grl ds := Classical.byContradiction fun q => absurd (hcz.2 q) (by omega)
      have hgu : grU ds (i + 1) = grU ds i ++ [(i : Int)] := by rw [grU_step hdv (by omega), if_pos hin]
      have hgl : (grU ds (i + 1)).length = (grU ds i).length + 1 := by rw [hgu, List.length_append]; rfl
      have hacc2 : Acc lo H5.next 50 H9 (.slice (some ⟨H8.next, 0, none⟩) ((grU ds i).length + 1) ((grU ds i).length + 1)) (grU ds (i + 1)).length (plc us adv ds rev (grU ds (i + 1))) := by rw [hgl, hgu]; unfold plc; rw [List.flatMap_append, hm]; rw [show (List.flatMap _ (grU ds i)) = plc us adv ds rev (grU ds i) from by unfold plc; rw [hm]]; exact aH9
      exact ⟨k - 1, (i + 1, .slice (some ⟨H8.next, 0, none⟩) ((grU ds i).length + 1) ((grU ds i).length + 1)), by omega, ⟨by simp only []; omega, hk, by omega, hs, hd, ct, hacc2⟩, rfl, rfl, rfl, rfl, (by show some (iv _) = some (iv _); rw [hgu, sumK_app]; simp only [sumK]; rw [hm]; congr 2; omega), rfl, rfl, trivial⟩
    ·have q1 : ¬ ((i : Int) ≤ 1023) := of_decide_eq_false q1
     first | (refine wN_exit ?_; show wC _ _ _ _ _ _ _ _ _) | skip
     refine wN_seq <| wN_mov (v := wv) rfl <| wN_mov (v := iv (rev - sumK (fun g => shr rev (hwS us ds g ds.length) (tW us ds ds.length)) (grU ds i))) rfl <| wN_mov (v := wv) rfl <| wN_mov (v := iv (rev - sumK (fun g => shr rev (hwS us ds g ds.length) (tW us ds ds.length)) (grU ds i))) rfl <| wN_mov (v := iv 0) rfl <| wN_end ?_
     obtain rfl : i = 1024 := by omega
     rw [grU_all] at hacc ⊢
     have hcond : (vT us adv && vD ds && inB rev 0 1073741824) = true := by rw [qvT, qvD, qrv]; rfl
     exact And.intro trivial (Exists.intro _ (And.intro rfl ⟨wv, by unfold stK stE; rw [if_pos hcond, if_pos (by rw [qvT, qvD]; rfl), if_pos qrv]; rfl, by unfold stL; rw [if_pos hcond]; exact hacc.low (by omega), hk⟩))
set_option maxRecDepth 100000 in
theorem refBreak_ok {us : List Pr} {sa : Option Addr} {n cap : Nat} {adv : Int} (hs : Sl H sa n cap (prc us)) (hl : us.length = n) (hn : n ≤ 1000000) {ds : List Dl} {la : Option Addr} {m capl : Nat} (hd : Sl H la m capl (dlc ds)) (hm : ds.length = m) (hmn : m ≤ 1000000) (hlo : lo ≤ H.next) {gr wanted : Int} : ∃ x e H', FnX Try.prog kn lo 21 [.agg #[.slice sa n cap, iv adv], .slice la m capl, iv gr, iv wanted] H (.tuple #[iv x, iv e]) H' ∧ BkS us adv ds gr wanted x e ∧ Keep H H' [] := by
 have key := fnX_low (kn := kn) (lo := lo) (H := H) (args := [.agg #[.slice sa n cap, iv adv], .slice la m capl, iv gr, iv wanted]) (Q := fun w H' => ∃ x e, w = .tuple #[iv x, iv e] ∧ BkS us adv ds gr wanted x e ∧ Keep H H' []) Try.func21 B21 N21 Z21 L21 (by simp) ?_
 ·obtain ⟨w, H', h, x, e, rfl, r⟩ := key; exact ⟨x, e, H', h, r⟩
 have hk := Keep.refl H []
 have fs := hs.old
 have fd := hd.old
 refine wN_seq <| wN_box (v := .agg #[.slice sa n cap, iv adv]) rfl ?_
 intro H1 kH1 nH1 c1
 have c1 : Cl H1 H.next [.slice sa n cap, iv adv] := c1
 have mH1 := kH1.1
 have hk := hk.trans kH1
 have hs := kH1.sl0 hs
 have hd := kH1.sl0 hd
 refine wN_mov (v := iv 0) rfl <| wN_mov (v := iv 0) rfl <| wN_end <| wN_seq <| wN_lda (b := H.next) (o := 0) rfl c1.rd (show row 2 _ _ = some [.slice sa n cap, iv adv] from rfl) <| wN_callB rfl (refT_ok hs hl hn (by omega)) ?_
 intro tH2 H2 hH2 kH2
 have mH2 := kH2.1
 have hk := hk.trans kH2
 have hs := kH2.sl0 hs
 have hd := kH2.sl0 hd
 have c1 := kH2.cl c1 (by simp)
 cases tH2
 ·have vhH2 : vT us adv = false := hH2
  have qvT := vhH2
  refine wN_pur (v := .bool true) rfl rfl <| wN_mov (v := .bool true) rfl <| wN_gs rfl <| wN_gs rfl <| wN_gs rfl <| wN_pur (v := .bool true) rfl rfl <| wN_end <| condT <| wN_seq <| wN_mov (v := iv 0) rfl <| wN_mov (v := iv 1) rfl <| wN_end ?_
  exact And.intro trivial (Exists.intro _ (And.intro rfl ⟨0, 1, rfl, by unfold BkS; rw [if_neg (by first | (rw [qvT]; simp; done) | (rw [qvD]; simp; done))], hk⟩))
 ·have vhH2 : vT us adv = true := hH2
  obtain ⟨h0x, h8, hu, ha1, ha2⟩ := vT_t vhH2
  have h0 : 0 < n := by omega
  have qvT := vhH2
  refine wN_pur (v := .bool false) rfl rfl <| wN_mov (v := .bool false) rfl ?_
  refine wN_g rfl (wN_mov (v := .slice la m capl) rfl ?_)
  refine wN_g rfl (wN_callB rfl (refvD_ok hd hm hmn (by omega)) ?_)
  intro tH3 H3 hH3 kH3
  have mH3 := kH3.1
  have hk := hk.trans kH3
  have hs := kH3.sl0 hs
  have hd := kH3.sl0 hd
  have c1 := kH3.cl c1 (by simp)
  cases tH3
  ·have vhH3 : vD ds = false := hH3
   have qvD := vhH3
   refine wN_g rfl (wN_pur (v := .bool true) rfl rfl ?_)
   refine wN_pur (v := .bool true) rfl rfl <| wN_end <| condT <| wN_seq <| wN_mov (v := iv 0) rfl <| wN_mov (v := iv 1) rfl <| wN_end ?_
   exact And.intro trivial (Exists.intro _ (And.intro rfl ⟨0, 1, rfl, by unfold BkS; rw [if_neg (by first | (rw [qvT]; simp; done) | (rw [qvD]; simp; done))], hk⟩))
  ·have vhH3 : vD ds = true := hH3
   obtain ⟨hm8, hdv⟩ := vD_t vhH3
   have qvD := vhH3
   refine wN_g rfl (wN_pur (v := .bool false) rfl rfl ?_)
   refine wN_pur (v := .bool false) rfl rfl <| wN_end <| condF ?_
   first | refine wN_skip ?_ | skip
   refine wN_seq <| wN_lda (b := H.next) (o := 0) rfl c1.rd (show row 2 _ _ = some [.slice sa n cap, iv adv] from rfl) <| wN_mov (v := .slice la m capl) rfl <| wN_mov (v := iv gr) rfl ?_
   obtain ⟨H4, fH4, kH4⟩ := refof_ok (kn := kn) (lo := lo) (H := H3) hs hl hn hd hm (by omega) hu h0 ha1 ha2 (by omega) hdv (g := gr)
   have hcz := cnt_grl hdv (g := gr)
   rw [hm] at hcz
   have hwb := hwS_in (g := gr) hu (by omega) hdv m (by omega)
   have hab := haS_in (g := gr) hu (by omega) ha1 ha2 hdv m (by omega)
   have hcb := cnt_in (ds := ds) (g := gr) m
   have hle := hw_le_tW hu (by omega) hdv gr m (by omega)
   have htb := tW_in hu (by omega) hdv m (by omega)
   refine wN_callf (vs := [.agg #[.slice sa n cap, iv adv], .slice la m capl, iv gr]) rfl (callX_args fH4) ?_
   have mH4 := kH4.1
   have hk := hk.trans kH4
   have hs := kH4.sl0 hs
   have hd := kH4.sl0 hd
   have c1 := kH4.cl c1 (by simp)
   refine wN_mov (v := .tuple #[iv (hwS us ds gr m), iv (haS us adv ds gr m), iv (cnt ds gr m)]) rfl <| wN_pur (v := iv (hwS us ds gr m)) rfl (by kernel_rfl) <| wN_pur (v := iv (haS us adv ds gr m)) rfl (by kernel_rfl) <| wN_pur (v := iv (cnt ds gr m)) rfl (by kernel_rfl) <| wN_mov (v := iv (hwS us ds gr m)) rfl <| wN_mov (v := iv (haS us adv ds gr m)) rfl <| wN_mov (v := iv (cnt ds gr m)) rfl <| wN_end <| wN_seq <| wN_mov (v := iv (cnt ds gr m)) rfl <| wN_c_eql (a := (cnt ds gr m)) (b := 0) rfl rfl <| wN_end ?_
   refine And.intro (fun q1 => ?_) (fun q1 => ?_)
   ·have q1 : (cnt ds gr m) = 0 := by simpa using q1
    refine wN_seq <| wN_mov (v := iv 0) rfl <| wN_mov (v := iv 4) rfl <| wN_end ?_
    exact And.intro trivial (Exists.intro _ (And.intro rfl ⟨0, 4, rfl, by unfold BkS; rw [if_pos (by rw [qvT, qvD]; rfl), if_neg (hcz.1 (by omega))], hk⟩))
   ·have q1 : ¬ ((cnt ds gr m) = 0) := by simpa using q1
    first | refine wN_skip ?_ | skip
    refine wN_seq <| wN_mov (v := iv wanted) rfl <| wN_callB rfl (in35_ok) ?_
    intro tH5 H5 hH5 kH5
    have mH5 := kH5.1
    have hk := hk.trans kH5
    have hs := kH5.sl0 hs
    have hd := kH5.sl0 hd
    have c1 := kH5.cl c1 (by simp)
    cases tH5
    ·have qwn : inB wanted 0 1073741824 = false := hH5
     have hwn := inB_f qwn
     refine wN_pur (v := .bool true) rfl rfl <| wN_end <| condT <| wN_seq <| wN_mov (v := iv 0) rfl <| wN_mov (v := iv 2) rfl <| wN_end ?_
     have hgr : gr ∈ grl ds := Classical.byContradiction fun qq => absurd (hcz.2 qq) (by omega)
     exact And.intro trivial (Exists.intro _ (And.intro rfl ⟨0, 2, rfl, by unfold BkS; rw [if_pos (by rw [qvT, qvD]; rfl), if_pos hgr, if_neg (by rw [qwn]; simp)], hk⟩))
    ·have qwn : inB wanted 0 1073741824 = true := hH5
     have hwn := inB_t qwn
     refine wN_pur (v := .bool false) rfl rfl <| wN_end <| condF ?_
     first | refine wN_skip ?_ | skip
     refine wN_seq <| wN_mov (v := iv wanted) rfl <| wN_c_eql (a := wanted) (b := 0) rfl rfl <| wN_end ?_
     refine And.intro (fun q2 => ?_) (fun q2 => ?_)
     ·have q2 : wanted = 0 := by simpa using q2
      refine wN_seq <| wN_mov (v := iv 0) rfl <| wN_mov (v := iv 0) rfl <| wN_end ?_
      have hgr : gr ∈ grl ds := Classical.byContradiction fun qq => absurd (hcz.2 qq) (by omega)
      have hmm : Lst (bkP us ds gr wanted) NB 0 := ⟨Nat.zero_le _, .inl rfl, .inr (by unfold bkP; refine decide_eq_true ?_; have := shr_in (rev := ((0 : Nat) : Int)) (w := hwS us ds gr ds.length) (all := tW us ds ds.length) (by omega) (by omega) (by rw [hm]; omega) (by rw [hm]; exact hle); omega)⟩
      exact And.intro trivial (Exists.intro _ (And.intro rfl ⟨0, 0, rfl, by unfold BkS; rw [if_pos (by rw [qvT, qvD]; rfl), if_pos hgr, if_pos qwn]; exact ⟨0, hmm, by unfold pick2; rw [if_neg (by unfold NB; omega)]; rfl⟩, hk⟩))
     ·have q2 : ¬ (wanted = 0) := by simpa using q2
      first | refine wN_skip ?_ | skip
      refine wN_seq <| wN_mov (v := iv (hwS us ds gr m)) rfl <| wN_c_eql (a := (hwS us ds gr m)) (b := 0) rfl rfl <| wN_end ?_
      refine And.intro (fun q3 => ?_) (fun q3 => ?_)
      ·have q3 : (hwS us ds gr m) = 0 := by simpa using q3
       refine wN_seq <| wN_mov (v := iv 0) rfl <| wN_mov (v := iv 10) rfl <| wN_end ?_
       have hgr : gr ∈ grl ds := Classical.byContradiction fun qq => absurd (hcz.2 qq) (by omega)
       have hw0 : hwS us ds gr ds.length = 0 := by rw [hm]; omega
       have hmm : Lst (bkP us ds gr wanted) NB NB := ⟨Nat.le_refl _, .inr (by unfold bkP; refine decide_eq_false ?_; rw [hw0]; unfold shr; rw [Int.mul_zero, Int.zero_ediv]; split <;> omega), .inl rfl⟩
       exact And.intro trivial (Exists.intro _ (And.intro rfl ⟨0, 10, rfl, by unfold BkS; rw [if_pos (by rw [qvT, qvD]; rfl), if_pos hgr, if_pos qwn]; exact ⟨NB, hmm, by unfold pick2; rw [if_pos rfl]⟩, hk⟩))
      ·have q3 : ¬ ((hwS us ds gr m) = 0) := by simpa using q3
       first | refine wN_skip ?_ | skip
       refine wN_seq <| wN_lda (b := H.next) (o := 0) rfl c1.rd (show row 2 _ _ = some [.slice sa n cap, iv adv] from rfl) <| wN_mov (v := .slice la m capl) rfl ?_
       obtain ⟨H6, fH6, kH6⟩ := reftotal_ok (kn := kn) (lo := lo) (H := H5) hs hl hn hd hm (by omega) hu h0 ha1 ha2 (by omega) hdv
       refine wN_callf (vs := [.agg #[.slice sa n cap, iv adv], .slice la m capl]) rfl (callX_args fH6) ?_
       have mH6 := kH6.1
       have hk := hk.trans kH6
       have hs := kH6.sl0 hs
       have hd := kH6.sl0 hd
       have c1 := kH6.cl c1 (by simp)
       refine wN_mov (v := iv (tW us ds m)) rfl <| wN_end <| wN_seq <| wN_mov (v := iv wanted) rfl <| wN_mov (v := iv (tW us ds m)) rfl ?_
       have hmb := mulb hwn.1 hwn.2 htb.1 (show tW us ds m ≤ 4494803584 by omega)
       obtain ⟨P, eP⟩ : ∃ P, P = wanted * tW us ds m := ⟨_, rfl⟩
       rw [← eP] at hmb
       obtain ⟨q, eq⟩ : ∃ q, q = (P + hwS us ds gr m - 1) / hwS us ds gr m := ⟨_, rfl⟩
       have hq0 : 0 ≤ q := by rw [eq]; exact Int.ediv_nonneg (by omega) (by omega)
       have hqP : q ≤ P + hwS us ds gr m - 1 := by rw [eq]; exact Int.ediv_le_self _ (by omega)
       obtain ⟨lb1, lb2⟩ := bk_least (by omega) eq
       refine wN_mul (a := wanted) (b := tW us ds m) rfl rfl ⟨by omega, by omega⟩ ?_
       rw [← eP]
       refine wN_mov (v := iv (hwS us ds gr m)) rfl <| wN_add (a := P) (b := (hwS us ds gr m)) rfl rfl ⟨by omega, by omega⟩ <| wN_sub (a := P + (hwS us ds gr m)) (b := 1) rfl rfl ⟨by omega, by omega⟩ <| wN_mov (v := iv (hwS us ds gr m)) rfl <| wN_quo (a := P + hwS us ds gr m - 1) (b := hwS us ds gr m) rfl rfl (by omega) (by omega) ⟨by omega, by omega⟩ ?_
       rw [← eq]
       refine wN_mov (v := iv q) rfl <| wN_end <| wN_seq <| wN_mov (v := iv q) rfl <| wN_c_gtr (a := q) (b := 1073741824) rfl rfl <| wN_end ?_
       refine And.intro (fun q4 => ?_) (fun q4 => ?_)
       ·have q4 : q > 1073741824 := of_decide_eq_true q4
        refine wN_seq <| wN_mov (v := iv 0) rfl <| wN_mov (v := iv 10) rfl <| wN_end ?_
        have hgr : gr ∈ grl ds := Classical.byContradiction fun qq => absurd (hcz.2 qq) (by omega)
        have hP : P = wanted * tW us ds ds.length := by rw [eP, hm]
        have hwd : hwS us ds gr m = hwS us ds gr ds.length := by rw [hm]
        have hmm : Lst (bkP us ds gr wanted) NB NB := ⟨Nat.le_refl _, .inr (by unfold bkP; refine decide_eq_false ?_; rw [bk_iff (by omega) (by rw [hm]; exact hle)]; have := lb2 ((NB - 1 : Nat) : Int) (by unfold NB; omega); rw [hP, hwd] at this; omega), .inl rfl⟩
        exact And.intro trivial (Exists.intro _ (And.intro rfl ⟨0, 10, rfl, by unfold BkS; rw [if_pos (by rw [qvT, qvD]; rfl), if_pos hgr, if_pos qwn]; exact ⟨NB, hmm, by unfold pick2; rw [if_pos rfl]⟩, hk⟩))
       ·have q4 : ¬ (q > 1073741824) := of_decide_eq_false q4
        first | refine wN_skip ?_ | skip
        refine wN_seq <| wN_mov (v := iv q) rfl <| wN_mov (v := iv q) rfl <| wN_mov (v := iv 0) rfl <| wN_end ?_
        have hgr : gr ∈ grl ds := Classical.byContradiction fun qq => absurd (hcz.2 qq) (by omega)
        have hP : P = wanted * tW us ds ds.length := by rw [eP, hm]
        have hwd : hwS us ds gr m = hwS us ds gr ds.length := by rw [hm]
        have hmm : Lst (bkP us ds gr wanted) NB q.toNat := ⟨by unfold NB; omega, (by rcases Nat.eq_zero_or_pos q.toNat with z | z; exact .inl z; refine .inr ?_; unfold bkP; refine decide_eq_false ?_; rw [bk_iff (by omega) (by rw [hm]; exact hle)]; have := lb2 ((q.toNat - 1 : Nat) : Int) (by omega); rw [hP, hwd] at this; omega), .inr (by unfold bkP; refine decide_eq_true ?_; rw [bk_iff (by omega) (by rw [hm]; exact hle)]; have := lb1 ((q.toNat : Nat) : Int) (by omega); rw [hP, hwd] at this; exact this)⟩
        exact And.intro trivial (Exists.intro _ (And.intro rfl ⟨q, 0, rfl, by unfold BkS; rw [if_pos (by rw [qvT, qvD]; rfl), if_pos hgr, if_pos qwn]; exact ⟨q.toNat, hmm, by unfold pick2; rw [if_neg (by unfold NB; omega)]; rw [show ((q.toNat : Nat) : Int) = q by omega]⟩, hk⟩))
end
end
end Go.Ax

/-
 Pool: lists of payments compared (22), found (25); many (10); the examples (27, 11) (written by program).
-/
namespace Go.Ax
open Go Go.RowKit Go.Proofs

noncomputable section
def manyB (n m : Nat) : Bool := decide ((n : Int) > 12) || decide ((m : Int) > 132)
def us0 : List Pr := [⟨30000, 500⟩, ⟨90000, 0⟩]
def ds0 : List Dl := [⟨3, 1000000, 50000000⟩, ⟨8, 500000, 75000000⟩, ⟨3, 200000, 4000000⟩]
theorem res_cv {P : Program} {S : Rg} {H : Hp} {a b x n : Nat} {t : TypeId} {cs : List Value} {v : Value} (ha : lk S a = some (.pointer (some ⟨x, 0, none⟩))) (hb : lk S b = some v) (h1 : isAggB P t = some true) (hi : ∃ i, P.info? t = some i ∧ i.size = n) (hl : cs.length = n) (h : Cl H x cs) : resS P S H [.cell a t, .tmp b] = some [.agg cs.toArray, v] := by
 simp only [resS, ha, hb, load_agg h1 hi h.rd hl]
section
variable {kn : Kn} {lo : Nat} {H : Hp}
set_option maxRecDepth 100000 in
theorem pays_ok {us : List Pr} {adv : Int} {ds : List Dl} {rev : Int} {l : List Int} {pa pb : Option Addr} {cap1 cap2 : Nat} (ha : Sl H pa l.length cap1 (plc us adv ds rev l)) (hb : Sl H pb l.length cap2 (plc us adv ds rev l)) (hlen : l.length ≤ 1000000) (hlo : lo ≤ H.next) : ∃ H', FnX Try.prog kn lo 22 [.slice pa l.length cap1, .slice pb l.length cap2] H (.bool true) H' ∧ Keep H H' [] := by
 have key := fnX_low (kn := kn) (lo := lo) (H := H) (args := [.slice pa l.length cap1, .slice pb l.length cap2]) (Q := fun w H' => w = .bool true ∧ Keep H H' []) Try.func22 B22 N22 Z22 L22 (by simp) ?_
 ·obtain ⟨w, H', h, rfl, q⟩ := key; exact ⟨H', h, q⟩
 have hk := Keep.refl H []
 have fa := ha.old
 have fb := hb.old
 refine wN_seq <| wN_mov (v := .bool false) rfl <| wN_end <| wN_seq <| wN_mov (v := .slice pa l.length cap1) rfl <| wN_len (m := l.length) rfl <| wN_mov (v := .slice pb l.length cap2) rfl <| wN_len (m := l.length) rfl <| wN_c_neq (a := (l.length : Int)) (b := (l.length : Int)) rfl rfl ?_
 rw [show ((l.length : Int) != (l.length : Int)) = false by simp]
 refine wN_end <| condF ?_
 first | refine wN_skip ?_ | skip
 refine wN_seq <| wN_mov (v := iv 0) rfl <| wN_end ?_
 refine loop_low (fn := Try.f22) E22_1 N22 L22x1 (fun i : Nat => [(0, .slice pa l.length cap1), (1, .slice pb l.length cap2), (5, iv (i : Int))])
  (fun k i H' => i + k = l.length ∧ Keep H H' [] ∧ Sl H' pa l.length cap1 (plc us adv ds rev l) ∧ Sl H' pb l.length cap2 (plc us adv ds rev l)) l.length 0 ⟨by omega, hk, ha, hb⟩ ⟨rfl, rfl, rfl, trivial⟩ ?_
 rintro k i L1 ⟨hik, hk, ha, hb⟩
 have mk := hk.1
 refine wN_seq <| wN_mov (v := iv (i : Int)) rfl <| wN_mov (v := .slice pa l.length cap1) rfl <| wN_len (m := l.length) rfl <| wN_c_lss (a := (i : Int)) (b := (l.length : Int)) rfl rfl <| wN_end ?_
 refine And.intro (fun q1 => ?_) (fun q1 => ?_)
 ·have q1 : (i : Int) < (l.length : Int) := of_decide_eq_true q1
  have hi : i < l.length := by omega
  rcases id ha with ⟨_, h0s, _⟩ | ⟨sb, es, rs, _⟩
  ·omega
  have ls := rs.1
  rcases id hb with ⟨_, h0t, _⟩ | ⟨tb, et, rt, _⟩
  ·omega
  have lt := rt.1
  first | refine wN_skip ?_ | skip
  refine wD_seq <| wD_mov (v := .slice pa l.length cap1) rfl <| wD_mov (v := iv (i : Int)) rfl <| wD_idx (b := sb) (o := 0) (k := i) (j := (i : Int)) (by rw [← es]; rfl) rfl rfl hi <| wD_lda (b := sb) (o := 0 + i * 5) rfl rs (plc_row (by omega)) <| wD_mov (v := .slice pb l.length cap2) rfl <| wD_mov (v := iv (i : Int)) rfl <| wD_idx (b := tb) (o := 0) (k := i) (j := (i : Int)) (by rw [← et]; rfl) rfl rfl hi <| wD_lda (b := tb) (o := 0 + i * 5) rfl rt (plc_row (by omega)) <| wD_pur (v := .bool false) rfl (neq50 rfl rfl) ?_
  refine wD_end (by repeat' first | exact True.intro | exact (fun h => h) | refine And.intro ?_ ?_ | (intro h; have h : (_ : Nat) = _ := h; omega)) ?_
  refine condF ?_
  first | refine wN_skip ?_ | skip
  first | refine wN_reg ?_ | refine wN_blk ?_ | refine wN_bseq ?_ | (refine wOps_nil ?_; refine wN_reg ?_)
  refine wN_mov (v := iv (i : Int)) rfl <| wN_add (a := (i : Int)) (b := 1) rfl rfl ⟨by omega, by omega⟩ <| wN_mov (v := iv ((i : Int) + 1)) rfl <| wN_end ?_
  exact ⟨k - 1, i + 1, by omega, ⟨by omega, hk, ha, hb⟩, rfl, rfl, rfl, trivial⟩
 ·have q1 : ¬ ((i : Int) < (l.length : Int)) := of_decide_eq_false q1
  refine wN_seq <| wN_mov (v := .bool true) rfl <| wN_end ?_
  exact And.intro trivial (Exists.intro _ (And.intro rfl ⟨rfl, hk⟩))
theorem many_ok {sa la : Option Addr} {n cap m capl : Nat} {adv : Int} : ∃ H', FnX Try.prog kn lo 10 [.agg #[.slice sa n cap, iv adv], .slice la m capl] H (.bool (manyB n m)) H' ∧ Keep H H' [] := by
 have key := fnX_low (kn := kn) (lo := lo) (H := H) (args := [.agg #[.slice sa n cap, iv adv], .slice la m capl]) (Q := fun w H' => w = .bool (manyB n m) ∧ Keep H H' []) Try.func10 B10 N10 Z10 L10 (by simp) ?_
 ·obtain ⟨w, H', h, rfl, q⟩ := key; exact ⟨H', h, q⟩
 have hk := Keep.refl H []
 refine wN_seq <| wN_box (v := .agg #[.slice sa n cap, iv adv]) rfl ?_
 intro H1 kH1 nH1 c1
 have c1 : Cl H1 H.next [.slice sa n cap, iv adv] := c1
 have mH1 := kH1.1
 have hk := hk.trans kH1
 refine wN_mov (v := .bool false) rfl <| wN_end <| wN_seq <| wN_addo (b := H.next) (o := 0) rfl <| wN_ld (b := H.next) (o := 0) (v := .slice sa n cap) rfl c1.rd rfl <| wN_len (m := n) rfl <| wN_b_gtr (a := (n : Int)) (b := 12) rfl rfl ?_
 intro t1 g1; cases t1
 ·have g1 : ¬ ((n : Int) > 12) := of_decide_eq_false g1
  refine wN_mov (v := .bool false) rfl ?_
  refine wN_g rfl (wN_mov (v := .slice la m capl) rfl ?_)
  refine wN_g rfl (wN_len (m := m) rfl ?_)
  refine wN_g rfl (wN_b_gtr (a := (m : Int)) (b := 132) rfl rfl ?_)
  intro t2 g2; cases t2
  ·have g2 : ¬ ((m : Int) > 132) := of_decide_eq_false g2
   refine wN_pur (v := .bool false) rfl rfl <| wN_mov (v := .bool false) rfl <| wN_end ?_
   exact And.intro trivial (Exists.intro _ (And.intro rfl ⟨congrArg Value.bool (show false = manyB n m from by symm; unfold manyB; simp <;> omega), hk⟩))
  ·have g2 : (m : Int) > 132 := of_decide_eq_true g2
   refine wN_pur (v := .bool true) rfl rfl <| wN_mov (v := .bool true) rfl <| wN_end ?_
   exact And.intro trivial (Exists.intro _ (And.intro rfl ⟨congrArg Value.bool (show true = manyB n m from by symm; unfold manyB; simp <;> omega), hk⟩))
 ·have g1 : (n : Int) > 12 := of_decide_eq_true g1
  refine wN_mov (v := .bool true) rfl <| wN_gs rfl <| wN_gs rfl <| wN_gs rfl <| wN_pur (v := .bool true) rfl rfl <| wN_mov (v := .bool true) rfl <| wN_end ?_
  exact And.intro trivial (Exists.intro _ (And.intro rfl ⟨congrArg Value.bool (show true = manyB n m from by symm; unfold manyB; simp <;> omega), hk⟩))
set_option maxRecDepth 100000 in
theorem sample_ok (hlo : lo ≤ H.next) : ∃ sa cap la capl H', FnX Try.prog kn lo 27 [] H (.tuple #[.agg #[.slice sa 2 cap, iv 400], .slice la 3 capl]) H' ∧ Sl H' sa 2 cap (prc us0) ∧ Sl H' la 3 capl (dlc ds0) ∧ Keep H H' [] := by
 have key := fnX_low (kn := kn) (lo := lo) (H := H) (args := []) (Q := fun w H' => ∃ sa cap la capl, w = .tuple #[.agg #[.slice sa 2 cap, iv 400], .slice la 3 capl] ∧ Sl H' sa 2 cap (prc us0) ∧ Sl H' la 3 capl (dlc ds0) ∧ Keep H H' []) Try.func27 B27 N27 Z27 L27 (by simp) ?_
 ·obtain ⟨w, H', h, sa, cap, la, capl, rfl, r⟩ := key; exact ⟨sa, cap, la, capl, H', h, r⟩
 have hk := Keep.refl H []
 refine wN_seq <| wN_alc ?_
 intro H1 kH1 nH1 c1
 have c1 : Cl H1 H.next [.slice none 0 0, iv 0] := c1
 have mH1 := kH1.1
 have hk := hk.trans kH1
 refine wN_mov (v := .slice none 0 0) rfl <| wN_end <| wN_seq <| wN_pur (v := .agg #[iv 30000, iv 500]) rfl (by kernel_rfl) <| wN_pur (v := .agg #[iv 90000, iv 0]) rfl (by kernel_rfl) ?_
 obtain ⟨H2, hH2⟩ : ∃ H2, H1.new (.cells [iv 30000, iv 500, iv 90000, iv 0] 47 false) = H2 := ⟨_, rfl⟩
 refine wN_memh (v := .slice (some ⟨H1.next, 0, none⟩) 2 2) (H' := H2) (k := .heavy) rfl (by kernel_rfl) (Eq.trans (by kernel_rfl : _ = some (Rs.val (.slice (some ⟨H1.next, 0, none⟩) 2 2) (H1.new (.cells [iv 30000, iv 500, iv 90000, iv 0] 47 false)), Kd.heavy)) (by rw [hH2])) (fun b e => by cases e) ?_
 obtain ⟨kH2, nH2, cU⟩ := new_facts hH2; clear hH2
 have mH2 := kH2.1
 have hk := hk.trans kH2
 have c1 := kH2.cl c1 (by simp)
 refine wN_pur (v := .agg #[.slice (some ⟨H1.next, 0, none⟩) 2 2, iv 400]) rfl (by kernel_rfl) <| wN_alc ?_
 intro H3 kH3 nH3 c3
 have c3 : Cl H3 H2.next [.slice none 0 0, iv 0] := c3
 have mH3 := kH3.1
 have hk := hk.trans kH3
 have c1 := kH3.cl c1 (by simp)
 have cU := kH3.cl cU (by simp)
 refine wN_sta (b := H2.next) (o := 0) rfl rfl c3 (by omega) rfl rfl (by simp) ?_
 intro H4 kH4 nH4 sH4
 have mH4 := kH4.1
 have hk := hk.new kH4 (fun b hb => by simp at hb ⊢; omega)
 have c1 := kH4.cl c1 (by first | (simp; done) | (simp; omega))
 have cU := kH4.cl cU (by first | (simp; done) | (simp; omega))
 have c3 : Cl H4 H2.next [.slice (some ⟨H1.next, 0, none⟩) 2 2, iv 400] := sH4
 refine wN_end <| wN_seq <| wN_lda (b := H2.next) (o := 0) rfl c3.rd (show row 2 _ _ = some [.slice (some ⟨H1.next, 0, none⟩) 2 2, iv 400] from rfl) <| wN_pur (v := .agg #[iv 3, iv 1000000, iv 50000000]) rfl (by kernel_rfl) <| wN_pur (v := .agg #[iv 8, iv 500000, iv 75000000]) rfl (by kernel_rfl) <| wN_pur (v := .agg #[iv 3, iv 200000, iv 4000000]) rfl (by kernel_rfl) ?_
 obtain ⟨H5, hH5⟩ : ∃ H5, H4.new (.cells [iv 3, iv 1000000, iv 50000000, iv 8, iv 500000, iv 75000000, iv 3, iv 200000, iv 4000000] 26 false) = H5 := ⟨_, rfl⟩
 refine wN_memh (v := .slice (some ⟨H4.next, 0, none⟩) 3 3) (H' := H5) (k := .heavy) rfl (by kernel_rfl) (Eq.trans (by kernel_rfl : _ = some (Rs.val (.slice (some ⟨H4.next, 0, none⟩) 3 3) (H4.new (.cells [iv 3, iv 1000000, iv 50000000, iv 8, iv 500000, iv 75000000, iv 3, iv 200000, iv 4000000] 26 false)), Kd.heavy)) (by rw [hH5])) (fun b e => by cases e) ?_
 obtain ⟨kH5, nH5, cD⟩ := new_facts hH5; clear hH5
 have mH5 := kH5.1
 have hk := hk.trans kH5
 have c1 := kH5.cl c1 (by simp)
 have cU := kH5.cl cU (by simp)
 have c3 := kH5.cl c3 (by simp)
 refine wN_sta (b := H.next) (o := 0) rfl rfl c1 (by omega) rfl rfl (by simp) ?_
 intro H6 kH6 nH6 sH6
 have mH6 := kH6.1
 have hk := hk.new kH6 (fun b hb => by simp at hb ⊢; omega)
 have cU := kH6.cl cU (by first | (simp; done) | (simp; omega))
 have c3 := kH6.cl c3 (by first | (simp; done) | (simp; omega))
 have cD := kH6.cl cD (by first | (simp; done) | (simp; omega))
 have c1 : Cl H6 H.next [.slice (some ⟨H1.next, 0, none⟩) 2 2, iv 400] := sH6
 refine wN_mov (v := .slice (some ⟨H4.next, 0, none⟩) 3 3) rfl <| wN_end ?_
 exact And.intro trivial (Exists.intro _ (And.intro (res_cv rfl rfl a24 i24s rfl c1) ⟨_, 2, _, 3, rfl, .inr ⟨_, rfl, cU.rd, Nat.le_refl _⟩, .inr ⟨_, rfl, cD.rd, Nat.le_refl _⟩, hk⟩))
end
end
end Go.Ax

/-
 Pool: the examples of the document hold (11) (written by program).
-/
namespace Go.Ax
open Go Go.RowKit Go.Proofs

noncomputable section
theorem aw1 : wtV us0 400 (ds0.getD 1 Dl.z) = 45000 ∧ wtI us0 400 (ds0.getD 1 Dl.z) = 1 ∧ wtE us0 400 (ds0.getD 1 Dl.z) = 0 := ⟨by kernel_rfl, by kernel_rfl, by kernel_rfl⟩
theorem aw2 : avV us0 400 ds0 = 43200 ∧ avE us0 400 ds0 = 0 := ⟨by kernel_rfl, by kernel_rfl⟩
theorem aw3 : stK us0 400 ds0 100000 = 1 ∧ stE us0 400 ds0 100000 = 0 ∧ stL us0 400 ds0 100000 = [3, 8] := ⟨by kernel_rfl, by kernel_rfl, by kernel_rfl⟩
theorem aw3r : row 5 (plc us0 400 ds0 100000 [3, 8]) (0 + 0 * 5) = some [iv 3, iv 63000, iv 25200, iv 58333, iv 33133] := by kernel_rfl
theorem ds0_ok : ds0.any badD = false := by kernel_rfl
theorem aw4 : BkS us0 400 ds0 8 50000 120000 0 := by
 unfold BkS
 rw [if_pos (by kernel_rfl), if_pos (show (8 : Int) ∈ grl ds0 from (grl_mem ds0_ok).2 ⟨1, by decide, rfl⟩), if_pos (by kernel_rfl)]
 exact ⟨120000, ⟨by unfold NB; omega, .inr (by kernel_rfl), .inr (by kernel_rfl)⟩, by kernel_rfl⟩
theorem aw5 : RdS us0 400 (ds0.getD 0 Dl.z) 60000 60000000 0 := by
 unfold RdS
 rw [if_pos (by kernel_rfl), if_pos (by kernel_rfl)]
 have e : ((ds0.getD 0 Dl.z).g * 255 + 1).toNat = 255000001 := by kernel_rfl
 exact ⟨60000000, ⟨by rw [e]; omega, .inr (by kernel_rfl), .inr (by kernel_rfl)⟩, by kernel_rfl⟩
abbrev kn0 : Kn := ⟨fun _ => none, fun _ _ _ _ => none⟩
section
variable {lo : Nat} {H : Hp}
set_option maxRecDepth 100000 in
set_option maxHeartbeats 2000000 in
theorem awake_C (s : Snd Try.prog kn0) (hlo : lo ≤ H.next) : FnC Try.prog lo 11 [] H fun v _ => v = .bool true := by
 refine fnC_low s Try.func11 B11 N11 Z11 L11 (by simp) ?_
 have hk := Keep.refl H []
 refine wM_seq <| wM_mov (v := .bool false) rfl <| wM_end <| wM_seq ?_
 obtain ⟨sa, cap, la, capl, H1, fH1, hs, hd, kH1⟩ := sample_ok (kn := kn0) (lo := lo) (H := H) (by omega)
 refine wM_callf s (vs := []) rfl (callX_func rfl (by simpa using fH1)) ?_
 have mH1 := kH1.1
 have hk := hk.trans kH1
 rcases id hd with ⟨_, h03, _⟩ | ⟨tb, et, rt, _⟩
 ·omega
 have fs := hs.old; have fd := hd.old; have lt := rt.1
 refine wM_mov (v := .tuple #[.agg #[.slice sa 2 cap, iv 400], .slice la 3 capl]) rfl <| wM_pur (v := .agg #[.slice sa 2 cap, iv 400]) rfl (by kernel_rfl) <| wM_pur (v := .slice la 3 capl) rfl (by kernel_rfl) <| wM_alc ?_
 intro H2 kH2 nH2 c2
 have c2 : Cl H2 H1.next [.slice none 0 0, iv 0] := c2
 have mH2 := kH2.1
 have hk := hk.trans kH2
 have hs := kH2.sl0 hs
 have hd := kH2.sl0 hd
 have rt := kH2.rd rt (by simp)
 refine wM_sta (b := H1.next) (o := 0) rfl rfl c2 (by omega) rfl rfl (by simp) ?_
 intro H3 kH3 nH3 sH3
 have mH3 := kH3.1
 have hk := hk.new kH3 (fun b hb => by simp at hb ⊢; omega)
 have hs := kH3.sl hs (fun b e => by have := fs b e; first | (simp; done) | (simp; omega))
 have hd := kH3.sl hd (fun b e => by have := fd b e; first | (simp; done) | (simp; omega))
 have rt := kH3.rd rt (by first | (simp; done) | (simp; omega))
 have c2 : Cl H3 H1.next [.slice sa 2 cap, iv 400] := sH3
 refine wM_mov (v := .slice la 3 capl) rfl <| wM_end <| wM_dseq <| wD_lda (b := H1.next) (o := 0) rfl c2.rd (show row 2 _ _ = some [.slice sa 2 cap, iv 400] from rfl) <| wD_mov (v := .slice la 3 capl) rfl <| wD_idx (b := tb) (o := 0) (k := 1) (j := 1) (by rw [← et]; rfl) rfl rfl (by omega) <| wD_lda (b := tb) (o := 0 + 1 * 3) rfl rt (dlc_rowF (ds := ds0) (i := 1) (by decide)) ?_
 obtain ⟨H4, fH4, kH4⟩ := Worth_ok (kn := kn0) (lo := lo) (H := H3) (adv := 400) hs rfl (by omega) (by omega) (d := ds0.getD 1 Dl.z)
 rw [aw1.1, aw1.2.1, aw1.2.2] at fH4
 refine wD_callf (vs := [.agg #[.slice sa 2 cap, iv 400], .agg (Dl.f (ds0.getD 1 Dl.z)).toArray]) rfl (callX_args fH4) ?_
 have mH4 := kH4.1
 have hk := hk.trans kH4
 have hs := kH4.sl0 hs
 have hd := kH4.sl0 hd
 have rt := kH4.rd rt (by simp)
 have c2 := kH4.cl c2 (by simp)
 refine wD_mov (v := .tuple #[iv 45000, iv 1, iv 0]) rfl <| wD_pur (v := iv 45000) rfl (by kernel_rfl) <| wD_pur (v := iv 1) rfl (by kernel_rfl) <| wD_pur (v := iv 0) rfl (by kernel_rfl) <| wD_mov (v := iv 45000) rfl <| wD_mov (v := iv 1) rfl <| wD_mov (v := iv 0) rfl ?_
 refine wD_end (by repeat' first | exact True.intro | exact (fun h => h) | refine And.intro ?_ ?_ | (intro h; have h : (_ : Nat) = _ := h; omega)) ?_
 refine wM_seq <| wM_lda (b := H1.next) (o := 0) rfl c2.rd (show row 2 _ _ = some [.slice sa 2 cap, iv 400] from rfl) <| wM_mov (v := .slice la 3 capl) rfl <| wM_call (t := .fn (.func 16) #[]) rfl (callM_args s.hN (Advances_ok (H := H4) s (adv := 400) hs rfl (by omega) hd rfl (by omega) (by omega))) ?_
 rintro _ H5 ⟨rfl, kH5⟩
 rw [aw2.1, aw2.2]
 have mH5 := kH5.1
 have hk := hk.trans kH5
 have hs := kH5.sl0 hs
 have hd := kH5.sl0 hd
 have rt := kH5.rd rt (by simp)
 have c2 := kH5.cl c2 (by simp)
 refine wM_mov (v := .tuple #[iv 43200, iv 0]) rfl <| wM_pur (v := iv 43200) rfl (by kernel_rfl) <| wM_pur (v := iv 0) rfl (by kernel_rfl) <| wM_mov (v := iv 43200) rfl <| wM_mov (v := iv 0) rfl <| wM_end <| wM_seq <| wM_lda (b := H1.next) (o := 0) rfl c2.rd (show row 2 _ _ = some [.slice sa 2 cap, iv 400] from rfl) <| wM_mov (v := .slice la 3 capl) rfl <| wM_call (t := .fn (.func 18) #[]) rfl (callM_args s.hN (Settle_ok (H := H5) s (adv := 400) hs rfl (by omega) hd rfl (by omega) (by omega) (rev := 100000))) ?_
 rintro _ H6 ⟨pv, rfl, hpa, kH6⟩
 rw [aw3.2.2] at hpa
 rw [aw3.1, aw3.2.1]
 have mH6 := kH6.1
 have hk := hk.trans kH6
 have hs := kH6.sl0 hs
 have hd := kH6.sl0 hd
 have rt := kH6.rd rt (by simp)
 have c2 := kH6.cl c2 (by simp)
 obtain ⟨pa, pcap, rfl, hpy, _⟩ := hpa.sl
 rcases id hpy with ⟨_, h02, _⟩ | ⟨pb, ep, rp, _⟩
 ·exact absurd h02 (by decide)
 have lp := rp.1
 refine wM_mov (v := .tuple #[.slice pa 2 pcap, iv 1, iv 0]) rfl <| wM_pur (v := .slice pa 2 pcap) rfl (by kernel_rfl) <| wM_pur (v := iv 1) rfl (by kernel_rfl) <| wM_pur (v := iv 0) rfl (by kernel_rfl) <| wM_mov (v := .slice pa 2 pcap) rfl <| wM_mov (v := iv 1) rfl <| wM_mov (v := iv 0) rfl <| wM_end <| wM_seq <| wM_lda (b := H1.next) (o := 0) rfl c2.rd (show row 2 _ _ = some [.slice sa 2 cap, iv 400] from rfl) <| wM_mov (v := .slice la 3 capl) rfl <| wM_call (t := .fn (.func 20) #[]) rfl (callM_args s.hN (Break_ok (H := H6) s (adv := 400) hs rfl (by omega) hd rfl (by omega) (by omega) (gr := 8) (wanted := 50000))) ?_
 rintro _ H7 ⟨xb, eb, rfl, hb, kH7⟩
 obtain ⟨rfl, rfl⟩ := hb.uniq aw4
 have mH7 := kH7.1
 have hk := hk.trans kH7
 have hs := kH7.sl0 hs
 have hd := kH7.sl0 hd
 have rt := kH7.rd rt (by simp)
 have c2 := kH7.cl c2 (by simp)
 have rp := kH7.rd rp (by simp)
 refine wM_mov (v := .tuple #[iv 120000, iv 0]) rfl <| wM_pur (v := iv 120000) rfl (by kernel_rfl) <| wM_pur (v := iv 0) rfl (by kernel_rfl) <| wM_mov (v := iv 120000) rfl <| wM_mov (v := iv 0) rfl <| wM_end <| wM_dseq <| wD_lda (b := H1.next) (o := 0) rfl c2.rd (show row 2 _ _ = some [.slice sa 2 cap, iv 400] from rfl) <| wD_mov (v := .slice la 3 capl) rfl <| wD_idx (b := tb) (o := 0) (k := 0) (j := 0) (by rw [← et]; rfl) rfl rfl (by omega) <| wD_lda (b := tb) (o := 0 + 0 * 3) rfl rt (dlc_rowF (ds := ds0) (i := 0) (by decide)) ?_
 obtain ⟨xr, er, H8, fH8, hr, kH8⟩ := Redder_ok (kn := kn0) (lo := lo) (H := H7) (adv := 400) hs rfl (by omega) (by omega) (d := ds0.getD 0 Dl.z) (wanted := 60000)
 obtain ⟨rfl, rfl⟩ := hr.uniq aw5
 refine wD_callf (vs := [.agg #[.slice sa 2 cap, iv 400], .agg (Dl.f (ds0.getD 0 Dl.z)).toArray, iv 60000]) rfl (callX_args fH8) ?_
 have mH8 := kH8.1
 have hk := hk.trans kH8
 have hs := kH8.sl0 hs
 have hd := kH8.sl0 hd
 have rt := kH8.rd rt (by simp)
 have c2 := kH8.cl c2 (by simp)
 have rp := kH8.rd rp (by simp)
 refine wD_mov (v := .tuple #[iv 60000000, iv 0]) rfl <| wD_pur (v := iv 60000000) rfl (by kernel_rfl) <| wD_pur (v := iv 0) rfl (by kernel_rfl) <| wD_mov (v := iv 60000000) rfl <| wD_mov (v := iv 0) rfl ?_
 refine wD_end (by repeat' first | exact True.intro | exact (fun h => h) | refine And.intro ?_ ?_ | (intro h; have h : (_ : Nat) = _ := h; omega)) ?_
 refine wM_seq <| wM_mov (v := iv 45000) rfl <| wM_b_neq (a := 45000) (b := 45000) rfl rfl ?_
 intro t1 g1; obtain rfl : t1 = false := by rw [← g1]; rfl
 refine wM_mov (v := .bool false) rfl ?_
 refine wM_g rfl (wM_mov (v := iv 1) rfl ?_)
 refine wM_g rfl (wM_b_neq (a := 1) (b := 1) rfl rfl ?_)
 intro t2 g2; obtain rfl : t2 = false := by rw [← g2]; rfl
 refine wM_pur (v := .bool false) rfl rfl <| wM_mov (v := .bool false) rfl ?_
 refine wM_g rfl (wM_mov (v := iv 0) rfl ?_)
 refine wM_g rfl (wM_b_neq (a := 0) (b := 0) rfl rfl ?_)
 intro t3 g3; obtain rfl : t3 = false := by rw [← g3]; rfl
 refine wM_pur (v := .bool false) rfl rfl <| wM_mov (v := .bool false) rfl ?_
 refine wM_g rfl (wM_mov (v := iv 43200) rfl ?_)
 refine wM_g rfl (wM_b_neq (a := 43200) (b := 43200) rfl rfl ?_)
 intro t4 g4; obtain rfl : t4 = false := by rw [← g4]; rfl
 refine wM_pur (v := .bool false) rfl rfl <| wM_mov (v := .bool false) rfl ?_
 refine wM_g rfl (wM_mov (v := iv 0) rfl ?_)
 refine wM_g rfl (wM_b_neq (a := 0) (b := 0) rfl rfl ?_)
 intro t5 g5; obtain rfl : t5 = false := by rw [← g5]; rfl
 refine wM_pur (v := .bool false) rfl rfl <| wM_mov (v := .bool false) rfl ?_
 refine wM_g rfl (wM_mov (v := .slice pa 2 pcap) rfl ?_)
 refine wM_g rfl (wM_len (m := 2) rfl ?_)
 refine wM_g rfl (wM_b_neq (a := 2) (b := 2) rfl rfl ?_)
 intro t6 g6; obtain rfl : t6 = false := by rw [← g6]; rfl
 refine wM_pur (v := .bool false) rfl rfl <| wM_mov (v := .bool false) rfl ?_
 refine wM_g rfl (wM_mov (v := .slice pa 2 pcap) rfl ?_)
 refine wM_g rfl (wM_idx (b := pb) (o := 0) (k := 0) (j := 0) (by rw [← ep]; rfl) rfl rfl (by omega) ?_)
 refine wM_g rfl (wM_lda (b := pb) (o := 0 + 0 * 5) rfl rp aw3r ?_)
 refine wM_g rfl (wM_pur (v := .agg #[iv 3, iv 63000, iv 25200, iv 58333, iv 33133]) rfl (by kernel_rfl) ?_)
 refine wM_g rfl (wM_pur (v := .bool false) rfl (neq50 (a := 3) (b := 63000) (c := 25200) (e := 58333) (f := 33133) rfl rfl) ?_)
 refine wM_pur (v := .bool false) rfl rfl <| wM_mov (v := .bool false) rfl ?_
 refine wM_g rfl (wM_mov (v := iv 1) rfl ?_)
 refine wM_g rfl (wM_b_neq (a := 1) (b := 1) rfl rfl ?_)
 intro t7 g7; obtain rfl : t7 = false := by rw [← g7]; rfl
 refine wM_pur (v := .bool false) rfl rfl <| wM_mov (v := .bool false) rfl ?_
 refine wM_g rfl (wM_mov (v := iv 0) rfl ?_)
 refine wM_g rfl (wM_b_neq (a := 0) (b := 0) rfl rfl ?_)
 intro t8 g8; obtain rfl : t8 = false := by rw [← g8]; rfl
 refine wM_pur (v := .bool false) rfl rfl <| wM_end <| condF ?_
 first | refine wM_skip ?_ | skip
 refine wM_seq <| wM_mov (v := iv 120000) rfl <| wM_b_eql (a := 120000) (b := 120000) rfl rfl ?_
 intro t9 g9; obtain rfl : t9 = true := by rw [← g9]; rfl
 refine wM_mov (v := .bool true) rfl ?_
 refine wM_g rfl (wM_mov (v := iv 0) rfl ?_)
 refine wM_g rfl (wM_b_eql (a := 0) (b := 0) rfl rfl ?_)
 intro t10 g10; obtain rfl : t10 = true := by rw [← g10]; rfl
 refine wM_pur (v := .bool true) rfl rfl <| wM_mov (v := .bool true) rfl ?_
 refine wM_g rfl (wM_mov (v := iv 60000000) rfl ?_)
 refine wM_g rfl (wM_b_eql (a := 60000000) (b := 60000000) rfl rfl ?_)
 intro t11 g11; obtain rfl : t11 = true := by rw [← g11]; rfl
 refine wM_pur (v := .bool true) rfl rfl <| wM_mov (v := .bool true) rfl ?_
 refine wM_g rfl (wM_mov (v := iv 0) rfl ?_)
 refine wM_g rfl (wM_b_eql (a := 0) (b := 0) rfl rfl ?_)
 intro t12 g12; obtain rfl : t12 = true := by rw [← g12]; rfl
 refine wM_pur (v := .bool true) rfl rfl <| wM_mov (v := .bool true) rfl <| wM_end ?_
 exact And.intro trivial (Exists.intro _ (And.intro rfl rfl))
end
end
end Go.Ax

/-
 Proved here: 'awake', the closed part that every law of pool ends in, returns true in every world, whatever is drawn, and leaves what lay below as it was. Conditions: none.
 It has no arguments; it is worked out by the contracts of the functions that it calls (Q16).
-/
namespace Go.Ax
open Go Go.RowKit
theorem known_one {P : Program} {g : FuncId} {t : Bool} (hb : ((P.funcs[g]?).bind (fun fn => fn.body)).isSome = true) (hc : ∀ w, Calls P g #[] w fun e w' => e = .returned (.bool t) ∧ Below w.heap.size w w') :
  Known P ⟨fun f => bif Nat.beq f g then some t else none, fun _ _ _ _ => none⟩ := by
 refine ⟨?_, fun f lo args H v H' _ h => by cases h⟩
 intro f b h
 obtain ⟨hf, h1⟩ := bif_some h
 clear h
 have hf := Nat.eq_of_beq_eq_true hf
 subst hf
 cases h1
 refine ⟨?_, hc⟩
 cases hx : P.funcs[f]? with
 | none => rw [hx] at hb; cases hb
 | some fn =>
  rw [hx] at hb
  cases hy : fn.body with
  | none => rw [Option.bind_some, hy] at hb; cases hb
  | some c => exact ⟨fn, c, rfl, hy⟩
theorem known_nothing {P : Program} : Known P ⟨fun _ => none, fun _ _ _ _ => none⟩ := ⟨KnownB.nothing P, fun f lo args H v H' _ h => by cases h⟩
end Go.Ax
namespace Go.Proofs.Ytabiecloimmjdaa.alive
open Go.RowKit
theorem mixed : Try.prog.follows .mixedOrders = true := by kernel_rfl
theorem plainNames : (Try.prog.funcs.toList.all fun fn => !(fn.name == "runtime.NumGoroutine")) = true := by kernel_rfl
theorem noCount : Go.Ax.NoCount Try.prog := fun f fn h => by
 have h2 := List.all_eq_true.1 plainNames fn (by
  have := Array.mem_of_getElem? h
  simpa using this)
 simpa using h2
theorem call (w : World) : Calls Try.prog 11 #[] w fun e w' => e = .returned (.bool true) ∧ Below w.heap.size w w' :=
 Go.Ax.closed_callC (Go.Ax.awake_C ⟨mixed, noCount, Go.Ax.known_nothing⟩ (Nat.zero_le _)) w
theorem known : Go.Ax.Known Try.prog ⟨fun f => bif Nat.beq f 11 then some true else none, fun _ _ _ _ => none⟩ := Go.Ax.known_one (by kernel_rfl) call
theorem snd : Go.Ax.Snd Try.prog ⟨fun f => bif Nat.beq f 11 then some true else none, fun _ _ _ _ => none⟩ := ⟨mixed, noCount, known⟩
end Go.Proofs.Ytabiecloimmjdaa.alive

/-
 Pool: the law PoolSettles, whatever the input (written by program).
-/
namespace Go.Ax
open Go Go.RowKit Go.Proofs

theorem stL_len {us : List Pr} {adv : Int} {ds : List Dl} {rev : Int} : (stL us adv ds rev).length ≤ 1024 := by
 unfold stL
 split
 ·unfold grl
  refine Nat.le_trans (List.length_filter_le _ _) ?_
  simp
 ·simp
noncomputable section
section
variable {kn : Kn} {lo : Nat} {H : Hp}
set_option maxRecDepth 100000 in
set_option maxHeartbeats 4000000 in
theorem law_settles (s : Snd Try.prog kn) (hkn : kn.b 11 = some true) {us : List Pr} {sa : Option Addr} {n cap : Nat} {adv : Int} (hs : Sl H sa n cap (prc us)) (hl : us.length = n) {ds : List Dl} {la : Option Addr} {m capl : Nat} (hd : Sl H la m capl (dlc ds)) (hm : ds.length = m) {rev gr wanted : Int} (hlo : lo ≤ H.next) : FnC Try.prog lo 4 [.agg #[.slice sa n cap, iv adv], .slice la m capl, iv rev, iv gr, iv wanted] H fun v _ => v = .bool true := by
 refine fnC_low s Try.func4 B4 N4 Z4 L4 (by simp) ?_
 have hk := Keep.refl H []
 have fs := hs.old
 have fd := hd.old
 refine wM_seq <| wM_box (v := .agg #[.slice sa n cap, iv adv]) rfl ?_
 intro H1 kH1 nH1 c1
 have c1 : Cl H1 H.next [.slice sa n cap, iv adv] := c1
 have mH1 := kH1.1
 have hk := hk.trans kH1
 have hs := kH1.sl0 hs
 have hd := kH1.sl0 hd
 refine wM_mov (v := .bool false) rfl <| wM_end <| wM_seq <| wM_lda (b := H.next) (o := 0) rfl c1.rd (show row 2 _ _ = some [.slice sa n cap, iv adv] from rfl) <| wM_mov (v := .slice la m capl) rfl <| wM_callB s rfl (many_ok (sa := sa) (n := n) (cap := cap) (adv := adv) (la := la) (m := m) (capl := capl)) ?_
 intro tH2 H2 hH2 kH2
 have mH2 := kH2.1
 have hk := hk.trans kH2
 have hs := kH2.sl0 hs
 have hd := kH2.sl0 hd
 have c1 := kH2.cl c1 (by simp)
 cases tH2
 ·have hmany : n ≤ 12 ∧ m ≤ 132 := by have q : manyB n m = false := hH2; unfold manyB at q; simp at q; omega
  have hn : n ≤ 1000000 := by omega
  refine wM_end <| condF ?_
  first | refine wM_skip ?_ | skip
  refine wM_seq <| wM_lda (b := H.next) (o := 0) rfl c1.rd (show row 2 _ _ = some [.slice sa n cap, iv adv] from rfl) <| wM_mov (v := .slice la m capl) rfl <| wM_call (t := .fn (.func 16) #[]) rfl (callM_args s.hN (Advances_ok (H := H2) s (adv := adv) hs hl hn hd hm (by omega) (by omega))) ?_
  rintro _ H3 ⟨rfl, kH3⟩
  have mH3 := kH3.1
  have hk := hk.trans kH3
  have hs := kH3.sl0 hs
  have hd := kH3.sl0 hd
  have c1 := kH3.cl c1 (by simp)
  refine wM_mov (v := .tuple #[iv (avV us adv ds), iv (avE us adv ds)]) rfl <| wM_pur (v := iv (avV us adv ds)) rfl (by kernel_rfl) <| wM_pur (v := iv (avE us adv ds)) rfl (by kernel_rfl) <| wM_mov (v := iv (avV us adv ds)) rfl <| wM_mov (v := iv (avE us adv ds)) rfl <| wM_end <| wM_seq <| wM_lda (b := H.next) (o := 0) rfl c1.rd (show row 2 _ _ = some [.slice sa n cap, iv adv] from rfl) <| wM_mov (v := .slice la m capl) rfl ?_
  obtain ⟨H4, fH4, kH4⟩ := refAdvances_ok (kn := kn) (lo := lo) (H := H3) (adv := adv) hs hl hn hd hm (by omega) (by omega)
  refine wM_callf s (vs := [.agg #[.slice sa n cap, iv adv], .slice la m capl]) rfl (callX_args fH4) ?_
  have mH4 := kH4.1
  have hk := hk.trans kH4
  have hs := kH4.sl0 hs
  have hd := kH4.sl0 hd
  have c1 := kH4.cl c1 (by simp)
  refine wM_mov (v := .tuple #[iv (avV us adv ds), iv (avE us adv ds)]) rfl <| wM_pur (v := iv (avV us adv ds)) rfl (by kernel_rfl) <| wM_pur (v := iv (avE us adv ds)) rfl (by kernel_rfl) <| wM_mov (v := iv (avV us adv ds)) rfl <| wM_mov (v := iv (avE us adv ds)) rfl <| wM_end <| wM_seq <| wM_lda (b := H.next) (o := 0) rfl c1.rd (show row 2 _ _ = some [.slice sa n cap, iv adv] from rfl) <| wM_mov (v := .slice la m capl) rfl <| wM_mov (v := iv rev) rfl <| wM_call (t := .fn (.func 18) #[]) rfl (callM_args s.hN (Settle_ok (H := H4) s (adv := adv) hs hl hn hd hm (by omega) (by omega) (rev := rev))) ?_
  rintro _ H5 ⟨pva, rfl, haa, kH5⟩
  have mH5 := kH5.1
  have hk := hk.trans kH5
  have hs := kH5.sl0 hs
  have hd := kH5.sl0 hd
  have c1 := kH5.cl c1 (by simp)
  obtain ⟨paa, capa, rfl, hpa, _⟩ := haa.sl
  have fpa := hpa.old
  refine wM_mov (v := .tuple #[.slice paa ((stL us adv ds rev).length) capa, iv (stK us adv ds rev), iv (stE us adv ds rev)]) rfl <| wM_pur (v := .slice paa ((stL us adv ds rev).length) capa) rfl (by kernel_rfl) <| wM_pur (v := iv (stK us adv ds rev)) rfl (by kernel_rfl) <| wM_pur (v := iv (stE us adv ds rev)) rfl (by kernel_rfl) <| wM_mov (v := .slice paa ((stL us adv ds rev).length) capa) rfl <| wM_mov (v := iv (stK us adv ds rev)) rfl <| wM_mov (v := iv (stE us adv ds rev)) rfl <| wM_end <| wM_seq <| wM_lda (b := H.next) (o := 0) rfl c1.rd (show row 2 _ _ = some [.slice sa n cap, iv adv] from rfl) <| wM_mov (v := .slice la m capl) rfl <| wM_mov (v := iv rev) rfl ?_
  obtain ⟨pvb, H6, fH6, hab, kH6⟩ := refSettle_ok (kn := kn) (lo := lo) (H := H5) (adv := adv) hs hl hn hd hm (by omega) (by omega) (rev := rev)
  obtain ⟨pab, capb, rfl, hpb, _⟩ := hab.sl
  have fpb := hpb.old
  refine wM_callf s (vs := [.agg #[.slice sa n cap, iv adv], .slice la m capl, iv rev]) rfl (callX_args fH6) ?_
  have mH6 := kH6.1
  have hk := hk.trans kH6
  have hs := kH6.sl0 hs
  have hd := kH6.sl0 hd
  have c1 := kH6.cl c1 (by simp)
  have hpa := kH6.sl0 hpa
  refine wM_mov (v := .tuple #[.slice pab ((stL us adv ds rev).length) capb, iv (stK us adv ds rev), iv (stE us adv ds rev)]) rfl <| wM_pur (v := .slice pab ((stL us adv ds rev).length) capb) rfl (by kernel_rfl) <| wM_pur (v := iv (stK us adv ds rev)) rfl (by kernel_rfl) <| wM_pur (v := iv (stE us adv ds rev)) rfl (by kernel_rfl) <| wM_mov (v := .slice pab ((stL us adv ds rev).length) capb) rfl <| wM_mov (v := iv (stK us adv ds rev)) rfl <| wM_mov (v := iv (stE us adv ds rev)) rfl <| wM_end <| wM_seq <| wM_lda (b := H.next) (o := 0) rfl c1.rd (show row 2 _ _ = some [.slice sa n cap, iv adv] from rfl) <| wM_mov (v := .slice la m capl) rfl <| wM_mov (v := iv gr) rfl ?_
  refine wM_mov (v := iv wanted) rfl <| wM_call (t := .fn (.func 20) #[]) rfl (callM_args s.hN (Break_ok (H := H6) s (adv := adv) hs hl hn hd hm (by omega) (by omega) (gr := gr) (wanted := wanted))) ?_
  rintro _ H7 ⟨x1, e1, rfl, h1, kH7⟩
  have mH7 := kH7.1
  have hk := hk.trans kH7
  have hs := kH7.sl0 hs
  have hd := kH7.sl0 hd
  have c1 := kH7.cl c1 (by simp)
  have hpa := kH7.sl0 hpa
  have hpb := kH7.sl0 hpb
  refine wM_mov (v := .tuple #[iv x1, iv e1]) rfl <| wM_pur (v := iv x1) rfl (by kernel_rfl) <| wM_pur (v := iv e1) rfl (by kernel_rfl) <| wM_mov (v := iv x1) rfl <| wM_mov (v := iv e1) rfl <| wM_end <| wM_seq <| wM_lda (b := H.next) (o := 0) rfl c1.rd (show row 2 _ _ = some [.slice sa n cap, iv adv] from rfl) <| wM_mov (v := .slice la m capl) rfl <| wM_mov (v := iv gr) rfl <| wM_mov (v := iv wanted) rfl ?_
  obtain ⟨x2, e2, H8, fH8, h2, kH8⟩ := refBreak_ok (kn := kn) (lo := lo) (H := H7) (adv := adv) hs hl hn hd hm (by omega) (by omega) (gr := gr) (wanted := wanted)
  obtain ⟨rfl, rfl⟩ := h1.uniq h2
  refine wM_callf s (vs := [.agg #[.slice sa n cap, iv adv], .slice la m capl, iv gr, iv wanted]) rfl (callX_args fH8) ?_
  have mH8 := kH8.1
  have hk := hk.trans kH8
  have hs := kH8.sl0 hs
  have hd := kH8.sl0 hd
  have c1 := kH8.cl c1 (by simp)
  have hpa := kH8.sl0 hpa
  have hpb := kH8.sl0 hpb
  refine wM_mov (v := .tuple #[iv x1, iv e1]) rfl <| wM_pur (v := iv x1) rfl (by kernel_rfl) <| wM_pur (v := iv e1) rfl (by kernel_rfl) <| wM_mov (v := iv x1) rfl <| wM_mov (v := iv e1) rfl <| wM_end <| wM_seq <| wM_mov (v := iv (avV us adv ds)) rfl <| wM_mov (v := iv (avV us adv ds)) rfl <| wM_eql (a := avV us adv ds) rfl rfl <| wM_mov (v := .bool true) rfl ?_
  refine wM_g rfl (wM_mov (v := iv (avE us adv ds)) rfl ?_)
  refine wM_g rfl (wM_mov (v := iv (avE us adv ds)) rfl ?_)
  refine wM_g rfl (wM_eql (a := avE us adv ds) rfl rfl ?_)
  refine wM_pur (v := .bool true) rfl rfl <| wM_mov (v := .bool true) rfl ?_
  refine wM_g rfl (wM_mov (v := .slice paa ((stL us adv ds rev).length) capa) rfl ?_)
  refine wM_g rfl (wM_mov (v := .slice pab ((stL us adv ds rev).length) capb) rfl ?_)
  obtain ⟨H9, fH9, kH9⟩ := pays_ok (kn := kn) (lo := lo) (H := H8) hpa hpb (Nat.le_trans stL_len (by omega)) (by omega)
  refine wM_g rfl (wM_callf s (vs := [.slice paa ((stL us adv ds rev).length) capa, .slice pab ((stL us adv ds rev).length) capb]) rfl (callX_args fH9) ?_)
  have mH9 := kH9.1
  have hk := hk.trans kH9
  have hs := kH9.sl0 hs
  have hd := kH9.sl0 hd
  have c1 := kH9.cl c1 (by simp)
  have hpa := kH9.sl0 hpa
  have hpb := kH9.sl0 hpb
  refine wM_pur (v := .bool true) rfl rfl <| wM_mov (v := .bool true) rfl ?_
  refine wM_g rfl (wM_mov (v := iv (stK us adv ds rev)) rfl ?_)
  refine wM_g rfl (wM_mov (v := iv (stK us adv ds rev)) rfl ?_)
  refine wM_g rfl (wM_eql (a := stK us adv ds rev) rfl rfl ?_)
  refine wM_pur (v := .bool true) rfl rfl <| wM_mov (v := .bool true) rfl ?_
  refine wM_g rfl (wM_mov (v := iv (stE us adv ds rev)) rfl ?_)
  refine wM_g rfl (wM_mov (v := iv (stE us adv ds rev)) rfl ?_)
  refine wM_g rfl (wM_eql (a := stE us adv ds rev) rfl rfl ?_)
  refine wM_pur (v := .bool true) rfl rfl <| wM_mov (v := .bool true) rfl ?_
  refine wM_g rfl (wM_mov (v := iv x1) rfl ?_)
  refine wM_g rfl (wM_mov (v := iv x1) rfl ?_)
  refine wM_g rfl (wM_eql (a := x1) rfl rfl ?_)
  refine wM_pur (v := .bool true) rfl rfl <| wM_mov (v := .bool true) rfl ?_
  refine wM_g rfl (wM_mov (v := iv e1) rfl ?_)
  refine wM_g rfl (wM_mov (v := iv e1) rfl ?_)
  refine wM_g rfl (wM_eql (a := e1) rfl rfl ?_)
  refine wM_pur (v := .bool true) rfl rfl <| wM_mov (v := .bool true) rfl ?_
  refine wM_g rfl (wM_callf s (vs := []) rfl (callX_known hkn) ?_)
  refine wM_pur (v := .bool true) rfl rfl <| wM_mov (v := .bool true) rfl <| wM_end ?_
  exact And.intro trivial (Exists.intro _ (And.intro rfl rfl))
 ·refine wM_end <| condT <| wM_seq <| wM_callf s (vs := []) rfl (callX_known hkn) <| wM_mov (v := .bool true) rfl <| wM_end ?_
  exact And.intro trivial (Exists.intro _ (And.intro rfl rfl))
end
end
end Go.Ax

namespace Go.Ax
open Go Go.RowKit Go.Proofs Go.ChangeShapes Go.WideShapes Go.Deep

def IntT (P : Program) (t : TypeId) : Prop := ∀ (H : Type) (enc : TypeId × Value → H) (w : World) (base : Nat) (spare : Nat → Bool) (held : Bool) (fuel : Nat) (cs : List Value) (x : DataW H × List MemPlace),
 DataW.trod enc P w base spare held fuel t cs = some x → cs.length = P.cellsOf t ∧ ∀ j, j < cs.length → ∃ n, cs[j]? = some (.int .i64 n)
theorem IntT.int {P : Program} {t : TypeId} (ht : P.underlying t = some (.int .i64)) (hc : P.cellsOf t = 1) : IntT P t := by
 intro H enc w base spare held fuel cs x h
 obtain ⟨n, rfl, _⟩ := DataW.trod_int ht h
 refine ⟨by rw [hc]; rfl, fun j hj => ⟨n, ?_⟩⟩
 have : j = 0 := by simp at hj; omega
 subst this; rfl
theorem IntT.struct {P : Program} {t : TypeId} {fs : Array Field} (ht : P.underlying t = some (.struct fs)) (hf : ∀ f ∈ fs.toList, IntT P f.type)
  (hcov : ((List.range (P.cellsOf t)).all fun j => fs.toList.any fun f => decide (f.offset ≤ j) && decide (j < f.offset + P.cellsOf f.type)) = true) : IntT P t := by
 intro H enc w base spare held fuel cs x h
 obtain ⟨xs, n, _, _, hlen, hxl, hg⟩ := DataW.trod_struct ht h
 refine ⟨hlen, fun j hj => ?_⟩
 have h1 := List.all_eq_true.1 hcov j (List.mem_range.2 (by omega))
 obtain ⟨f, hfm, h2⟩ := List.any_eq_true.1 h1
 simp only [Bool.and_eq_true, decide_eq_true_eq] at h2
 obtain ⟨i, hi, hfi⟩ := List.getElem_of_mem hfm
 have hfs : fs[i]? = some f := by
  rw [← Array.getElem?_toList, List.getElem?_eq_getElem hi, hfi]
 have hi2 : i < xs.length := by simpa [hxl] using hi
 have h3 := hg i f hfs
 rw [List.getElem?_eq_getElem hi2] at h3
 obtain ⟨h4, h5⟩ := hf f hfm _ _ _ _ _ _ _ _ _ h3
 obtain ⟨m, hm⟩ := h5 (j - f.offset) (by omega)
 refine ⟨m, ?_⟩
 rw [List.getElem?_take] at hm
 split at hm
 ·rw [List.getElem?_drop, show f.offset + (j - f.offset) = j by omega] at hm; exact hm
 ·cases hm

structure Given {α : Type} (w : World) (v : Value) (f : α → List Value) (l : List α) (x : Imp) : Prop where
 ok : ∀ (i : Nat) u, x.cs[i]? = some u → w.cell? ⟨x.blk, x.off + i, none⟩ = some u ∧ flat1 u = true
 cs : x.cs = l.flatMap f
 v : (v = .slice none 0 0 ∧ l = []) ∨ ∃ cap, v = .slice (some ⟨x.blk, x.off, none⟩) l.length cap ∧ l.length ≤ cap
theorem flat_get {α : Type} {f : α → List Value} {k : Nat} (hk : 0 < k) : ∀ {l : List α} (_ : ∀ x ∈ l, (f x).length = k) (i : Nat) (u : Value), (l.flatMap f)[i]? = some u → ∃ x, l[i / k]? = some x ∧ (f x)[i % k]? = some u
 | [], _, i, u, h => by simp at h
 | y :: r, hl, i, u, h => by
  have hy := hl y (List.mem_cons_self ..)
  rw [List.flatMap_cons, List.getElem?_append] at h
  split at h
  ·rename_i q
   rw [hy] at q
   refine ⟨y, ?_, ?_⟩
   ·rw [Nat.div_eq_of_lt q]; rfl
   ·rw [Nat.mod_eq_of_lt q]; exact h
  ·rename_i q
   rw [hy] at q h
   obtain ⟨x, h1, h2⟩ := flat_get hk (fun x hx => hl x (List.mem_cons_of_mem _ hx)) _ u h
   refine ⟨x, ?_, ?_⟩
   ·rw [Nat.div_eq_sub_div hk (by omega)]; exact h1
   ·rw [Nat.mod_eq_sub_mod (by omega)]; exact h2
theorem slice_given {H : Type} {enc : TypeId × Value → H} {P : Program} {w : World} {base b0 : Nat} {r : Reach} {held : Bool} {α : Type} (f : α → List Value) (mk : (Nat → Int) → α) (k : Nat) {t e : TypeId} {fuel : Nat} {v : Value} {x : DataW H × List MemPlace}
  (ht : P.underlying t = some (.slice e)) (hI : IntT P e) (hc : P.cellsOf e = k) (hk : 0 < k) (hmk : ∀ N : Nat → Int, f (mk N) = (List.range k).map fun j => Value.int .i64 (N j))
  (hok : Cell.okWide P w r b0 t v) (h : DataW.trod enc P w base (fun _ => true) held fuel t [v] = some x) : ∃ (l : List α) (y : Imp), Given w v f l y := by
 rcases open_slice ht h with ⟨h0, _⟩ | ⟨a, len, cap, m, n, D, Pl, hcs, hb, hl, hm, hmm, hx, hi⟩
 ·cases h0
  exact ⟨[], ⟨0, 0, []⟩, fun i u e => by simp at e, rfl, .inl ⟨rfl, rfl⟩⟩
 ·cases hcs
  obtain ⟨blk, off, spot⟩ := a
  have hs : spot = none := by
   unfold Cell.okWide at hok
   rw [ht] at hok
   unfold Cell.ok at hok
   simp only [ht] at hok
   exact hok.2.2.2.1
  subst hs
  simp only [if_true] at hmm
  subst hmm
  have hcell : ∀ i, i < len → ∀ j, j < k → ∃ n, w.cell? ⟨blk, off + (i * k + j), none⟩ = some (.int .i64 n) := by
   intro i hil j hj
   obtain ⟨cs', h1, h2⟩ := hi i (by omega)
   obtain ⟨h3, h4⟩ := hI _ _ _ _ _ _ _ _ _ h2
   obtain ⟨_, h5, h6⟩ := World.cells?_some h1
   obtain ⟨n, hn⟩ := h4 j (by omega)
   refine ⟨n, ?_⟩
   have h7 := h6 j (by omega)
   rw [hn, hc, add_add] at h7
   have e : (⟨blk, off, none⟩ : Addr).add (i * k + j) = ⟨blk, off + (i * k + j), none⟩ := by
    unfold Addr.add
    by_cases q : i * k + j = 0
    ·simp [q]
    ·simp
   rw [e] at h7
   exact h7
  refine ⟨(List.range len).map fun i => mk fun j => match w.cell? ⟨blk, off + (i * k + j), none⟩ with | some (.int _ n) => n | _ => 0, ⟨blk, off, _⟩, ?_, rfl, .inr ⟨m, by simp, by simpa using hl⟩⟩
  intro i u hu
  obtain ⟨y, h1, h2⟩ := flat_get hk (fun y hy => by
   obtain ⟨i, _, rfl⟩ := List.mem_map.1 hy
   rw [hmk]; simp) i u hu
  have hlt : i / k < len := by
   have := get_lt h1
   simpa using this
  rw [List.getElem?_map, List.getElem?_range hlt] at h1
  simp only [Option.map_some, Option.some.injEq] at h1
  subst h1
  have hj : i % k < k := Nat.mod_lt _ hk
  rw [hmk, List.getElem?_map, List.getElem?_range hj] at h2
  simp only [Option.map_some, Option.some.injEq] at h2
  obtain ⟨n, hn⟩ := hcell _ hlt _ hj
  rw [hn] at h2
  subst h2
  rw [Nat.div_add_mod' ] at hn
  exact ⟨hn, rfl⟩
theorem Given.rel {α : Type} {w : World} {v : Value} {f : α → List Value} {l : List α} {x : Imp} (g : Given w v f l x) {r : Ren} {H : Hp} {b : Nat} (hr : r b = some ⟨x.blk, x.off, none⟩) (hb : b < H.next) (hc : cellsOf H b = some x.cs) (hro : H.t.get b = some (.ro x.cs)) :
  ∃ a cap, VR r (.slice a l.length cap) v ∧ Sl H a l.length cap (l.flatMap f) ∧ ∀ b, a = some ⟨b, 0, none⟩ → H.t.get b = some (.ro (l.flatMap f)) := by
 rcases g.v with ⟨rfl, rfl⟩ | ⟨cap, rfl, hl⟩
 ·exact ⟨none, 0, .nilSlice, .inl ⟨.inl rfl, rfl, rfl, rfl⟩, fun b e => by cases e⟩
 ·refine ⟨some ⟨b, 0, none⟩, cap, ?_, .inr ⟨b, rfl, ⟨hb, by rw [hc, g.cs]⟩, hl⟩, fun b' e => by cases e; rw [hro, g.cs]⟩
  have := VR.slice (o := 0) (n := l.length) (c := cap) hr rfl hl
  simpa using this
end Go.Ax

/-! Slices of rows of plain cells, as arguments. -/
namespace Go.Ax
open Go Go.RowKit Go.Proofs Go.ChangeShapes Go.WideShapes Go.Deep

theorem IntT.row {α : Type} {P : Program} {t : TypeId} {k : Nat} {f : α → List Value} {mk : (Nat → Int) → α} (h : IntT P t) (hc : P.cellsOf t = k) (hmk : ∀ N : Nat → Int, f (mk N) = (List.range k).map fun j => Value.int .i64 (N j))
  {H : Type} {enc : TypeId × Value → H} {w : World} {base : Nat} {spare : Nat → Bool} {held : Bool} (fuel : Nat) (cs : List Value) (x : DataW H × List MemPlace) (hx : DataW.trod enc P w base spare held fuel t cs = some x) : ∃ y : α, cs = f y ∧ True := by
 obtain ⟨h1, h2⟩ := h _ _ _ _ _ _ _ _ _ hx
 have : ∃ N : Nat → Int, ∀ j, j < cs.length → cs[j]? = some (.int .i64 (N j)) := by
  refine ⟨fun j => match cs[j]? with | some (.int _ n) => n | _ => 0, fun j hj => ?_⟩
  obtain ⟨n, hn⟩ := h2 j hj
  simp [hn]
 obtain ⟨N, hN⟩ := this
 refine ⟨mk N, ?_, trivial⟩
 rw [hmk]
 apply List.ext_getElem?
 intro j
 by_cases hj : j < k
 ·rw [hN j (by omega), List.getElem?_map, List.getElem?_range hj]; rfl
 ·rw [List.getElem?_eq_none (by omega), List.getElem?_eq_none (by simp; omega)]
end Go.Ax

/-! Arguments that point to what points: inner slices, rows of slices. -/
namespace Go.Ax
open Go Go.RowKit Go.Proofs Go.ChangeShapes Go.WideShapes Go.Deep

def renOf (imps : List Imp) : Ren := fun b => (imps[b]?).map fun x => ⟨x.blk, x.off, none⟩
theorem imports3 {P : Program} (imps outs : List Imp) (w : World) (h : ∀ x ∈ imps, ∀ (i : Nat) v, x.cs[i]? = some v → w.cell? ⟨x.blk, x.off + i, none⟩ = some v ∧ flat1 v = true)
  (hcs : ∀ x ∈ outs, ∀ (i : Nat) v, x.cs[i]? = some v → ∃ v', w.cell? ⟨x.blk, x.off + i, none⟩ = some v' ∧ VR (renOf imps) v v') :
  ∃ (r : Ren) (H : Hp), Rel P r w.heap.size H w ∧ H.next = (imps ++ outs).length ∧ (∀ b loc, r b = some loc → b < H.next) ∧ Ren.Le (renOf imps) r ∧ ∀ (b : Nat) x, (imps ++ outs)[b]? = some x → r b = some ⟨x.blk, x.off, none⟩ ∧ H.t.get b = some (.ro x.cs) := by
 have hall : ∀ x ∈ imps ++ outs, ∀ (i : Nat) v, x.cs[i]? = some v → ∃ v', w.cell? ⟨x.blk, x.off + i, none⟩ = some v' ∧ VR (renOf imps) v v' := by
  intro x hx i v hv
  rcases List.mem_append.1 hx with hx | hx
  ·obtain ⟨h1, h2⟩ := h x hx i v hv
   exact ⟨v, h1, flat1_vr h2⟩
  ·exact hcs x hx i v hv
 obtain ⟨t, ht⟩ := tr_of (fun b => ((imps ++ outs)[b]?).map fun x => .ro x.cs) (imps ++ outs).length
 have hle : Ren.Le (renOf imps) (fun b => ((imps ++ outs)[b]?).map fun x => ⟨x.blk, x.off, none⟩) := fun b loc e => by
  unfold renOf at e
  have hlt : b < imps.length := by
   rcases Nat.lt_or_ge b imps.length with q | q
   ·exact q
   ·rw [List.getElem?_eq_none q] at e; cases e
  show ((imps ++ outs)[b]?).map _ = _
  rw [List.getElem?_append_left hlt]; exact e
 have hr : ∀ (b : Nat) loc, ((imps ++ outs)[b]?).map (fun x => (⟨x.blk, x.off, none⟩ : Loc)) = some loc → ∃ x, (imps ++ outs)[b]? = some x ∧ b < (imps ++ outs).length ∧ loc = ⟨x.blk, x.off, none⟩ ∧ t.get b = some (.ro x.cs) := by
  intro b loc e
  cases hx : (imps ++ outs)[b]? with
  | none => rw [hx] at e; cases e
  | some x =>
   rw [hx] at e
   simp at e
   have hlt := get_lt hx
   exact ⟨x, rfl, hlt, e.symm, by rw [ht, if_pos hlt, hx]; rfl⟩
 have low : ∀ {g o : Nat} {v : Value}, w.cell? ⟨g, o, none⟩ = some v → g < w.heap.size := fun {g o v} hv => by
  unfold World.cell? at hv
  rcases Nat.lt_or_ge g w.heap.size with q | q
  ·exact q
  ·rw [Array.getElem?_eq_none q] at hv; cases hv
 refine ⟨fun b => ((imps ++ outs)[b]?).map fun x => ⟨x.blk, x.off, none⟩, { next := (imps ++ outs).length, t }, ⟨?_, ?_, ?_, Nat.le_refl _⟩, rfl, ?_, hle, ?_⟩
 ·intro b loc e
  obtain ⟨x, hx, hlt, rfl, hg⟩ := hr b loc e
  refine ⟨hlt, ?_⟩
  show Dm _ _ _ (t.get b)
  rw [hg]
  cases hc : x.cs with
  | nil => exact .inl rfl
  | cons v l =>
   obtain ⟨v', h1, _⟩ := hall x (List.mem_of_getElem? hx) 0 v (by rw [hc]; rfl)
   exact .inr (low h1)
 ·intro b loc o e eo
  obtain ⟨x, hx, hlt, rfl, hg⟩ := hr b loc e
  rw [hg] at eo; cases eo
  refine ⟨rfl, fun i v ev => ?_⟩
  obtain ⟨v', h1, h2⟩ := hall x (List.mem_of_getElem? hx) i v ev
  unfold World.cell? at h1
  simp only at h1
  split at h1
  ·rename_i C e' f hC
   exact ⟨C, e', f, v', hC, by simpa using h1, h2.mono hle⟩
  ·cases h1
 ·intro b b' loc loc' e e' _ hl _
  obtain ⟨x, hx, hlt, rfl, hg⟩ := hr b loc e
  obtain ⟨o, h1, h2, h3⟩ := hl
  have : t.get b = some o := h1
  rw [hg] at this; cases this
  cases h3
 ·intro b loc e
  obtain ⟨x, hx, hlt, rfl, hg⟩ := hr b loc e
  exact hlt
 ·intro b x hx
  have hlt := get_lt hx
  refine ⟨by simp only [hx, Option.map_some], ?_⟩
  show t.get b = _
  rw [ht, if_pos hlt, hx]; rfl

structure GivI {α : Type} (w : World) (v : Value) (f : α → List Value) (l : List α) (x : Imp) : Prop where
 ok : ∀ (i : Nat) u, x.cs[i]? = some u → w.cell? ⟨x.blk, x.off + i, none⟩ = some u ∧ flat1 u = true
 cs : x.cs = l.flatMap f
 v : ((v = .slice none 0 0 ∨ ∃ a', v = .slice (some a') 0 0) ∧ l = []) ∨ ∃ cap, v = .slice (some ⟨x.blk, x.off, none⟩) l.length cap ∧ l.length ≤ cap
theorem GivI.rel {α : Type} {w : World} {v : Value} {f : α → List Value} {l : List α} {x : Imp} (g : GivI w v f l x) {r : Ren} {b : Nat} (hr : r b = some ⟨x.blk, x.off, none⟩) :
  ∃ a cap, VR r (.slice a l.length cap) v ∧ (∀ y, a = some ⟨y, 0, none⟩ → y = b) ∧ ∀ H : Hp, b < H.next → H.t.get b = some (.ro x.cs) → Sl H a l.length cap (l.flatMap f) := by
 rcases g.v with ⟨rfl | ⟨a', rfl⟩, rfl⟩ | ⟨cap, rfl, hl⟩
 ·exact ⟨none, 0, .nilSlice, fun y e => by (cases e), fun H _ _ => .inl ⟨.inl rfl, rfl, rfl, rfl⟩⟩
 ·exact ⟨some ⟨0, 0, some 0⟩, 0, .weird, fun y e => by (cases e), fun H _ _ => .inl ⟨.inr rfl, rfl, rfl, rfl⟩⟩
 ·refine ⟨some ⟨b, 0, none⟩, cap, ?_, fun y e => by (cases e; rfl), fun H hb hc => .inr ⟨b, rfl, ⟨hb, by unfold cellsOf; rw [hc, g.cs]⟩, hl⟩⟩
  have := VR.slice (o := 0) (n := l.length) (c := cap) hr rfl hl
  simpa using this
structure RV where
 rv : Value
 l : List Int
 x : Imp
def RV.f (r : RV) : List Value := [r.rv]
def RV.Q (w : World) (r : RV) : Prop := GivI w r.rv (fun n : Int => [iv n]) r.l r.x
end Go.Ax

/-! What is flat as arguments. -/
namespace Go.Ax
open Go Go.RowKit Go.Proofs Go.ChangeShapes Go.WideShapes Go.Deep

theorem imports_flat {P : Program} (pre : List Imp) {w : World} (h : ∀ x ∈ pre, ∀ (i : Nat) v, x.cs[i]? = some v → w.cell? ⟨x.blk, x.off + i, none⟩ = some v ∧ flat1 v = true) :
  ∃ (r : Ren) (H : Hp), Rel P r w.heap.size H w ∧ (∀ b loc, r b = some loc → b < H.next) ∧ (∀ (b : Nat) x, pre[b]? = some x → b < H.next ∧ r b = some ⟨x.blk, x.off, none⟩ ∧ H.t.get b = some (.ro x.cs)) := by
 obtain ⟨r, H, h1, h2, h3, h4, h5⟩ := imports3 (P := P) pre [] w h (fun x hx => by simp at hx)
 refine ⟨r, H, h1, h3, fun b x hx => ?_⟩
 have := get_lt hx
 obtain ⟨a, c⟩ := h5 b x (by simpa using hx)
 exact ⟨by rw [h2]; simpa using this, a, c⟩
end Go.Ax


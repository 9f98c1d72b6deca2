import Derived.Test.YtbgdbnnbfankeaaMb
import Derived.Test.YtbgdbnnbfankeaaChecked
import Derived.Test.YtbgdbnnbfankeaaAxO
import Derived.Deep.Slices
import Derived.Deep.Fields
import Derived.ChangeSame
set_option linter.all false
/-
  Plant: validPlant, Check, and what the document says of them (written by program).
-/
namespace Go.Ax
open Go Go.RowKit Go.Proofs

theorem row1_of {cs : List Value} {i : Nat} {v : Value} (h : cs[i]? = some v) : row 1 cs i = some [v] := by
  unfold row
  have e : (cs.drop i).take 1 = [v] := by
    have hlt := get_lt h
    rw [List.drop_eq_getElem_cons hlt, List.take_succ_cons, List.take_zero]
    rw [List.getElem?_eq_getElem hlt] at h; cases h; rfl
  rw [e]; rfl
theorem Ou.ok_iff {o : Ou} {i n : Int} : o.ok i n = true ↔ ((-16 ≤ o.to ∧ o.to < 0) ∨ (i < o.to ∧ o.to < n)) ∧ (0 ≤ o.m ∧ o.m ≤ 1000) ∧ (0 ≤ o.s ∧ o.s ≤ 1000) ∧ (0 ≤ o.a ∧ o.a ≤ 1000) ∧ 0 ≤ o.c ∧ o.c ≤ 1000 := by
  unfold Ou.ok wiQ isw
  simp only [Bool.and_eq_true, Bool.or_eq_true, decide_eq_true_eq]
  show _ ∧ ((((0 ≤ o.m ∧ o.m ≤ 1000) ∧ (0 ≤ o.s ∧ o.s ≤ 1000)) ∧ (0 ≤ o.a ∧ o.a ≤ 1000)) ∧ (0 ≤ o.c ∧ o.c ≤ 1000)) ↔ _
  constructor
  · rintro ⟨a, ⟨⟨b, c⟩, d⟩, e⟩; exact ⟨a, b, c, d, e⟩
  · rintro ⟨a, b, c, d, e⟩; exact ⟨a, ⟨⟨b, c⟩, d⟩, e⟩
theorem max4 {n : Nat} {S : Rg} {d : Option Tmp} {w x y z : Operand} {p : String} {a b c e : Int} (hw : evS S w = some (iv a)) (hx : evS S x = some (iv b)) (hy : evS S y = some (iv c)) (hz : evS S z = some (iv e)) :
    pureOp Try.prog (frS n S) ⟨d, .call ⟨.builtin .max, #[w, x, y, z], #[3, 3, 3, 3]⟩, 3, p, #[], none⟩ = some (iv (max (max (max a b) c) e)) := by
  unfold pureOp
  simp only [evs, ev_frS, hw, hx, hy, hz]
  show some (Value.int .i64 (if e > (if c > (if b > a then b else a) then c else (if b > a then b else a)) then e else (if c > (if b > a then b else a) then c else (if b > a then b else a)))) = _
  rw [mx_int, mx_int, mx_int]
/-- the sum that the document takes: of the first k outlets, without the last one -/
def gvs (l : List Ou) (k : Nat) : List Value := [iv 0, iv (giv l 0 (min k (l.length - 1))), iv (giv l 1 (min k (l.length - 1))), iv (giv l 2 (min k (l.length - 1))), iv (giv l 3 (min k (l.length - 1)))]
theorem gvs_zero (l : List Ou) : gvs l 0 = [iv 0, iv 0, iv 0, iv 0, iv 0] := by unfold gvs; rw [Nat.zero_min]; rfl
theorem gvs_last {l : List Ou} {k : Nat} (h : l.length - 1 ≤ k) : gvs l (k + 1) = gvs l k := by
  unfold gvs; rw [Nat.min_eq_right h, Nat.min_eq_right (by omega)]
theorem gvs_step {l : List Ou} {k : Nat} {y : Ou} (h : l[k]? = some y) (hk : k < l.length - 1) : gvs l (k + 1) = [iv 0, iv (giv l 0 k + y.m), iv (giv l 1 k + y.s), iv (giv l 2 k + y.a), iv (giv l 3 k + y.c)] := by
  have e : l.getD k Ou.z = y := by rw [List.getD_eq_getElem?_getD, h]; rfl
  unfold gvs; rw [Nat.min_eq_left (by omega)]
  have f : ∀ j, giv l j (k + 1) = giv l j k + y.w j := fun j => by show giv l j k + (l.getD k Ou.z).w j = _; rw [e]
  rw [f, f, f, f]; rfl
theorem gvs_at {l : List Ou} {k : Nat} (hk : k < l.length - 1) : gvs l k = [iv 0, iv (giv l 0 k), iv (giv l 1 k), iv (giv l 2 k), iv (giv l 3 k)] := by
  unfold gvs; rw [Nat.min_eq_left (by omega)]
theorem giv_inP {l : List Ou} {i n : Int} {q : Nat} (h : (l.take q).all (fun o => o.ok i n) = true) : ∀ k, k ≤ q → k ≤ l.length → ∀ j, j < 4 → 0 ≤ giv l j k ∧ giv l j k ≤ 1000 * k
  | 0, _, _, _, _ => by show 0 ≤ (0 : Int) ∧ (0 : Int) ≤ 1000 * ((0 : Nat) : Int); omega
  | k + 1, hq, hk, j, hj => by
    have := giv_inP h k (by omega) (by omega) j hj
    have e : l[k]? = some (l.getD k Ou.z) := by rw [List.getD_eq_getElem?_getD, List.getElem?_eq_getElem (by omega)]; rfl
    have hx := List.all_eq_true.1 h (l.getD k Ou.z) (List.mem_of_getElem? (i := k) (by rw [List.getElem?_take_of_lt (by omega)]; exact e))
    have := (Ou.ok_t hx).2 j hj
    show 0 ≤ giv l j k + (l.getD k Ou.z).w j ∧ giv l j k + (l.getD k Ou.z).w j ≤ 1000 * ((k + 1 : Nat) : Int)
    omega
section
variable {kn : FuncId → Option Bool} {lo : Nat} {H : Hp}
/-- validPlant's closure -/
theorem clos64_ok {x : Mc} {i n bm cap : Nat} {sa : Option Addr} (hs : Sl H x.ra x.n x.cap (ouc x.l)) (hl : x.l.length = x.n) (hf : ∀ b, x.ra = some ⟨b, 0, none⟩ → Fy H b (ouc x.l)) (hn2 : x.n ≤ 1000000) (hlo : lo ≤ H.next) (rm : Rd H bm [.slice sa n cap]) : ∃ H', FnX Try.prog kn lo 64 [iv (i : Int), .agg (Mc.f x).toArray, pt bm] H (.bool (mok x.l i n)) H' ∧ Keep H H' [] := by
  have key := fnX_low (kn := kn) (lo := lo) (H := H) (args := [iv (i : Int), .agg (Mc.f x).toArray, pt bm]) (Q := fun w H' => w = .bool (mok x.l i n) ∧ Keep H H' []) Try.func64 B64 N64 Z64 L64 (by simp) ?_
  · obtain ⟨w, H', h, rfl, q⟩ := key; exact ⟨H', h, q⟩
  have hk := Keep.refl H []
  have fs : ∀ b, x.ra = some ⟨b, 0, none⟩ → b < H.next := hs.old
  have lrm := rm.lt
  refine wN_seq ?_
  refine wN_box (v := .agg (Mc.f x).toArray) rfl ?_
  intro H1 kH1 nH1 c1
  have c1 : Cl H1 H.next [.slice x.ra x.n x.cap] := c1
  have mH1 := kH1.1
  have hk := hk.trans kH1
  have rm := kH1.rd rm (by simp)
  have hs := kH1.sl0 hs
  have hf := fun b e => kH1.fy (hf b e) (by simp)
  refine wN_mov (v := .bool false) rfl ?_
  refine wN_end ?_
  refine wN_seq ?_
  refine wN_lda (b := H.next) (o := 0) rfl c1.rd (show row 1 _ _ = some [.slice x.ra x.n x.cap] from rfl) ?_
  refine wN_mov (v := iv (i : Int)) rfl ?_
  refine wN_ld (b := bm) (o := 0) (v := .slice sa n cap) rfl rm rfl ?_
  refine wN_len (m := n) rfl ?_
  obtain ⟨H2, fH2, kH2⟩ := vmachine_ok (kn := kn) (lo := lo) (H := H1) (x := x) (i := i) (m := n) hs hl hf hn2 (by omega)
  refine wN_callf (vs := [.agg (Mc.f x).toArray, iv (i : Int), iv (n : Int)]) rfl (callX_args fH2) ?_
  have mH2 := kH2.1
  have hk := hk.trans kH2
  have rm := kH2.rd rm (by simp)
  have hs := kH2.sl0 hs
  have hf := fun b e => kH2.fy (hf b e) (by simp)
  have c1 := kH2.cl c1 (by simp)
  refine wN_mov (v := .bool (mok x.l i n)) rfl ?_
  refine wN_end ?_
  exact And.intro trivial (Exists.intro _ (And.intro rfl ⟨rfl, hk⟩))
/-- isList of machines -/
theorem list63_ok {bm : Nat} {sa : Option Addr} {n cap f : Nat} {rs : List Mc} (hr : Mcs H f sa n cap rs) (hm : ∀ r ∈ rs, r.n ≤ 1000000) (hn2 : n ≤ 1000000) (hf : f ≤ H.next) (hlo : lo ≤ H.next) (rm : Rd H bm [.slice sa n cap]) : ∃ H', FnX Try.prog kn lo 63 [.slice sa n cap, iv 0, iv 12, .func (.func 64) #[] #[pt bm]] H (.bool (pok (mss rs))) H' ∧ Keep H H' [] := by
  have key := fnX_low (kn := kn) (lo := lo) (H := H) (args := [.slice sa n cap, iv 0, iv 12, .func (.func 64) #[] #[pt bm]]) (Q := fun w H' => w = .bool (pok (mss rs)) ∧ Keep H H' []) Try.func63 B63 N63 Z63 L63 (by simp) ?_
  · obtain ⟨w, H', h, rfl, q⟩ := key; exact ⟨H', h, q⟩
  have hk := Keep.refl H []
  refine wN_seq ?_
  refine wN_mov (v := .bool false) rfl ?_
  refine wN_end ?_
  refine wN_seq ?_
  refine wN_mov (v := .slice sa n cap) rfl ?_
  refine wN_len (m := n) rfl ?_
  refine wN_mov (v := iv 0) rfl ?_
  refine wN_b_lss (a := (n : Int)) (b := 0) rfl rfl ?_
  intro t1 g1; cases t1
  · have g1 : ¬ ((n : Int) < 0) := of_decide_eq_false g1
    refine wN_mov (v := .bool false) rfl ?_
    refine wN_g rfl (wN_mov (v := .slice sa n cap) rfl ?_)
    refine wN_g rfl (wN_len (m := n) rfl ?_)
    refine wN_g rfl (wN_mov (v := iv 12) rfl ?_)
    refine wN_g rfl (wN_b_gtr (a := (n : Int)) (b := 12) rfl rfl ?_)
    intro t2 g2; cases t2
    · have g2 : ¬ ((n : Int) > 12) := of_decide_eq_false g2
      refine wN_pur (v := .bool false) rfl rfl ?_
      refine wN_end ?_
      refine condF ?_
      first | refine wN_skip ?_ | skip
      refine wN_seq ?_
      refine wN_mov (v := .slice sa n cap) rfl ?_
      refine wN_len (m := n) rfl ?_
      refine wN_mov (v := iv 0) rfl ?_
      refine wN_end ?_
      refine loop_low (fn := Try.f63) E63_1 N63 L63x1 (fun i : Nat => [(3, .func (.func 64) #[] #[pt bm]), (21, .slice sa n cap), (22, iv (n : Int)), (23, iv (i : Int))])
        (fun k i H' => i + k = n ∧ Keep H H' [] ∧ Mcs H' f sa n cap rs ∧ Rd H' bm [.slice sa n cap] ∧ ∀ j, j < i → mok ((mss rs).getD j []) j n = true) n 0 ⟨by omega, hk, hr, rm, fun j h => absurd h (by omega)⟩ ⟨rfl, rfl, rfl, rfl, trivial⟩ ?_
      rintro k i L1 ⟨hik, hk, hr, rm, hall⟩
      have mki := hk.1
      have lrm := rm.lt
      refine wN_seq ?_
      refine wN_c_lss (a := (i : Int)) (b := (n : Int)) rfl rfl ?_
      refine wN_end ?_
      refine And.intro (fun q3 => ?_) (fun q3 => ?_)
      · have q3 : (i : Int) < (n : Int) := of_decide_eq_true q3
        have hi : i < n := by omega
        obtain ⟨sb, so, cs, x, hx, esb, rsb, lsf, lcap, hat, hmem⟩ := hr.opn hi
        obtain ⟨hrs, hrl, hrf⟩ := hr.ri x hmem
        have fs : ∀ b, x.ra = some ⟨b, 0, none⟩ → b < f := fun b e => (hrf b e).1
        have hff : ∀ b, x.ra = some ⟨b, 0, none⟩ → Fy L1 b (ouc x.l) := fun b e => (hrf b e).2
        first | refine wN_skip ?_ | skip
        refine wN_seq ?_
        refine wN_mov (v := iv (i : Int)) rfl ?_
        refine wN_idx (b := sb) (o := so) (k := i) (j := (i : Int)) (by rw [← esb]; rfl) rfl rfl hi ?_
        refine wN_lda (b := sb) (o := so + i * 1) rfl rsb (row1_of hat) ?_
        refine wN_alc ?_
        intro H1 kH1 nH1 c1
        have c1 : Cl H1 L1.next [.slice none 0 0] := c1
        have mH1 := kH1.1
        have hk := hk.trans kH1
        have hr := hr.keep kH1 (by simp)
        have rm := kH1.rd rm (by simp)
        have rsb := kH1.rd rsb (by simp)
        have hrs := kH1.sl0 hrs
        have hff := fun b e => kH1.fy (hff b e) (by simp)
        refine wN_mov (v := iv (i : Int)) rfl ?_
        refine wN_sta (b := L1.next) (o := 0) rfl rfl c1 (by omega) rfl rfl (by simp) ?_
        intro H2 kH2 nH2 sH2
        have mH2 := kH2.1
        have hk := hk.new kH2 (fun b hb => by simp at hb ⊢; omega)
        have hr := hr.keep kH2 (fun x hx => by simp at hx; omega)
        have rm := kH2.rd rm (by first | (simp; done) | (simp; omega))
        have rsb := kH2.rd rsb (by first | (simp; done) | (simp; omega))
        have hrs := kH2.sl hrs (fun b e => by have := fs b e; first | (simp; done) | (simp; omega))
        have hff := fun b e => kH2.fy (hff b e) (by have := fs b e; simp; omega)
        have c1 : Cl H2 L1.next [.slice x.ra x.n x.cap] := sH2
        refine wN_end ?_
        refine wN_seq ?_
        refine wN_mov (v := .func (.func 64) #[] #[pt bm]) rfl ?_
        refine wN_mov (v := iv (i : Int)) rfl ?_
        refine wN_lda (b := L1.next) (o := 0) rfl c1.rd (show row 1 _ _ = some [.slice x.ra x.n x.cap] from rfl) ?_
        obtain ⟨H3, fH3, kH3⟩ := clos64_ok (kn := kn) (lo := lo) (H := H2) (x := x) (i := i) hrs hrl hff (hm x hmem) (by omega) rm
        have mH3 := kH3.1
        have hk := hk.trans kH3
        have hr := hr.keep kH3 (by simp)
        have rm := kH3.rd rm (by simp)
        have rsb := kH3.rd rsb (by simp)
        have hrs := kH3.sl0 hrs
        have hff := fun b e => kH3.fy (hff b e) (by simp)
        have c1 := kH3.cl c1 (by simp)
        cases hb : mok x.l i n
        · rw [hb] at fH3
          refine wN_callf (vs := [iv (i : Int), .agg (Mc.f x).toArray]) rfl (callX_func rfl (by simpa using fH3)) ?_
          refine wN_pur (v := .bool true) rfl rfl ?_
          refine wN_end ?_
          refine condT ?_
          refine wN_seq ?_
          refine wN_mov (v := .bool false) rfl ?_
          refine wN_end ?_
          exact And.intro trivial (Exists.intro _ (And.intro rfl ⟨congrArg Value.bool (show false = pok (mss rs) from (by symm; exact pok_fail hr.rl hi (by rw [mss_get hx]; exact hb))), hk⟩))
        · rw [hb] at fH3
          refine wN_callf (vs := [iv (i : Int), .agg (Mc.f x).toArray]) rfl (callX_func rfl (by simpa using fH3)) ?_
          refine wN_pur (v := .bool false) rfl rfl ?_
          refine wN_end ?_
          refine condF ?_
          first | refine wN_skip ?_ | skip
          first | refine wN_reg ?_ | refine wN_blk ?_ | refine wN_bseq ?_ | (refine wOps_nil ?_; refine wN_reg ?_)
          refine wN_add (a := (i : Int)) (b := 1) rfl rfl ⟨by omega, by omega⟩ ?_
          refine wN_mov (v := iv ((i : Int) + 1)) rfl ?_
          refine wN_end ?_
          exact ⟨k - 1, i + 1, by omega, ⟨by omega, hk, hr, rm, fun j hj => by
            by_cases e : j = i
            · subst e; rw [mss_get hx]; exact hb
            · exact hall j (by omega)⟩, rfl, rfl, rfl, rfl, trivial⟩
      · have q3 : ¬ ((i : Int) < (n : Int)) := of_decide_eq_false q3
        refine wN_seq ?_
        refine wN_mov (v := .bool true) rfl ?_
        refine wN_end ?_
        exact And.intro trivial (Exists.intro _ (And.intro rfl ⟨congrArg Value.bool (show true = pok (mss rs) from (by symm; rw [pok_all hr.rl (fun j hj => hall j (by omega)), decide_eq_true (by omega)])), hk⟩))
    · have g2 : (n : Int) > 12 := of_decide_eq_true g2
      refine wN_pur (v := .bool true) rfl rfl ?_
      refine wN_end ?_
      refine condT ?_
      refine wN_seq ?_
      refine wN_mov (v := .bool false) rfl ?_
      refine wN_end ?_
      exact And.intro trivial (Exists.intro _ (And.intro rfl ⟨congrArg Value.bool (show false = pok (mss rs) from (by symm; rw [pok_of hr.rl, decide_eq_false (by omega)]; rfl)), hk⟩))
  · have g1 : (n : Int) < 0 := of_decide_eq_true g1
    refine wN_mov (v := .bool true) rfl ?_
    refine wN_gs rfl ?_
    refine wN_gs rfl ?_
    refine wN_gs rfl ?_
    refine wN_gs rfl ?_
    refine wN_pur (v := .bool true) rfl rfl ?_
    refine wN_end ?_
    refine condT ?_
    refine wN_seq ?_
    refine wN_mov (v := .bool false) rfl ?_
    refine wN_end ?_
    exact And.intro trivial (Exists.intro _ (And.intro rfl ⟨congrArg Value.bool (show false = pok (mss rs) from (by symm; rw [pok_of hr.rl, decide_eq_false (by omega)]; rfl)), hk⟩))
/-- validPlant -/
theorem vplant_ok {sa : Option Addr} {n cap f : Nat} {rs : List Mc} (hr : Mcs H f sa n cap rs) (hm : ∀ r ∈ rs, r.n ≤ 1000000) (hn2 : n ≤ 1000000) (hf : f ≤ H.next) (hlo : lo ≤ H.next) : ∃ H', FnX Try.prog kn lo 42 [.slice sa n cap] H (.bool (pok (mss rs))) H' ∧ Keep H H' [] := by
  have key := fnX_low (kn := kn) (lo := lo) (H := H) (args := [.slice sa n cap]) (Q := fun w H' => w = .bool (pok (mss rs)) ∧ Keep H H' []) Try.func42 B42 N42 Z42 L42 (by simp) ?_
  · obtain ⟨w, H', h, rfl, q⟩ := key; exact ⟨H', h, q⟩
  have hk := Keep.refl H []
  refine wN_seq ?_
  refine wN_box (v := .slice sa n cap) rfl ?_
  intro H1 kH1 nH1 c1
  have c1 : Cl H1 H.next [.slice sa n cap] := c1
  have mH1 := kH1.1
  have hk := hk.trans kH1
  have hr := hr.keep kH1 (by simp)
  refine wN_mov (v := .bool false) rfl ?_
  refine wN_end ?_
  refine wN_seq ?_
  refine wN_ld (b := H.next) (o := 0) (v := .slice sa n cap) rfl c1.rd rfl ?_
  refine wN_pur (v := .func (.func 64) #[] #[pt H.next]) rfl (by kernel_rfl) ?_
  obtain ⟨H2, fH2, kH2⟩ := list63_ok (kn := kn) (lo := lo) (H := H1) (bm := H.next) hr hm hn2 (by omega) (by omega) c1.rd
  refine wN_callf (vs := [.slice sa n cap, iv 0, iv 12, .func (.func 64) #[] #[pt H.next]]) rfl (callX_args fH2) ?_
  have mH2 := kH2.1
  have hk := hk.trans kH2
  have hr := hr.keep kH2 (by simp)
  have c1 := kH2.cl c1 (by simp)
  refine wN_mov (v := .bool (pok (mss rs))) rfl ?_
  refine wN_end ?_
  exact And.intro trivial (Exists.intro _ (And.intro rfl ⟨rfl, hk⟩))
/-- the document's Plant -/
theorem refplant_ok {sa : Option Addr} {n cap f : Nat} {rs : List Mc} (hr : Mcs H f sa n cap rs) (hm : ∀ r ∈ rs, r.n ≤ 1000000) (hn2 : n ≤ 1000000) (hf : f ≤ H.next) (hlo : lo ≤ H.next) : ∃ H', FnX Try.prog kn lo 45 [.slice sa n cap] H (.bool (pok (mss rs))) H' ∧ Keep H H' [] := by
  have key := fnX_low (kn := kn) (lo := lo) (H := H) (args := [.slice sa n cap]) (Q := fun w H' => w = .bool (pok (mss rs)) ∧ Keep H H' []) Try.func45 B45 N45 Z45 L45 (by simp) ?_
  · obtain ⟨w, H', h, rfl, q⟩ := key; exact ⟨H', h, q⟩
  have hk := Keep.refl H []
  refine wN_seq ?_
  refine wN_mov (v := .bool false) rfl ?_
  refine wN_end ?_
  refine wN_seq ?_
  refine wN_mov (v := iv 0) rfl ?_
  refine wN_end ?_
  refine loop_low (fn := Try.f45) E45_1 N45 L45x1 (fun i : Nat => [(0, .slice sa n cap), (3, iv (i : Int))])
    (fun k i H' => i + k = n ∧ Keep H H' [] ∧ Mcs H' f sa n cap rs ∧ ∀ j, j < i → mok ((mss rs).getD j []) j n = true) n 0 ⟨by omega, hk, hr, fun j h => absurd h (by omega)⟩ ⟨rfl, rfl, trivial⟩ ?_
  rintro kk i L1 ⟨hik, hk, hr, hall⟩
  have mki := hk.1
  refine wN_seq ?_
  refine wN_mov (v := iv (i : Int)) rfl ?_
  refine wN_mov (v := .slice sa n cap) rfl ?_
  refine wN_len (m := n) rfl ?_
  refine wN_c_lss (a := (i : Int)) (b := (n : Int)) rfl rfl ?_
  refine wN_end ?_
  refine And.intro (fun q1 => ?_) (fun q1 => ?_)
  · have q1 : (i : Int) < (n : Int) := of_decide_eq_true q1
    have hi : i < n := by omega
    obtain ⟨sb, so, cs, x, hx, esb, rsb, lsf, lcap, hat, hmem⟩ := hr.opn hi
    obtain ⟨hrs, hrl, hrf⟩ := hr.ri x hmem
    have fs : ∀ b, x.ra = some ⟨b, 0, none⟩ → b < f := fun b e => (hrf b e).1
    have hxn := hm x hmem
    first | refine wN_skip ?_ | skip
    refine wN_seq ?_
    refine wN_mov (v := .slice sa n cap) rfl ?_
    refine wN_mov (v := iv (i : Int)) rfl ?_
    refine wN_idx (b := sb) (o := so) (k := i) (j := (i : Int)) (by rw [← esb]; rfl) rfl rfl hi ?_
    refine wN_addo (b := sb) (o := so + i * 1) rfl ?_
    refine wN_ld (b := sb) (o := so + i * 1) (v := .slice x.ra x.n x.cap) rfl rsb hat ?_
    refine wN_mov (v := .slice x.ra x.n x.cap) rfl ?_
    refine wN_end ?_
    refine wN_seq ?_
    refine wN_mov (v := .slice x.ra x.n x.cap) rfl ?_
    refine wN_len (m := x.n) rfl ?_
    refine wN_callB rfl (in50_ok) ?_
    intro tH1 H1 hH1 kH1
    have mH1 := kH1.1
    have hk := hk.trans kH1
    have hr := hr.keep kH1 (by simp)
    have rsb := kH1.rd rsb (by simp)
    have hrs := kH1.sl0 hrs
    cases tH1
    · have fhH1 := inB_f hH1
      refine wN_pur (v := .bool true) rfl rfl ?_
      refine wN_end ?_
      refine condT ?_
      have hb : mok x.l i n = false := by unfold mok; rw [hrl]; simp; omega
      refine wN_seq ?_
      refine wN_mov (v := .bool false) rfl ?_
      refine wN_end ?_
      exact And.intro trivial (Exists.intro _ (And.intro rfl ⟨congrArg Value.bool (show false = pok (mss rs) from (by symm; exact pok_fail hr.rl hi (by rw [mss_get hx]; exact hb))), hk⟩))
    · have fhH1 := inB_t hH1
      refine wN_pur (v := .bool false) rfl rfl ?_
      refine wN_end ?_
      refine condF ?_
      first | refine wN_skip ?_ | skip
      refine wN_seq ?_
      refine wN_alc ?_
      intro H2 kH2 nH2 c2
      have c2 : Cl H2 H1.next [iv 0, iv 0, iv 0, iv 0, iv 0] := c2
      have mH2 := kH2.1
      have hk := hk.trans kH2
      have hr := hr.keep kH2 (by simp)
      have rsb := kH2.rd rsb (by simp)
      have hrs := kH2.sl0 hrs
      refine wN_end ?_
      refine wN_seq ?_
      refine wN_mov (v := iv 0) rfl ?_
      refine wN_end ?_
      refine loop_low (fn := Try.f45) E45_2 N45 L45x2 (fun k : Nat => [(0, .slice sa n cap), (3, iv (i : Int)), (4, .slice x.ra x.n x.cap), (5, pt H1.next), (6, iv (k : Int))])
        (fun d k H' => k + d = x.n ∧ Keep H H' [] ∧ H2.next ≤ H'.next ∧ Mcs H' f sa n cap rs ∧ Sl H' x.ra x.n x.cap (ouc x.l) ∧ Rd H' sb cs ∧ Cl H' H1.next (gvs x.l k) ∧ (x.l.take k).all (fun o => Ou.ok o (i : Int) (n : Int)) = true) x.n 0 ⟨by omega, hk, Nat.le_refl _, hr, hrs, rsb, by rw [gvs_zero]; exact c2, rfl⟩ ⟨rfl, rfl, rfl, rfl, rfl, trivial⟩ ?_
      rintro d k L2 ⟨hkd, hk, hnx, hr, hrs, rsb, cg, hal⟩
      have mkj := hk.1
      refine wN_seq ?_
      refine wN_mov (v := iv (k : Int)) rfl ?_
      refine wN_mov (v := .slice x.ra x.n x.cap) rfl ?_
      refine wN_len (m := x.n) rfl ?_
      refine wN_c_lss (a := (k : Int)) (b := (x.n : Int)) rfl rfl ?_
      refine wN_end ?_
      refine And.intro (fun q2 => ?_) (fun q2 => ?_)
      · have q2 : (k : Int) < (x.n : Int) := of_decide_eq_true q2
        have hk2 : k < x.n := by omega
        obtain ⟨y, hy⟩ := get_some (l := x.l) (i := k) (by omega)
        rcases id hrs with ⟨_, h0, _⟩ | ⟨ub, eub, hud, _⟩
        · omega
        have lub := fs ub eub
        first | refine wN_skip ?_ | skip
        refine wN_seq ?_
        refine wN_mov (v := .slice x.ra x.n x.cap) rfl ?_
        refine wN_mov (v := iv (k : Int)) rfl ?_
        refine wN_idx (b := ub) (o := 0) (k := k) (j := (k : Int)) (by rw [← eub]; rfl) rfl rfl hk2 ?_
        refine wN_lda (b := ub) (o := 0 + k * 5) rfl hud (ouc_row hy) ?_
        refine wN_alc ?_
        intro H3 kH3 nH3 c3
        have c3 : Cl H3 L2.next [iv 0, iv 0, iv 0, iv 0, iv 0] := c3
        have mH3 := kH3.1
        have hk := hk.trans kH3
        have hr := hr.keep kH3 (by simp)
        have hrs := kH3.sl0 hrs
        have cg := kH3.cl cg (by simp)
        have rsb := kH3.rd rsb (by simp)
        have hud := kH3.rd hud (by simp)
        refine wN_sta (b := L2.next) (o := 0) rfl rfl c3 (by omega) rfl rfl (by simp) ?_
        intro H4 kH4 nH4 sH4
        have mH4 := kH4.1
        have hk := hk.new kH4 (fun b hb => by simp at hb ⊢; omega)
        have hr := hr.keep kH4 (fun x hx => by simp at hx; omega)
        have hrs := kH4.sl hrs (fun b e => by have := fs b e; first | (simp; done) | (simp; omega))
        have cg := kH4.cl cg (by first | (simp; done) | (simp; omega))
        have rsb := kH4.rd rsb (by first | (simp; done) | (simp; omega))
        have hud := kH4.rd hud (by first | (simp; done) | (simp; omega))
        have c3 : Cl H4 L2.next [iv y.to, iv y.m, iv y.s, iv y.a, iv y.c] := sH4
        refine wN_end ?_
        refine wN_seq ?_
        refine wN_addo (b := L2.next) (o := 0) rfl ?_
        refine wN_ld (b := L2.next) (o := 0) (v := iv y.to) rfl c3.rd rfl ?_
        refine wN_callB rfl (in50_ok) ?_
        intro tH5 H5 hH5 kH5
        have mH5 := kH5.1
        have hk := hk.trans kH5
        have hr := hr.keep kH5 (by simp)
        have hrs := kH5.sl0 hrs
        have cg := kH5.cl cg (by simp)
        have rsb := kH5.rd rsb (by simp)
        have hud := kH5.rd hud (by simp)
        have c3 := kH5.cl c3 (by simp)
        cases tH5
        · have fhH5 := inB_f hH5
          refine wN_pur (v := .bool true) rfl rfl ?_
          refine wN_mov (v := .bool true) rfl ?_
          refine wN_g rfl (wN_addo (b := L2.next) (o := 0) rfl ?_)
          refine wN_g rfl (wN_ld (b := L2.next) (o := 0) (v := iv y.to) rfl c3.rd rfl ?_)
          refine wN_g rfl (wN_mov (v := iv (i : Int)) rfl ?_)
          refine wN_g rfl (wN_add (a := (i : Int)) (b := 1) rfl rfl ⟨by omega, by omega⟩ ?_)
          refine wN_g rfl (wN_mov (v := .slice sa n cap) rfl ?_)
          refine wN_g rfl (wN_len (m := n) rfl ?_)
          refine wN_g rfl (wN_sub (a := (n : Int)) (b := 1) rfl rfl ⟨by omega, by omega⟩ ?_)
          refine wN_g rfl (wN_callB rfl (in50_ok) ?_)
          intro tH6 H6 hH6 kH6
          have mH6 := kH6.1
          have hk := hk.trans kH6
          have hr := hr.keep kH6 (by simp)
          have hrs := kH6.sl0 hrs
          have cg := kH6.cl cg (by simp)
          have rsb := kH6.rd rsb (by simp)
          have hud := kH6.rd hud (by simp)
          have c3 := kH6.cl c3 (by simp)
          cases tH6
          · have fhH6 := inB_f hH6
            refine wN_g rfl (wN_pur (v := .bool true) rfl rfl ?_)
            refine wN_pur (v := .bool true) rfl rfl ?_
            refine wN_end ?_
            refine condT ?_
            have hok : Ou.ok y (i : Int) (n : Int) = false := Bool.eq_false_iff.2 (fun h => by have := Ou.ok_iff.1 h; omega)
            have hb : mok x.l i n = false := by unfold mok; rw [all_fail hy hok]; simp
            refine wN_seq ?_
            refine wN_mov (v := .bool false) rfl ?_
            refine wN_end ?_
            exact And.intro trivial (Exists.intro _ (And.intro rfl ⟨congrArg Value.bool (show false = pok (mss rs) from (by symm; exact pok_fail hr.rl hi (by rw [mss_get hx]; exact hb))), hk⟩))
          · have fhH6 := inB_t hH6
            refine wN_g rfl (wN_pur (v := .bool false) rfl rfl ?_)
            refine wN_pur (v := .bool false) rfl rfl ?_
            refine wN_end ?_
            refine condF ?_
            first | refine wN_skip ?_ | skip
            refine wN_seq ?_
            refine wN_addo (b := L2.next) (o := 0) rfl ?_
            refine wN_ld (b := L2.next) (o := 1) (v := iv y.m) rfl c3.rd rfl ?_
            refine wN_callB rfl (in50_ok) ?_
            intro tH7 H7 hH7 kH7
            have mH7 := kH7.1
            have hk := hk.trans kH7
            have hr := hr.keep kH7 (by simp)
            have hrs := kH7.sl0 hrs
            have cg := kH7.cl cg (by simp)
            have rsb := kH7.rd rsb (by simp)
            have hud := kH7.rd hud (by simp)
            have c3 := kH7.cl c3 (by simp)
            cases tH7
            · have fhH7 := inB_f hH7
              refine wN_pur (v := .bool true) rfl rfl ?_
              refine wN_mov (v := .bool true) rfl ?_
              refine wN_gs rfl ?_
              refine wN_gs rfl ?_
              refine wN_gs rfl ?_
              refine wN_gs rfl ?_
              refine wN_pur (v := .bool true) rfl rfl ?_
              refine wN_mov (v := .bool true) rfl ?_
              refine wN_gs rfl ?_
              refine wN_gs rfl ?_
              refine wN_gs rfl ?_
              refine wN_gs rfl ?_
              refine wN_pur (v := .bool true) rfl rfl ?_
              refine wN_mov (v := .bool true) rfl ?_
              refine wN_gs rfl ?_
              refine wN_gs rfl ?_
              refine wN_gs rfl ?_
              refine wN_gs rfl ?_
              refine wN_pur (v := .bool true) rfl rfl ?_
              refine wN_end ?_
              refine condT ?_
              have hok : Ou.ok y (i : Int) (n : Int) = false := Bool.eq_false_iff.2 (fun h => by have := Ou.ok_iff.1 h; omega)
              have hb : mok x.l i n = false := by unfold mok; rw [all_fail hy hok]; simp
              refine wN_seq ?_
              refine wN_mov (v := .bool false) rfl ?_
              refine wN_end ?_
              exact And.intro trivial (Exists.intro _ (And.intro rfl ⟨congrArg Value.bool (show false = pok (mss rs) from (by symm; exact pok_fail hr.rl hi (by rw [mss_get hx]; exact hb))), hk⟩))
            · have fhH7 := inB_t hH7
              refine wN_pur (v := .bool false) rfl rfl ?_
              refine wN_mov (v := .bool false) rfl ?_
              refine wN_g rfl (wN_addo (b := L2.next) (o := 0) rfl ?_)
              refine wN_g rfl (wN_ld (b := L2.next) (o := 2) (v := iv y.s) rfl c3.rd rfl ?_)
              refine wN_g rfl (wN_callB rfl (in50_ok) ?_)
              intro tH8 H8 hH8 kH8
              have mH8 := kH8.1
              have hk := hk.trans kH8
              have hr := hr.keep kH8 (by simp)
              have hrs := kH8.sl0 hrs
              have cg := kH8.cl cg (by simp)
              have rsb := kH8.rd rsb (by simp)
              have hud := kH8.rd hud (by simp)
              have c3 := kH8.cl c3 (by simp)
              cases tH8
              · have fhH8 := inB_f hH8
                refine wN_g rfl (wN_pur (v := .bool true) rfl rfl ?_)
                refine wN_pur (v := .bool true) rfl rfl ?_
                refine wN_mov (v := .bool true) rfl ?_
                refine wN_gs rfl ?_
                refine wN_gs rfl ?_
                refine wN_gs rfl ?_
                refine wN_gs rfl ?_
                refine wN_pur (v := .bool true) rfl rfl ?_
                refine wN_mov (v := .bool true) rfl ?_
                refine wN_gs rfl ?_
                refine wN_gs rfl ?_
                refine wN_gs rfl ?_
                refine wN_gs rfl ?_
                refine wN_pur (v := .bool true) rfl rfl ?_
                refine wN_end ?_
                refine condT ?_
                have hok : Ou.ok y (i : Int) (n : Int) = false := Bool.eq_false_iff.2 (fun h => by have := Ou.ok_iff.1 h; omega)
                have hb : mok x.l i n = false := by unfold mok; rw [all_fail hy hok]; simp
                refine wN_seq ?_
                refine wN_mov (v := .bool false) rfl ?_
                refine wN_end ?_
                exact And.intro trivial (Exists.intro _ (And.intro rfl ⟨congrArg Value.bool (show false = pok (mss rs) from (by symm; exact pok_fail hr.rl hi (by rw [mss_get hx]; exact hb))), hk⟩))
              · have fhH8 := inB_t hH8
                refine wN_g rfl (wN_pur (v := .bool false) rfl rfl ?_)
                refine wN_pur (v := .bool false) rfl rfl ?_
                refine wN_mov (v := .bool false) rfl ?_
                refine wN_g rfl (wN_addo (b := L2.next) (o := 0) rfl ?_)
                refine wN_g rfl (wN_ld (b := L2.next) (o := 3) (v := iv y.a) rfl c3.rd rfl ?_)
                refine wN_g rfl (wN_callB rfl (in50_ok) ?_)
                intro tH9 H9 hH9 kH9
                have mH9 := kH9.1
                have hk := hk.trans kH9
                have hr := hr.keep kH9 (by simp)
                have hrs := kH9.sl0 hrs
                have cg := kH9.cl cg (by simp)
                have rsb := kH9.rd rsb (by simp)
                have hud := kH9.rd hud (by simp)
                have c3 := kH9.cl c3 (by simp)
                cases tH9
                · have fhH9 := inB_f hH9
                  refine wN_g rfl (wN_pur (v := .bool true) rfl rfl ?_)
                  refine wN_pur (v := .bool true) rfl rfl ?_
                  refine wN_mov (v := .bool true) rfl ?_
                  refine wN_gs rfl ?_
                  refine wN_gs rfl ?_
                  refine wN_gs rfl ?_
                  refine wN_gs rfl ?_
                  refine wN_pur (v := .bool true) rfl rfl ?_
                  refine wN_end ?_
                  refine condT ?_
                  have hok : Ou.ok y (i : Int) (n : Int) = false := Bool.eq_false_iff.2 (fun h => by have := Ou.ok_iff.1 h; omega)
                  have hb : mok x.l i n = false := by unfold mok; rw [all_fail hy hok]; simp
                  refine wN_seq ?_
                  refine wN_mov (v := .bool false) rfl ?_
                  refine wN_end ?_
                  exact And.intro trivial (Exists.intro _ (And.intro rfl ⟨congrArg Value.bool (show false = pok (mss rs) from (by symm; exact pok_fail hr.rl hi (by rw [mss_get hx]; exact hb))), hk⟩))
                · have fhH9 := inB_t hH9
                  refine wN_g rfl (wN_pur (v := .bool false) rfl rfl ?_)
                  refine wN_pur (v := .bool false) rfl rfl ?_
                  refine wN_mov (v := .bool false) rfl ?_
                  refine wN_g rfl (wN_addo (b := L2.next) (o := 0) rfl ?_)
                  refine wN_g rfl (wN_ld (b := L2.next) (o := 4) (v := iv y.c) rfl c3.rd rfl ?_)
                  refine wN_g rfl (wN_callB rfl (in50_ok) ?_)
                  intro tH10 H10 hH10 kH10
                  have mH10 := kH10.1
                  have hk := hk.trans kH10
                  have hr := hr.keep kH10 (by simp)
                  have hrs := kH10.sl0 hrs
                  have cg := kH10.cl cg (by simp)
                  have rsb := kH10.rd rsb (by simp)
                  have hud := kH10.rd hud (by simp)
                  have c3 := kH10.cl c3 (by simp)
                  cases tH10
                  · have fhH10 := inB_f hH10
                    refine wN_g rfl (wN_pur (v := .bool true) rfl rfl ?_)
                    refine wN_pur (v := .bool true) rfl rfl ?_
                    refine wN_end ?_
                    refine condT ?_
                    have hok : Ou.ok y (i : Int) (n : Int) = false := Bool.eq_false_iff.2 (fun h => by have := Ou.ok_iff.1 h; omega)
                    have hb : mok x.l i n = false := by unfold mok; rw [all_fail hy hok]; simp
                    refine wN_seq ?_
                    refine wN_mov (v := .bool false) rfl ?_
                    refine wN_end ?_
                    exact And.intro trivial (Exists.intro _ (And.intro rfl ⟨congrArg Value.bool (show false = pok (mss rs) from (by symm; exact pok_fail hr.rl hi (by rw [mss_get hx]; exact hb))), hk⟩))
                  · have fhH10 := inB_t hH10
                    refine wN_g rfl (wN_pur (v := .bool false) rfl rfl ?_)
                    refine wN_pur (v := .bool false) rfl rfl ?_
                    refine wN_end ?_
                    refine condF ?_
                    have hok : Ou.ok y (i : Int) (n : Int) = true := Ou.ok_iff.2 (by omega)
                    first | refine wN_skip ?_ | skip
                    refine wN_seq ?_
                    refine wN_mov (v := iv (k : Int)) rfl ?_
                    refine wN_mov (v := .slice x.ra x.n x.cap) rfl ?_
                    refine wN_len (m := x.n) rfl ?_
                    refine wN_sub (a := (x.n : Int)) (b := 1) rfl rfl ⟨by omega, by omega⟩ ?_
                    refine wN_c_lss (a := (k : Int)) (b := (x.n : Int) - 1) rfl rfl ?_
                    refine wN_end ?_
                    refine And.intro (fun q3 => ?_) (fun q3 => ?_)
                    · have q3 : (k : Int) < ((x.n : Int) - 1) := of_decide_eq_true q3
                      have hk3 : k < x.l.length - 1 := by omega
                      have g0 := giv_inP hal k (Nat.le_refl _) (by omega) 0 (by decide)
                      have g1 := giv_inP hal k (Nat.le_refl _) (by omega) 1 (by decide)
                      have g2 := giv_inP hal k (Nat.le_refl _) (by omega) 2 (by decide)
                      have g3 := giv_inP hal k (Nat.le_refl _) (by omega) 3 (by decide)
                      have hoi := Ou.ok_iff.1 hok
                      rw [gvs_at hk3] at cg
                      first | refine wN_reg ?_ | refine wN_blk ?_ | refine wN_bseq ?_ | (refine wOps_nil ?_; refine wN_reg ?_)
                      refine wN_addo (b := H1.next) (o := 0) rfl ?_
                      refine wN_ld (b := H1.next) (o := 1) (v := iv (giv x.l 0 k)) rfl cg.rd rfl ?_
                      refine wN_addo (b := L2.next) (o := 0) rfl ?_
                      refine wN_ld (b := L2.next) (o := 1) (v := iv y.m) rfl c3.rd rfl ?_
                      refine wN_add (a := (giv x.l 0 k)) (b := y.m) rfl rfl ⟨by omega, by omega⟩ ?_
                      refine wN_addo (b := H1.next) (o := 0) rfl ?_
                      refine wN_ld (b := H1.next) (o := 2) (v := iv (giv x.l 1 k)) rfl cg.rd rfl ?_
                      refine wN_addo (b := L2.next) (o := 0) rfl ?_
                      refine wN_ld (b := L2.next) (o := 2) (v := iv y.s) rfl c3.rd rfl ?_
                      refine wN_add (a := (giv x.l 1 k)) (b := y.s) rfl rfl ⟨by omega, by omega⟩ ?_
                      refine wN_addo (b := H1.next) (o := 0) rfl ?_
                      refine wN_ld (b := H1.next) (o := 3) (v := iv (giv x.l 2 k)) rfl cg.rd rfl ?_
                      refine wN_addo (b := L2.next) (o := 0) rfl ?_
                      refine wN_ld (b := L2.next) (o := 3) (v := iv y.a) rfl c3.rd rfl ?_
                      refine wN_add (a := (giv x.l 2 k)) (b := y.a) rfl rfl ⟨by omega, by omega⟩ ?_
                      refine wN_addo (b := H1.next) (o := 0) rfl ?_
                      refine wN_ld (b := H1.next) (o := 4) (v := iv (giv x.l 3 k)) rfl cg.rd rfl ?_
                      refine wN_addo (b := L2.next) (o := 0) rfl ?_
                      refine wN_ld (b := L2.next) (o := 4) (v := iv y.c) rfl c3.rd rfl ?_
                      refine wN_add (a := (giv x.l 3 k)) (b := y.c) rfl rfl ⟨by omega, by omega⟩ ?_
                      refine wN_pur (v := .agg #[iv 0, iv ((giv x.l 0 k) + y.m), iv ((giv x.l 1 k) + y.s), iv ((giv x.l 2 k) + y.a), iv ((giv x.l 3 k) + y.c)]) rfl (by kernel_rfl) ?_
                      refine wN_sta (b := H1.next) (o := 0) (v := .agg #[iv 0, iv ((giv x.l 0 k) + y.m), iv ((giv x.l 1 k) + y.s), iv ((giv x.l 2 k) + y.a), iv ((giv x.l 3 k) + y.c)]) rfl rfl cg (by omega) rfl rfl (by simp) ?_
                      intro H11 kH11 nH11 sH11
                      have mH11 := kH11.1
                      have hk := hk.new kH11 (fun b hb => by simp at hb ⊢; omega)
                      have hr := hr.keep kH11 (fun x hx => by simp at hx; omega)
                      have hrs := kH11.sl hrs (fun b e => by have := fs b e; first | (simp; done) | (simp; omega))
                      have rsb := kH11.rd rsb (by first | (simp; done) | (simp; omega))
                      have hud := kH11.rd hud (by first | (simp; done) | (simp; omega))
                      have c3 := kH11.cl c3 (by first | (simp; done) | (simp; omega))
                      have cg : Cl H11 H1.next [iv 0, iv (giv x.l 0 k + y.m), iv (giv x.l 1 k + y.s), iv (giv x.l 2 k + y.a), iv (giv x.l 3 k + y.c)] := sH11
                      rw [← gvs_step hy hk3] at cg
                      refine wN_end ?_
                      first | refine wN_reg ?_ | refine wN_blk ?_ | refine wN_bseq ?_ | (refine wOps_nil ?_; refine wN_reg ?_)
                      refine wN_mov (v := iv (k : Int)) rfl ?_
                      refine wN_add (a := (k : Int)) (b := 1) rfl rfl ⟨by omega, by omega⟩ ?_
                      refine wN_mov (v := iv ((k : Int) + 1)) rfl ?_
                      refine wN_end ?_
                      exact ⟨d - 1, k + 1, by omega, ⟨by omega, hk, by omega, hr, hrs, rsb, cg, by rw [all_step hy, hal, Bool.true_and]; exact hok⟩, rfl, rfl, rfl, rfl, rfl, trivial⟩
                    · have q3 : ¬ ((k : Int) < ((x.n : Int) - 1)) := of_decide_eq_false q3
                      have cg := cg
                      rw [← gvs_last (show x.l.length - 1 ≤ k by omega)] at cg
                      first | refine wN_skip ?_ | skip
                      first | refine wN_reg ?_ | refine wN_blk ?_ | refine wN_bseq ?_ | (refine wOps_nil ?_; refine wN_reg ?_)
                      refine wN_mov (v := iv (k : Int)) rfl ?_
                      refine wN_add (a := (k : Int)) (b := 1) rfl rfl ⟨by omega, by omega⟩ ?_
                      refine wN_mov (v := iv ((k : Int) + 1)) rfl ?_
                      refine wN_end ?_
                      exact ⟨d - 1, k + 1, by omega, ⟨by omega, hk, by omega, hr, hrs, rsb, cg, by rw [all_step hy, hal, Bool.true_and]; exact hok⟩, rfl, rfl, rfl, rfl, rfl, trivial⟩
        · have fhH5 := inB_t hH5
          refine wN_pur (v := .bool false) rfl rfl ?_
          refine wN_mov (v := .bool false) rfl ?_
          refine wN_gs rfl ?_
          refine wN_gs rfl ?_
          refine wN_gs rfl ?_
          refine wN_gs rfl ?_
          refine wN_gs rfl ?_
          refine wN_gs rfl ?_
          refine wN_gs rfl ?_
          refine wN_gs rfl ?_
          refine wN_gs rfl ?_
          refine wN_pur (v := .bool false) rfl rfl ?_
          refine wN_end ?_
          refine condF ?_
          first | refine wN_skip ?_ | skip
          refine wN_seq ?_
          refine wN_addo (b := L2.next) (o := 0) rfl ?_
          refine wN_ld (b := L2.next) (o := 1) (v := iv y.m) rfl c3.rd rfl ?_
          refine wN_callB rfl (in50_ok) ?_
          intro tH12 H12 hH12 kH12
          have mH12 := kH12.1
          have hk := hk.trans kH12
          have hr := hr.keep kH12 (by simp)
          have hrs := kH12.sl0 hrs
          have cg := kH12.cl cg (by simp)
          have rsb := kH12.rd rsb (by simp)
          have hud := kH12.rd hud (by simp)
          have c3 := kH12.cl c3 (by simp)
          cases tH12
          · have fhH12 := inB_f hH12
            refine wN_pur (v := .bool true) rfl rfl ?_
            refine wN_mov (v := .bool true) rfl ?_
            refine wN_gs rfl ?_
            refine wN_gs rfl ?_
            refine wN_gs rfl ?_
            refine wN_gs rfl ?_
            refine wN_pur (v := .bool true) rfl rfl ?_
            refine wN_mov (v := .bool true) rfl ?_
            refine wN_gs rfl ?_
            refine wN_gs rfl ?_
            refine wN_gs rfl ?_
            refine wN_gs rfl ?_
            refine wN_pur (v := .bool true) rfl rfl ?_
            refine wN_mov (v := .bool true) rfl ?_
            refine wN_gs rfl ?_
            refine wN_gs rfl ?_
            refine wN_gs rfl ?_
            refine wN_gs rfl ?_
            refine wN_pur (v := .bool true) rfl rfl ?_
            refine wN_end ?_
            refine condT ?_
            have hok : Ou.ok y (i : Int) (n : Int) = false := Bool.eq_false_iff.2 (fun h => by have := Ou.ok_iff.1 h; omega)
            have hb : mok x.l i n = false := by unfold mok; rw [all_fail hy hok]; simp
            refine wN_seq ?_
            refine wN_mov (v := .bool false) rfl ?_
            refine wN_end ?_
            exact And.intro trivial (Exists.intro _ (And.intro rfl ⟨congrArg Value.bool (show false = pok (mss rs) from (by symm; exact pok_fail hr.rl hi (by rw [mss_get hx]; exact hb))), hk⟩))
          · have fhH12 := inB_t hH12
            refine wN_pur (v := .bool false) rfl rfl ?_
            refine wN_mov (v := .bool false) rfl ?_
            refine wN_g rfl (wN_addo (b := L2.next) (o := 0) rfl ?_)
            refine wN_g rfl (wN_ld (b := L2.next) (o := 2) (v := iv y.s) rfl c3.rd rfl ?_)
            refine wN_g rfl (wN_callB rfl (in50_ok) ?_)
            intro tH13 H13 hH13 kH13
            have mH13 := kH13.1
            have hk := hk.trans kH13
            have hr := hr.keep kH13 (by simp)
            have hrs := kH13.sl0 hrs
            have cg := kH13.cl cg (by simp)
            have rsb := kH13.rd rsb (by simp)
            have hud := kH13.rd hud (by simp)
            have c3 := kH13.cl c3 (by simp)
            cases tH13
            · have fhH13 := inB_f hH13
              refine wN_g rfl (wN_pur (v := .bool true) rfl rfl ?_)
              refine wN_pur (v := .bool true) rfl rfl ?_
              refine wN_mov (v := .bool true) rfl ?_
              refine wN_gs rfl ?_
              refine wN_gs rfl ?_
              refine wN_gs rfl ?_
              refine wN_gs rfl ?_
              refine wN_pur (v := .bool true) rfl rfl ?_
              refine wN_mov (v := .bool true) rfl ?_
              refine wN_gs rfl ?_
              refine wN_gs rfl ?_
              refine wN_gs rfl ?_
              refine wN_gs rfl ?_
              refine wN_pur (v := .bool true) rfl rfl ?_
              refine wN_end ?_
              refine condT ?_
              have hok : Ou.ok y (i : Int) (n : Int) = false := Bool.eq_false_iff.2 (fun h => by have := Ou.ok_iff.1 h; omega)
              have hb : mok x.l i n = false := by unfold mok; rw [all_fail hy hok]; simp
              refine wN_seq ?_
              refine wN_mov (v := .bool false) rfl ?_
              refine wN_end ?_
              exact And.intro trivial (Exists.intro _ (And.intro rfl ⟨congrArg Value.bool (show false = pok (mss rs) from (by symm; exact pok_fail hr.rl hi (by rw [mss_get hx]; exact hb))), hk⟩))
            · have fhH13 := inB_t hH13
              refine wN_g rfl (wN_pur (v := .bool false) rfl rfl ?_)
              refine wN_pur (v := .bool false) rfl rfl ?_
              refine wN_mov (v := .bool false) rfl ?_
              refine wN_g rfl (wN_addo (b := L2.next) (o := 0) rfl ?_)
              refine wN_g rfl (wN_ld (b := L2.next) (o := 3) (v := iv y.a) rfl c3.rd rfl ?_)
              refine wN_g rfl (wN_callB rfl (in50_ok) ?_)
              intro tH14 H14 hH14 kH14
              have mH14 := kH14.1
              have hk := hk.trans kH14
              have hr := hr.keep kH14 (by simp)
              have hrs := kH14.sl0 hrs
              have cg := kH14.cl cg (by simp)
              have rsb := kH14.rd rsb (by simp)
              have hud := kH14.rd hud (by simp)
              have c3 := kH14.cl c3 (by simp)
              cases tH14
              · have fhH14 := inB_f hH14
                refine wN_g rfl (wN_pur (v := .bool true) rfl rfl ?_)
                refine wN_pur (v := .bool true) rfl rfl ?_
                refine wN_mov (v := .bool true) rfl ?_
                refine wN_gs rfl ?_
                refine wN_gs rfl ?_
                refine wN_gs rfl ?_
                refine wN_gs rfl ?_
                refine wN_pur (v := .bool true) rfl rfl ?_
                refine wN_end ?_
                refine condT ?_
                have hok : Ou.ok y (i : Int) (n : Int) = false := Bool.eq_false_iff.2 (fun h => by have := Ou.ok_iff.1 h; omega)
                have hb : mok x.l i n = false := by unfold mok; rw [all_fail hy hok]; simp
                refine wN_seq ?_
                refine wN_mov (v := .bool false) rfl ?_
                refine wN_end ?_
                exact And.intro trivial (Exists.intro _ (And.intro rfl ⟨congrArg Value.bool (show false = pok (mss rs) from (by symm; exact pok_fail hr.rl hi (by rw [mss_get hx]; exact hb))), hk⟩))
              · have fhH14 := inB_t hH14
                refine wN_g rfl (wN_pur (v := .bool false) rfl rfl ?_)
                refine wN_pur (v := .bool false) rfl rfl ?_
                refine wN_mov (v := .bool false) rfl ?_
                refine wN_g rfl (wN_addo (b := L2.next) (o := 0) rfl ?_)
                refine wN_g rfl (wN_ld (b := L2.next) (o := 4) (v := iv y.c) rfl c3.rd rfl ?_)
                refine wN_g rfl (wN_callB rfl (in50_ok) ?_)
                intro tH15 H15 hH15 kH15
                have mH15 := kH15.1
                have hk := hk.trans kH15
                have hr := hr.keep kH15 (by simp)
                have hrs := kH15.sl0 hrs
                have cg := kH15.cl cg (by simp)
                have rsb := kH15.rd rsb (by simp)
                have hud := kH15.rd hud (by simp)
                have c3 := kH15.cl c3 (by simp)
                cases tH15
                · have fhH15 := inB_f hH15
                  refine wN_g rfl (wN_pur (v := .bool true) rfl rfl ?_)
                  refine wN_pur (v := .bool true) rfl rfl ?_
                  refine wN_end ?_
                  refine condT ?_
                  have hok : Ou.ok y (i : Int) (n : Int) = false := Bool.eq_false_iff.2 (fun h => by have := Ou.ok_iff.1 h; omega)
                  have hb : mok x.l i n = false := by unfold mok; rw [all_fail hy hok]; simp
                  refine wN_seq ?_
                  refine wN_mov (v := .bool false) rfl ?_
                  refine wN_end ?_
                  exact And.intro trivial (Exists.intro _ (And.intro rfl ⟨congrArg Value.bool (show false = pok (mss rs) from (by symm; exact pok_fail hr.rl hi (by rw [mss_get hx]; exact hb))), hk⟩))
                · have fhH15 := inB_t hH15
                  refine wN_g rfl (wN_pur (v := .bool false) rfl rfl ?_)
                  refine wN_pur (v := .bool false) rfl rfl ?_
                  refine wN_end ?_
                  refine condF ?_
                  have hok : Ou.ok y (i : Int) (n : Int) = true := Ou.ok_iff.2 (by omega)
                  first | refine wN_skip ?_ | skip
                  refine wN_seq ?_
                  refine wN_mov (v := iv (k : Int)) rfl ?_
                  refine wN_mov (v := .slice x.ra x.n x.cap) rfl ?_
                  refine wN_len (m := x.n) rfl ?_
                  refine wN_sub (a := (x.n : Int)) (b := 1) rfl rfl ⟨by omega, by omega⟩ ?_
                  refine wN_c_lss (a := (k : Int)) (b := (x.n : Int) - 1) rfl rfl ?_
                  refine wN_end ?_
                  refine And.intro (fun q4 => ?_) (fun q4 => ?_)
                  · have q4 : (k : Int) < ((x.n : Int) - 1) := of_decide_eq_true q4
                    have hk3 : k < x.l.length - 1 := by omega
                    have g0 := giv_inP hal k (Nat.le_refl _) (by omega) 0 (by decide)
                    have g1 := giv_inP hal k (Nat.le_refl _) (by omega) 1 (by decide)
                    have g2 := giv_inP hal k (Nat.le_refl _) (by omega) 2 (by decide)
                    have g3 := giv_inP hal k (Nat.le_refl _) (by omega) 3 (by decide)
                    have hoi := Ou.ok_iff.1 hok
                    rw [gvs_at hk3] at cg
                    first | refine wN_reg ?_ | refine wN_blk ?_ | refine wN_bseq ?_ | (refine wOps_nil ?_; refine wN_reg ?_)
                    refine wN_addo (b := H1.next) (o := 0) rfl ?_
                    refine wN_ld (b := H1.next) (o := 1) (v := iv (giv x.l 0 k)) rfl cg.rd rfl ?_
                    refine wN_addo (b := L2.next) (o := 0) rfl ?_
                    refine wN_ld (b := L2.next) (o := 1) (v := iv y.m) rfl c3.rd rfl ?_
                    refine wN_add (a := (giv x.l 0 k)) (b := y.m) rfl rfl ⟨by omega, by omega⟩ ?_
                    refine wN_addo (b := H1.next) (o := 0) rfl ?_
                    refine wN_ld (b := H1.next) (o := 2) (v := iv (giv x.l 1 k)) rfl cg.rd rfl ?_
                    refine wN_addo (b := L2.next) (o := 0) rfl ?_
                    refine wN_ld (b := L2.next) (o := 2) (v := iv y.s) rfl c3.rd rfl ?_
                    refine wN_add (a := (giv x.l 1 k)) (b := y.s) rfl rfl ⟨by omega, by omega⟩ ?_
                    refine wN_addo (b := H1.next) (o := 0) rfl ?_
                    refine wN_ld (b := H1.next) (o := 3) (v := iv (giv x.l 2 k)) rfl cg.rd rfl ?_
                    refine wN_addo (b := L2.next) (o := 0) rfl ?_
                    refine wN_ld (b := L2.next) (o := 3) (v := iv y.a) rfl c3.rd rfl ?_
                    refine wN_add (a := (giv x.l 2 k)) (b := y.a) rfl rfl ⟨by omega, by omega⟩ ?_
                    refine wN_addo (b := H1.next) (o := 0) rfl ?_
                    refine wN_ld (b := H1.next) (o := 4) (v := iv (giv x.l 3 k)) rfl cg.rd rfl ?_
                    refine wN_addo (b := L2.next) (o := 0) rfl ?_
                    refine wN_ld (b := L2.next) (o := 4) (v := iv y.c) rfl c3.rd rfl ?_
                    refine wN_add (a := (giv x.l 3 k)) (b := y.c) rfl rfl ⟨by omega, by omega⟩ ?_
                    refine wN_pur (v := .agg #[iv 0, iv ((giv x.l 0 k) + y.m), iv ((giv x.l 1 k) + y.s), iv ((giv x.l 2 k) + y.a), iv ((giv x.l 3 k) + y.c)]) rfl (by kernel_rfl) ?_
                    refine wN_sta (b := H1.next) (o := 0) (v := .agg #[iv 0, iv ((giv x.l 0 k) + y.m), iv ((giv x.l 1 k) + y.s), iv ((giv x.l 2 k) + y.a), iv ((giv x.l 3 k) + y.c)]) rfl rfl cg (by omega) rfl rfl (by simp) ?_
                    intro H16 kH16 nH16 sH16
                    have mH16 := kH16.1
                    have hk := hk.new kH16 (fun b hb => by simp at hb ⊢; omega)
                    have hr := hr.keep kH16 (fun x hx => by simp at hx; omega)
                    have hrs := kH16.sl hrs (fun b e => by have := fs b e; first | (simp; done) | (simp; omega))
                    have rsb := kH16.rd rsb (by first | (simp; done) | (simp; omega))
                    have hud := kH16.rd hud (by first | (simp; done) | (simp; omega))
                    have c3 := kH16.cl c3 (by first | (simp; done) | (simp; omega))
                    have cg : Cl H16 H1.next [iv 0, iv (giv x.l 0 k + y.m), iv (giv x.l 1 k + y.s), iv (giv x.l 2 k + y.a), iv (giv x.l 3 k + y.c)] := sH16
                    rw [← gvs_step hy hk3] at cg
                    refine wN_end ?_
                    first | refine wN_reg ?_ | refine wN_blk ?_ | refine wN_bseq ?_ | (refine wOps_nil ?_; refine wN_reg ?_)
                    refine wN_mov (v := iv (k : Int)) rfl ?_
                    refine wN_add (a := (k : Int)) (b := 1) rfl rfl ⟨by omega, by omega⟩ ?_
                    refine wN_mov (v := iv ((k : Int) + 1)) rfl ?_
                    refine wN_end ?_
                    exact ⟨d - 1, k + 1, by omega, ⟨by omega, hk, by omega, hr, hrs, rsb, cg, by rw [all_step hy, hal, Bool.true_and]; exact hok⟩, rfl, rfl, rfl, rfl, rfl, trivial⟩
                  · have q4 : ¬ ((k : Int) < ((x.n : Int) - 1)) := of_decide_eq_false q4
                    have cg := cg
                    rw [← gvs_last (show x.l.length - 1 ≤ k by omega)] at cg
                    first | refine wN_skip ?_ | skip
                    first | refine wN_reg ?_ | refine wN_blk ?_ | refine wN_bseq ?_ | (refine wOps_nil ?_; refine wN_reg ?_)
                    refine wN_mov (v := iv (k : Int)) rfl ?_
                    refine wN_add (a := (k : Int)) (b := 1) rfl rfl ⟨by omega, by omega⟩ ?_
                    refine wN_mov (v := iv ((k : Int) + 1)) rfl ?_
                    refine wN_end ?_
                    exact ⟨d - 1, k + 1, by omega, ⟨by omega, hk, by omega, hr, hrs, rsb, cg, by rw [all_step hy, hal, Bool.true_and]; exact hok⟩, rfl, rfl, rfl, rfl, rfl, trivial⟩
      · have q2 : ¬ ((k : Int) < (x.n : Int)) := of_decide_eq_false q2
        have e : k = x.n := by omega
        rw [List.take_of_length_le (by omega)] at hal
        have cg : Cl L2 H1.next [iv 0, iv (givQ x.l (x.l.length - 1) 0), iv (givQ x.l (x.l.length - 1) 1), iv (givQ x.l (x.l.length - 1) 2), iv (givQ x.l (x.l.length - 1) 3)] := by
          have q := cg; unfold gvs at q; rw [Nat.min_eq_right (by omega)] at q; exact q
        have g0 : 0 ≤ givQ x.l (x.l.length - 1) 0 := (giv_in hal (x.l.length - 1) (by omega) 0 (by decide)).1
        have g1 : 0 ≤ givQ x.l (x.l.length - 1) 1 := (giv_in hal (x.l.length - 1) (by omega) 1 (by decide)).1
        have g2 : 0 ≤ givQ x.l (x.l.length - 1) 2 := (giv_in hal (x.l.length - 1) (by omega) 2 (by decide)).1
        have g3 : 0 ≤ givQ x.l (x.l.length - 1) 3 := (giv_in hal (x.l.length - 1) (by omega) 3 (by decide)).1
        refine wN_seq ?_
        refine wN_addo (b := H1.next) (o := 0) rfl ?_
        refine wN_ld (b := H1.next) (o := 1) (v := iv (givQ x.l (x.l.length - 1) 0)) rfl cg.rd rfl ?_
        refine wN_addo (b := H1.next) (o := 0) rfl ?_
        refine wN_ld (b := H1.next) (o := 2) (v := iv (givQ x.l (x.l.length - 1) 1)) rfl cg.rd rfl ?_
        refine wN_addo (b := H1.next) (o := 0) rfl ?_
        refine wN_ld (b := H1.next) (o := 3) (v := iv (givQ x.l (x.l.length - 1) 2)) rfl cg.rd rfl ?_
        refine wN_addo (b := H1.next) (o := 0) rfl ?_
        refine wN_ld (b := H1.next) (o := 4) (v := iv (givQ x.l (x.l.length - 1) 3)) rfl cg.rd rfl ?_
        refine wN_pur (v := iv (max (max (max (givQ x.l (x.l.length - 1) 0) (givQ x.l (x.l.length - 1) 1)) (givQ x.l (x.l.length - 1) 2)) (givQ x.l (x.l.length - 1) 3))) rfl (max4 rfl rfl rfl rfl) ?_
        refine wN_c_gtr (a := (max (max (max (givQ x.l (x.l.length - 1) 0) (givQ x.l (x.l.length - 1) 1)) (givQ x.l (x.l.length - 1) 2)) (givQ x.l (x.l.length - 1) 3))) (b := 1000) rfl rfl ?_
        refine wN_end ?_
        refine And.intro (fun q5 => ?_) (fun q5 => ?_)
        · have q5 : (max (max (max (givQ x.l (x.l.length - 1) 0) (givQ x.l (x.l.length - 1) 1)) (givQ x.l (x.l.length - 1) 2)) (givQ x.l (x.l.length - 1) 3)) > 1000 := of_decide_eq_true q5
          have hb : mok x.l i n = false := by
            unfold mok
            have q : wiQ (givQ x.l (x.l.length - 1)) 1000 = false := Bool.eq_false_iff.2 (fun h => by have a0 := wiQ_t h 0 (by decide); have a1 := wiQ_t h 1 (by decide); have a2 := wiQ_t h 2 (by decide); have a3 := wiQ_t h 3 (by decide); omega)
            rw [q]; simp
          refine wN_seq ?_
          refine wN_mov (v := .bool false) rfl ?_
          refine wN_end ?_
          exact And.intro trivial (Exists.intro _ (And.intro rfl ⟨congrArg Value.bool (show false = pok (mss rs) from (by symm; exact pok_fail hr.rl hi (by rw [mss_get hx]; exact hb))), hk⟩))
        · have q5 : ¬ ((max (max (max (givQ x.l (x.l.length - 1) 0) (givQ x.l (x.l.length - 1) 1)) (givQ x.l (x.l.length - 1) 2)) (givQ x.l (x.l.length - 1) 3)) > 1000) := of_decide_eq_false q5
          have hb : mok x.l i n = true := by
            unfold mok
            have q : wiQ (givQ x.l (x.l.length - 1)) 1000 = true := wiQ_i (four ⟨g0, by omega⟩ ⟨g1, by omega⟩ ⟨g2, by omega⟩ ⟨g3, by omega⟩)
            rw [q, hal, hrl, decide_eq_true (by omega), decide_eq_true (by omega)]; rfl
          first | refine wN_skip ?_ | skip
          first | refine wN_reg ?_ | refine wN_blk ?_ | refine wN_bseq ?_ | (refine wOps_nil ?_; refine wN_reg ?_)
          refine wN_mov (v := iv (i : Int)) rfl ?_
          refine wN_add (a := (i : Int)) (b := 1) rfl rfl ⟨by omega, by omega⟩ ?_
          refine wN_mov (v := iv ((i : Int) + 1)) rfl ?_
          refine wN_end ?_
          exact ⟨kk - 1, i + 1, by omega, ⟨by omega, hk, hr, fun j hj => by
            by_cases e : j = i
            · subst e; rw [mss_get hx]; exact hb
            · exact hall j (by omega)⟩, rfl, rfl, trivial⟩
  · have q1 : ¬ ((i : Int) < (n : Int)) := of_decide_eq_false q1
    refine wN_seq ?_
    refine wN_mov (v := .slice sa n cap) rfl ?_
    refine wN_len (m := n) rfl ?_
    refine wN_c_leq (a := (n : Int)) (b := 12) rfl rfl ?_
    refine wN_mov (v := .bool (decide ((n : Int) ≤ 12))) rfl ?_
    refine wN_end ?_
    exact And.intro trivial (Exists.intro _ (And.intro rfl ⟨congrArg Value.bool (show decide ((n : Int) ≤ 12) = pok (mss rs) from (by symm; rw [pok_all hr.rl (fun j hj => hall j (by omega))]; exact decide_eq_decide.2 (by omega))), hk⟩))
theorem check_ok {sa : Option Addr} {n cap f : Nat} {rs : List Mc} (hr : Mcs H f sa n cap rs) (hm : ∀ r ∈ rs, r.n ≤ 1000000) (hn2 : n ≤ 1000000) (hf : f ≤ H.next) (hlo : lo ≤ H.next) : ∃ H', FnX Try.prog kn lo 21 [.slice sa n cap] H (iv (bif pok (mss rs) then 0 else 1)) H' ∧ Keep H H' [] := by
  have key := fnX_low (kn := kn) (lo := lo) (H := H) (args := [.slice sa n cap]) (Q := fun w H' => w = iv (bif pok (mss rs) then 0 else 1) ∧ Keep H H' []) Try.func21 B21 N21 Z21 L21 (by simp) ?_
  · obtain ⟨w, H', h, rfl, q⟩ := key; exact ⟨H', h, q⟩
  have hk := Keep.refl H []
  refine wN_seq ?_
  refine wN_mov (v := iv 0) rfl ?_
  refine wN_end ?_
  refine wN_seq ?_
  refine wN_mov (v := .slice sa n cap) rfl ?_
  refine wN_callB rfl (vplant_ok (kn := kn) (lo := lo) (H := H) hr hm hn2 (by omega) (by omega)) ?_
  intro tH1 H1 hH1 kH1
  have mH1 := kH1.1
  have hk := hk.trans kH1
  have hr := hr.keep kH1 (by simp)
  cases tH1
  · have hp : pok (mss rs) = false := hH1
    refine wN_pur (v := .bool true) rfl rfl ?_
    refine wN_end ?_
    refine condT ?_
    refine wN_seq ?_
    refine wN_mov (v := iv 1) rfl ?_
    refine wN_end ?_
    exact And.intro trivial (Exists.intro _ (And.intro rfl ⟨by rw [hp]; rfl, hk⟩))
  · have hp : pok (mss rs) = true := hH1
    refine wN_pur (v := .bool false) rfl rfl ?_
    refine wN_end ?_
    refine condF ?_
    first | refine wN_skip ?_ | skip
    refine wN_seq ?_
    refine wN_mov (v := iv 0) rfl ?_
    refine wN_end ?_
    exact And.intro trivial (Exists.intro _ (And.intro rfl ⟨by rw [hp]; rfl, hk⟩))
theorem refcheck_ok {sa : Option Addr} {n cap f : Nat} {rs : List Mc} (hr : Mcs H f sa n cap rs) (hm : ∀ r ∈ rs, r.n ≤ 1000000) (hn2 : n ≤ 1000000) (hf : f ≤ H.next) (hlo : lo ≤ H.next) : ∃ H', FnX Try.prog kn lo 22 [.slice sa n cap] H (iv (bif pok (mss rs) then 0 else 1)) H' ∧ Keep H H' [] := by
  have key := fnX_low (kn := kn) (lo := lo) (H := H) (args := [.slice sa n cap]) (Q := fun w H' => w = iv (bif pok (mss rs) then 0 else 1) ∧ Keep H H' []) Try.func22 B22 N22 Z22 L22 (by simp) ?_
  · obtain ⟨w, H', h, rfl, q⟩ := key; exact ⟨H', h, q⟩
  have hk := Keep.refl H []
  refine wN_seq ?_
  refine wN_mov (v := iv 0) rfl ?_
  refine wN_end ?_
  refine wN_seq ?_
  refine wN_mov (v := .slice sa n cap) rfl ?_
  refine wN_callB rfl (refplant_ok (kn := kn) (lo := lo) (H := H) hr hm hn2 (by omega) (by omega)) ?_
  intro tH1 H1 hH1 kH1
  have mH1 := kH1.1
  have hk := hk.trans kH1
  have hr := hr.keep kH1 (by simp)
  cases tH1
  · have hp : pok (mss rs) = false := hH1
    refine wN_pur (v := .bool true) rfl rfl ?_
    refine wN_end ?_
    refine condT ?_
    refine wN_seq ?_
    refine wN_mov (v := iv 1) rfl ?_
    refine wN_end ?_
    exact And.intro trivial (Exists.intro _ (And.intro rfl ⟨by rw [hp]; rfl, hk⟩))
  · have hp : pok (mss rs) = true := hH1
    refine wN_pur (v := .bool false) rfl rfl ?_
    refine wN_end ?_
    refine condF ?_
    first | refine wN_skip ?_ | skip
    refine wN_seq ?_
    refine wN_mov (v := iv 0) rfl ?_
    refine wN_end ?_
    exact And.intro trivial (Exists.intro _ (And.intro rfl ⟨by rw [hp]; rfl, hk⟩))
end
end Go.Ax

/-
  Plant: rows of four numbers, side by side in a block (written by program).
-/
namespace Go.Ax
open Go Go.RowKit

def cc (C : Cs) (n : Nat) : List Value := ((List.range n).map C).flatMap (fun q => qc q)
theorem cc_len (C : Cs) (n : Nat) : (cc C n).length = n * 4 := by
  unfold cc; rw [flat_len (size := 4) (fun _ _ => rfl)]; simp
theorem cc_get {C : Cs} {n r : Nat} (h : r < n) : ((List.range n).map C)[r]? = some (C r) := by
  rw [List.getElem?_map, List.getElem?_range h]; rfl
theorem cc_row {C : Cs} {n r : Nat} (h : r < n) : row 4 (cc C n) (0 + r * 4) = some (qc (C r)) := row_flat (f := fun q => qc q) (size := 4) (fun _ _ => rfl) (cc_get h)
def setC (C : Cs) (r : Nat) (q : Nat → Int) : Cs := fun x => if x = r then q else C x
theorem cc_congr {C D : Cs} {n : Nat} (h : ∀ r, r < n → C r = D r) : cc C n = cc D n := by
  unfold cc
  rw [List.map_congr_left (fun r hr => h r (List.mem_range.1 hr))]
theorem cc_put {C : Cs} {n r : Nat} {q : Nat → Int} (h : r < n) : putRow (cc C n) (0 + r * 4) (qc q) = cc (setC C r q) n := by
  unfold cc
  have := flat_put (f := fun q : Nat → Int => qc q) (size := 4) (l := (List.range n).map C) (fun _ => rfl) (i := r) (by simpa using h) q
  rw [this]
  congr 1
  apply List.ext_getElem?
  intro i
  by_cases hi : i < n
  · rw [cc_get hi, List.getElem?_set]
    by_cases e : r = i
    · subst e; rw [if_pos rfl, if_pos (by simpa using h)]; unfold setC; rw [if_pos rfl]
    · rw [if_neg e, cc_get hi]; unfold setC; rw [if_neg (fun q => e q.symm)]
  · rw [List.getElem?_eq_none (by simp; omega), List.getElem?_eq_none (by simp; omega)]
theorem cc_row64 {C : Cs} {k : Nat} (h : k < 12) : row 4 (cc C 28) (64 + k * 4) = some (qc (C (16 + k))) := by
  have := cc_row (C := C) (n := 28) (r := 16 + k) (by omega)
  rw [show 0 + (16 + k) * 4 = 64 + k * 4 by omega] at this; exact this
theorem cc_put64 {C : Cs} {k : Nat} {q : Nat → Int} (h : k < 12) : putRow (cc C 28) (64 + k * 4) (qc q) = cc (setC C (16 + k) q) 28 := by
  have := cc_put (C := C) (n := 28) (r := 16 + k) (q := q) (by omega)
  rw [show 0 + (16 + k) * 4 = 64 + k * 4 by omega] at this; exact this
theorem setC_snd {C : Cs} {to : Int} {p : Nat → Int} {r : Nat} (h : ix to = r) : setC C r (addQ (C r) p) = snd C to p := by
  subst h
  funext x
  unfold setC snd
  by_cases e : x = ix to
  · rw [if_pos e, if_pos e, e]
  · rw [if_neg e, if_neg e]
theorem ws_succ {C : Cs} {all : Nat → Int} {l : List Ou} {k : Nat} {y : Ou} (h : l[k]? = some y) : ws C all l (k + 1) = (snd (ws C all l k).1 y.to (shQ all y.w), subQ (ws C all l k).2 (shQ all y.w)) := by
  have e : l.getD k Ou.z = y := by rw [List.getD_eq_getElem?_getD, h]; rfl
  show (snd _ (l.getD k Ou.z).to _, _) = _
  rw [e]
theorem wk_last {C : Cs} {i : Nat} {l : List Ou} {y : Ou} (h : l[l.length - 1]? = some y) : wk C i l = snd (ws C (C (16 + i)) l (l.length - 1)).1 y.to (ws C (C (16 + i)) l (l.length - 1)).2 := by
  have e : l.getD (l.length - 1) Ou.z = y := by rw [List.getD_eq_getElem?_getD, h]; rfl
  unfold wk; rw [e]
theorem Pv.rest_le {i : Nat} {C : Cs} {rest s : Nat → Int} (h : Pv i C rest s) {j : Nat} (hj : j < 4) : 0 ≤ rest j ∧ rest j ≤ s j := by
  have a := h.su j hj
  have b : 0 ≤ lv i C j := sm_nn fun r _ => by
    show 0 ≤ if r < 16 ∨ 16 + i ≤ r then C r j else 0
    split
    · exact h.nn r j hj
    · exact Int.le_refl _
  exact ⟨h.rs j hj, by omega⟩
theorem MOk.at {l : List Ou} {i n : Nat} (h : MOk l i n) {k : Nat} {y : Ou} (hy : l[k]? = some y) : ((-16 ≤ y.to ∧ y.to < 0) ∨ ((i : Int) < y.to ∧ y.to < n)) ∧ ∀ j, j < 4 → 0 ≤ y.w j ∧ y.w j ≤ 1000 := by
  have e : l.getD k Ou.z = y := by rw [List.getD_eq_getElem?_getD, hy]; rfl
  have := h.o k (get_lt hy)
  rw [e] at this; exact this
/-- a step of a machine's work: what is needed that no number is too large -/
theorem ws_safe {C : Cs} {i n : Nat} {l : List Ou} {s : Nat → Int} {k : Nat} {y : Ou} (h : MOk l i n) (hn : n ≤ 12) (hI : Pv i C (fun _ => 0) s) (hi : i < 12) (hS : ∀ j, j < 4 → s j ≤ 1099511627776) (hy : l[k]? = some y) (hk : k < l.length - 1) :
    (∀ j, j < 4 → InR (C (16 + i) j * y.w j)) ∧ (∀ j, j < 4 → 0 ≤ C (16 + i) j * y.w j) ∧ (∀ j, j < 4 → InR ((ws C (C (16 + i)) l k).1 (ix y.to) j + shQ (C (16 + i)) y.w j)) ∧ (∀ j, j < 4 → InR ((ws C (C (16 + i)) l k).2 j - shQ (C (16 + i)) y.w j)) := by
  obtain ⟨o1, o2⟩ := h.at hy
  obtain ⟨i1, i2, _⟩ := ix_ok o1 hn
  have n0 := hI.next hi
  obtain ⟨pv, _⟩ := ws_inv h hn n0 k (by omega)
  obtain ⟨pv2, _⟩ := ws_inv h hn n0 (k + 1) (by omega)
  rw [ws_succ hy] at pv2
  have a := fun j hj => share_in (n0.rs j hj) (o2 j hj).1 (o2 j hj).2
  have b := fun j hj => n0.rest_le (j := j) hj
  refine ⟨fun j hj => ?_, fun j hj => ?_, fun j hj => ?_, fun j hj => ?_⟩
  · have := a j hj; have := b j hj; have := hS j hj; have := Int.mul_nonneg (n0.rs j hj) (o2 j hj).1
    exact ⟨by omega, by omega⟩
  · exact Int.mul_nonneg (n0.rs j hj) (o2 j hj).1
  · have := pv.row i1 i2 hj
    have q : 0 ≤ (ws C (C (16 + i)) l k).2 j - shQ (C (16 + i)) y.w j := pv2.rs j hj
    have := (a j hj).1; have := hS j hj; have := pv.rs j hj
    have e : shQ (C (16 + i)) y.w j = C (16 + i) j * y.w j / 1000 := rfl
    exact ⟨by omega, by omega⟩
  · have q : 0 ≤ (ws C (C (16 + i)) l k).2 j - shQ (C (16 + i)) y.w j := pv2.rs j hj
    have := pv.rest_le hj; have := (a j hj).1; have := hS j hj
    have e : shQ (C (16 + i)) y.w j = C (16 + i) j * y.w j / 1000 := rfl
    exact ⟨by omega, by omega⟩
/-- the last one -/
theorem wk_safe {C : Cs} {i n : Nat} {l : List Ou} {s : Nat → Int} {y : Ou} (h : MOk l i n) (hn : n ≤ 12) (hI : Pv i C (fun _ => 0) s) (hi : i < 12) (hS : ∀ j, j < 4 → s j ≤ 1099511627776) (hy : l[l.length - 1]? = some y) :
    ∀ j, j < 4 → InR ((ws C (C (16 + i)) l (l.length - 1)).1 (ix y.to) j + (ws C (C (16 + i)) l (l.length - 1)).2 j) := by
  intro j hj
  obtain ⟨o1, o2⟩ := h.at hy
  obtain ⟨i1, i2, _⟩ := ix_ok o1 hn
  obtain ⟨pv, _⟩ := ws_inv h hn (hI.next hi) (l.length - 1) (Nat.le_refl _)
  have := pv.row i1 i2 hj
  have := pv.rs j hj; have := hS j hj
  exact ⟨by omega, by omega⟩
/-- the first i rows -/
def mxC (i : Nat) (C : Cs) : Cs := fun r => if r < i then C r else fun _ => 0
theorem mxC_step {C : Cs} {i : Nat} : setC (mxC i C) i (C i) = mxC (i + 1) C := by
  funext x
  unfold setC mxC
  by_cases e : x = i
  · subst e; rw [if_pos rfl, if_pos (by omega)]
  · rw [if_neg e]
    by_cases q : x < i
    · rw [if_pos q, if_pos (by omega)]
    · rw [if_neg q, if_neg (by omega)]
theorem mxC_all {C : Cs} {n : Nat} : cc (mxC n C) n = cc C n := cc_congr fun r hr => by unfold mxC; rw [if_pos hr]
end Go.Ax

/-
  Plant: the program's Run (written by program).
-/
namespace Go.Ax
open Go Go.RowKit Go.Proofs

theorem se27 : sliceElem Try.prog 27 = some (24, 4) := by kernel_rfl
theorem z24 : zeroOf Try.prog 24 = some (.agg #[iv 0, iv 0, iv 0, iv 0]) := by kernel_rfl
theorem u27 : Try.prog.underlying 27 = some (.slice 24) := by kernel_rfl
theorem in24b : ∃ i, Try.prog.info? 24 = some i ∧ i.bytes ≤ 1000 := by
  have h : (Try.prog.info? 24).map (fun i => Nat.ble i.bytes 1000) = some true := by kernel_rfl
  cases e : Try.prog.info? 24 with
  | none => rw [e] at h; cases h
  | some i => rw [e] at h; exact ⟨i, rfl, Nat.le_of_ble_eq_true (by simpa using h)⟩
theorem heap_makeR {P : Program} {lo n : Nat} {S : Rg} {H : Hp} {d : Option Tmp} {t e ty : TypeId} {x y : Operand} {p : String} {a m size : Nat} {z : Value} {i : TypeInfo} (he : sliceElem P t = some (e, size)) (hz : zeroOf P e = some z) (hi : P.info? e = some i) (hb : i.bytes ≤ 1000) (hx : evS S x = some (iv (a : Int))) (hy : evS S y = some (iv (m : Int))) (ham : a ≤ m) (hm : m ≤ 1000) :
    heapOp P lo (frS n S) H ⟨d, .makeSlice t x y, ty, p, #[], none⟩ = some (.val (.slice (some ⟨H.next, 0, none⟩) a m) (H.new (.cells (zeros z.cells.toList m) e false)), .heavy) := by
  have h1 : Nat.ble (i.bytes * m) 1099511627776 = true := Nat.ble_eq_true_of_le (Nat.le_trans (Nat.mul_le_mul hb hm) (by decide))
  unfold heapOp
  simp only [ev_frS, hx, hy, he, hz, hi, show ((m : Nat) : Int) = Int.ofNat m from rfl, show ((a : Nat) : Int) = Int.ofNat a from rfl, Nat.ble_eq_true_of_le ham, h1, Nat.ble_eq_true_of_le (show m ≤ 1048576 by omega), Bool.and_true, cond_true]
theorem zeros_cc (n : Nat) : zeros [iv 0, iv 0, iv 0, iv 0] n = cc cz n := by
  rw [show [iv 0, iv 0, iv 0, iv 0] = (fun q => qc q) (cz 0) from rfl, zeros_flat]
  unfold cc
  congr 1
  apply List.ext_getElem?
  intro i
  by_cases hi : i < n
  · rw [List.getElem?_replicate, if_pos hi, List.getElem?_map, List.getElem?_range hi]; rfl
  · rw [List.getElem?_eq_none (by simp; omega), List.getElem?_eq_none (by simp; omega)]
section
variable {kn : FuncId → Option Bool} {lo : Nat} {H : Hp}
/-- fill -/
theorem fill_ok {C : Cs} {p : Nat → Int} {b k : Nat} {j : Int} (cb : Cl H b (cc C 28)) (hj : j = (k : Int)) (hk16 : k < 16) (hr : ∀ i, i < 4 → InR (C k i + p i)) (hlb : lo ≤ b) (hlo : lo ≤ H.next) : ∃ H', FnX Try.prog kn lo 96 [pt b, iv j, .agg (qc p).toArray] H unit H' ∧ Keep H H' [b] ∧ Cl H' b (cc (setC C k (addQ (C k) p)) 28) := by
  have key := fnX_low (kn := kn) (lo := lo) (H := H) (args := [pt b, iv j, .agg (qc p).toArray]) (Q := fun w H' => w = unit ∧ Keep H H' [b] ∧ Cl H' b (cc (setC C k (addQ (C k) p)) 28)) Try.func96 B96 N96 Z96 L96 (by simp) ?_
  · obtain ⟨w, H', h, rfl, q⟩ := key; exact ⟨H', h, q⟩
  have hk := Keep.refl H [b]
  have lb := cb.lt
  refine wN_seq ?_
  refine wN_box (v := .agg (qc p).toArray) rfl ?_
  intro H1 kH1 nH1 c1
  have c1 : Cl H1 H.next [iv (p 0), iv (p 1), iv (p 2), iv (p 3)] := c1
  have mH1 := kH1.1
  have hk := hk.trans (kH1.mono (by simp))
  have cb := kH1.cl cb (by simp)
  refine wN_end ?_
  first | refine wD_dreg ?_ | (refine wOps_nil ?_; refine wD_dreg ?_)
  refine wD_mov (v := pt b) rfl ?_
  refine wD_mov (v := iv j) rfl ?_
  refine wD_mov (v := pt b) rfl ?_
  refine wD_mov (v := iv j) rfl ?_
  refine wD_nilc (a := ⟨b, 0, none⟩) rfl ?_
  refine wD_idxa (b := b) (o := 0) (k := k) (j := j) rfl rfl hj hk16 ?_
  refine wD_lda (b := b) (o := 0 + k * 4) rfl cb.rd (cc_row (by omega)) ?_
  refine wD_lda (b := H.next) (o := 0) rfl c1.rd (show row 4 _ _ = some [iv (p 0), iv (p 1), iv (p 2), iv (p 3)] from rfl) ?_
  obtain ⟨H2, fH2, kH2⟩ := plus_ok (kn := kn) (lo := lo) (H := H1) (p := C k) (q := p) (by omega) hr
  refine wD_callf (vs := [.agg (qc (C k)).toArray, .agg (qc p).toArray]) rfl (callX_args fH2) ?_
  have mH2 := kH2.1
  have hk := hk.trans (kH2.mono (by simp))
  have cb := kH2.cl cb (by simp)
  have c1 := kH2.cl c1 (by simp)
  refine wD_nilc (a := ⟨b, 0, none⟩) rfl ?_
  refine wD_idxa (b := b) (o := 0) (k := k) (j := j) rfl rfl hj hk16 ?_
  refine wD_sta (b := b) (o := 0 + k * 4) (v := .agg (qc (addQ (C k) p)).toArray) rfl rfl cb (by omega) rfl rfl (by rw [cc_len]; show 0 + k * 4 + 4 ≤ _; omega) ?_
  intro H3 kH3 nH3 sH3
  have mH3 := kH3.1
  have hk := hk.new kH3 (fun b hb => by simp at hb ⊢; omega)
  have c1 := kH3.cl c1 (by first | (simp; done) | (simp; omega))
  have cb : Cl H3 b (putRow (cc C 28) (0 + k * 4) (qc (addQ (C k) p))) := sH3
  rw [cc_put (by omega)] at cb
  refine wD_end (by repeat' first | exact True.intro | exact (fun h => h) | refine And.intro ?_ ?_ | (intro h; have h : (_ : Nat) = _ := h; omega)) ?_
  exact And.intro trivial (Exists.intro _ (And.intro rfl ⟨rfl, hk, cb⟩))
/-- send -/
theorem send_ok {C : Cs} {p : Nat → Int} {b : Nat} {to : Int} (cb : Cl H b (cc C 28)) (hto : (-16 ≤ to ∧ to < 0) ∨ (0 ≤ to ∧ to < 12)) (hr : ∀ i, i < 4 → InR (C (ix to) i + p i)) (hlb : lo ≤ b) (hlo : lo ≤ H.next) : ∃ H', FnX Try.prog kn lo 68 [pt b, iv to, .agg (qc p).toArray] H unit H' ∧ Keep H H' [b] ∧ Cl H' b (cc (snd C to p) 28) := by
  have key := fnX_low (kn := kn) (lo := lo) (H := H) (args := [pt b, iv to, .agg (qc p).toArray]) (Q := fun w H' => w = unit ∧ Keep H H' [b] ∧ Cl H' b (cc (snd C to p) 28)) Try.func68 B68 N68 Z68 L68 (by simp) ?_
  · obtain ⟨w, H', h, rfl, q⟩ := key; exact ⟨H', h, q⟩
  have hk := Keep.refl H [b]
  have lb := cb.lt
  refine wN_seq ?_
  refine wN_box (v := .agg (qc p).toArray) rfl ?_
  intro H1 kH1 nH1 c1
  have c1 : Cl H1 H.next [iv (p 0), iv (p 1), iv (p 2), iv (p 3)] := c1
  have mH1 := kH1.1
  have hk := hk.trans (kH1.mono (by simp))
  have cb := kH1.cl cb (by simp)
  refine wN_end ?_
  refine wN_seq ?_
  refine wN_mov (v := iv to) rfl ?_
  refine wN_c_lss (a := to) (b := 0) rfl rfl ?_
  refine wN_end ?_
  refine And.intro (fun q1 => ?_) (fun q1 => ?_)
  · have q1 : to < 0 := of_decide_eq_true q1
    obtain ⟨k, hj⟩ : ∃ k : Nat, -1 - to = (k : Int) := ⟨(-1 - to).toNat, by omega⟩
    have hix : ix to = k := by unfold ix; rw [if_pos (by omega)]; omega
    rw [hix] at hr
    refine wD_seq ?_
    refine wD_mov (v := pt b) rfl ?_
    refine wD_nilc (a := ⟨b, 0, none⟩) rfl ?_
    refine wD_addo (b := b) (o := 0) rfl ?_
    refine wD_mov (v := iv to) rfl ?_
    refine wD_sub (a := -1) (b := to) rfl rfl ⟨by omega, by omega⟩ ?_
    refine wD_lda (b := H.next) (o := 0) rfl c1.rd (show row 4 _ _ = some [iv (p 0), iv (p 1), iv (p 2), iv (p 3)] from rfl) ?_
    obtain ⟨H2, fH2, kH2, cH2⟩ := fill_ok (kn := kn) (lo := lo) (H := H1) (C := C) (p := p) (b := b) (k := k) (j := -1 - to) cb hj (by omega) hr (by omega) (by omega)
    rw [setC_snd hix] at cH2
    refine wD_callf (vs := [pt b, iv (-1 - to), .agg (qc p).toArray]) rfl (callX_args fH2) ?_
    have mH2 := kH2.1
    have hk := hk.new kH2 (fun b hb => by simp at hb ⊢; omega)
    have c1 := kH2.cl c1 (by first | (simp; done) | (simp; omega))
    have cb := cH2
    refine wD_end (by repeat' first | exact True.intro | exact (fun h => h) | refine And.intro ?_ ?_ | (intro h; have h : (_ : Nat) = _ := h; omega)) ?_
    exact And.intro trivial (Exists.intro _ (And.intro rfl ⟨rfl, hk, cb⟩))
  · have q1 : ¬ (to < 0) := of_decide_eq_false q1
    obtain ⟨k, hj⟩ : ∃ k : Nat, to = (k : Int) := ⟨to.toNat, by omega⟩
    have hix : ix to = 16 + k := by unfold ix; rw [if_neg (by omega)]; omega
    rw [hix] at hr
    first | refine wN_skip ?_ | skip
    first | refine wD_dreg ?_ | (refine wOps_nil ?_; refine wD_dreg ?_)
    refine wD_mov (v := pt b) rfl ?_
    refine wD_mov (v := iv to) rfl ?_
    refine wD_mov (v := pt b) rfl ?_
    refine wD_mov (v := iv to) rfl ?_
    refine wD_nilc (a := ⟨b, 0, none⟩) rfl ?_
    refine wD_addo (b := b) (o := 0) rfl ?_
    refine wD_idxa (b := b) (o := 64) (k := k) (j := to) rfl rfl hj (by omega) ?_
    refine wD_lda (b := b) (o := 64 + k * 4) rfl cb.rd (cc_row64 (by omega)) ?_
    refine wD_lda (b := H.next) (o := 0) rfl c1.rd (show row 4 _ _ = some [iv (p 0), iv (p 1), iv (p 2), iv (p 3)] from rfl) ?_
    obtain ⟨H3, fH3, kH3⟩ := plus_ok (kn := kn) (lo := lo) (H := H1) (p := C (16 + k)) (q := p) (by omega) hr
    refine wD_callf (vs := [.agg (qc (C (16 + k))).toArray, .agg (qc p).toArray]) rfl (callX_args fH3) ?_
    have mH3 := kH3.1
    have hk := hk.trans (kH3.mono (by simp))
    have cb := kH3.cl cb (by simp)
    have c1 := kH3.cl c1 (by simp)
    refine wD_nilc (a := ⟨b, 0, none⟩) rfl ?_
    refine wD_addo (b := b) (o := 0) rfl ?_
    refine wD_idxa (b := b) (o := 64) (k := k) (j := to) rfl rfl hj (by omega) ?_
    refine wD_sta (b := b) (o := 64 + k * 4) (v := .agg (qc (addQ (C (16 + k)) p)).toArray) rfl rfl cb (by omega) rfl rfl (by rw [cc_len]; show 64 + k * 4 + 4 ≤ _; omega) ?_
    intro H4 kH4 nH4 sH4
    have mH4 := kH4.1
    have hk := hk.new kH4 (fun b hb => by simp at hb ⊢; omega)
    have c1 := kH4.cl c1 (by first | (simp; done) | (simp; omega))
    have cb : Cl H4 b (putRow (cc C 28) (64 + k * 4) (qc (addQ (C (16 + k)) p))) := sH4
    rw [cc_put64 (by omega)] at cb
    rw [setC_snd hix] at cb
    refine wD_end (by repeat' first | exact True.intro | exact (fun h => h) | refine And.intro ?_ ?_ | (intro h; have h : (_ : Nat) = _ := h; omega)) ?_
    exact And.intro trivial (Exists.intro _ (And.intro rfl ⟨rfl, hk, cb⟩))
/-- work -/
theorem work_ok {x : Mc} {C : Cs} {s : Nat → Int} {i n b f : Nat} (hs : Sl H x.ra x.n x.cap (ouc x.l)) (hl : x.l.length = x.n) (hf : ∀ b, x.ra = some ⟨b, 0, none⟩ → Fy H b (ouc x.l)) (fs : ∀ b, x.ra = some ⟨b, 0, none⟩ → b < f) (hm : MOk x.l i n) (hn : n ≤ 12) (hI : Pv i C (fun _ => 0) s) (hi : i < 12) (hS : ∀ j, j < 4 → s j ≤ 1099511627776) (cb : Cl H b (cc C 28)) (hfb : f ≤ b) (hlb : lo ≤ b) (hlo : lo ≤ H.next) : ∃ H', FnX Try.prog kn lo 69 [pt b, iv (i : Int), .slice x.ra x.n x.cap] H unit H' ∧ Keep H H' [b] ∧ Cl H' b (cc (wk C i x.l) 28) := by
  have key := fnX_low (kn := kn) (lo := lo) (H := H) (args := [pt b, iv (i : Int), .slice x.ra x.n x.cap]) (Q := fun w H' => w = unit ∧ Keep H H' [b] ∧ Cl H' b (cc (wk C i x.l) 28)) Try.func69 B69 N69 Z69 L69 (by simp) ?_
  · obtain ⟨w, H', h, rfl, q⟩ := key; exact ⟨H', h, q⟩
  have hk := Keep.refl H [b]
  have lb := cb.lt
  have hm4 := hm.h4
  have hm1 := hm.h1
  refine wN_seq ?_
  refine wN_mov (v := pt b) rfl ?_
  refine wN_mov (v := iv (i : Int)) rfl ?_
  refine wN_nilc (a := ⟨b, 0, none⟩) rfl ?_
  refine wN_addo (b := b) (o := 0) rfl ?_
  refine wN_idxa (b := b) (o := 64) (k := i) (j := (i : Int)) rfl rfl rfl (by omega) ?_
  refine wN_lda (b := b) (o := 64 + i * 4) rfl cb.rd (cc_row64 hi) ?_
  refine wN_alc ?_
  intro H1 kH1 nH1 c1
  have c1 : Cl H1 H.next [iv 0, iv 0, iv 0, iv 0] := c1
  have mH1 := kH1.1
  have hk := hk.trans (kH1.mono (by simp))
  have hs := kH1.sl0 hs
  have hf := fun b e => kH1.fy (hf b e) (by simp)
  have cb := kH1.cl cb (by simp)
  refine wN_sta (b := H.next) (o := 0) rfl rfl c1 (by omega) rfl rfl (by simp) ?_
  intro H2 kH2 nH2 sH2
  have mH2 := kH2.1
  have hk := hk.new kH2 (fun b hb => by simp at hb ⊢; omega)
  have hs := kH2.sl hs (fun b e => by have := fs b e; first | (simp; done) | (simp; omega))
  have hf := fun b e => kH2.fy (hf b e) (by have := fs b e; simp; omega)
  have cb := kH2.cl cb (by first | (simp; done) | (simp; omega))
  have c1 : Cl H2 H.next [iv ((C (16 + i)) 0), iv ((C (16 + i)) 1), iv ((C (16 + i)) 2), iv ((C (16 + i)) 3)] := sH2
  refine wN_end ?_
  refine wN_seq ?_
  refine wN_lda (b := H.next) (o := 0) rfl c1.rd (show row 4 _ _ = some [iv ((C (16 + i)) 0), iv ((C (16 + i)) 1), iv ((C (16 + i)) 2), iv ((C (16 + i)) 3)] from rfl) ?_
  refine wN_alc ?_
  intro H3 kH3 nH3 c3
  have c3 : Cl H3 H2.next [iv 0, iv 0, iv 0, iv 0] := c3
  have mH3 := kH3.1
  have hk := hk.trans (kH3.mono (by simp))
  have hs := kH3.sl0 hs
  have hf := fun b e => kH3.fy (hf b e) (by simp)
  have cb := kH3.cl cb (by simp)
  have c1 := kH3.cl c1 (by simp)
  refine wN_sta (b := H2.next) (o := 0) rfl rfl c3 (by omega) rfl rfl (by simp) ?_
  intro H4 kH4 nH4 sH4
  have mH4 := kH4.1
  have hk := hk.new kH4 (fun b hb => by simp at hb ⊢; omega)
  have hs := kH4.sl hs (fun b e => by have := fs b e; first | (simp; done) | (simp; omega))
  have hf := fun b e => kH4.fy (hf b e) (by have := fs b e; simp; omega)
  have cb := kH4.cl cb (by first | (simp; done) | (simp; omega))
  have c1 := kH4.cl c1 (by first | (simp; done) | (simp; omega))
  have c3 : Cl H4 H2.next [iv ((C (16 + i)) 0), iv ((C (16 + i)) 1), iv ((C (16 + i)) 2), iv ((C (16 + i)) 3)] := sH4
  refine wN_end ?_
  refine wN_seq ?_
  refine wN_mov (v := .slice x.ra x.n x.cap) rfl ?_
  refine wN_len (m := x.n) rfl ?_
  refine wN_sub (a := (x.n : Int)) (b := 1) rfl rfl ⟨by omega, by omega⟩ ?_
  refine wN_mov (v := iv ((x.n : Int) - 1)) rfl ?_
  refine wN_end ?_
  refine wN_seq ?_
  refine wN_mov (v := .slice x.ra x.n x.cap) rfl ?_
  refine wN_mov (v := iv ((x.n : Int) - 1)) rfl ?_
  obtain ⟨kdu, eu, bu⟩ := heap_upto (lo := lo) (k := x.n - 1) hs hf (by omega)
  refine wN_memh (k := kdu) rfl (by kernel_rfl) (eu _ _ _ _ _ _ _ rfl (show evS _ _ = some (iv ((x.n - 1 : Nat) : Int)) from (by rw [show ((x.n - 1 : Nat) : Int) = (x.n : Int) - 1 by omega]; rfl))) bu ?_
  refine wN_len (m := (x.n - 1)) rfl ?_
  refine wN_mov (v := iv 0) rfl ?_
  refine wN_end ?_
  refine loop_low (fn := Try.f69) E69_1 N69 L69x1 (fun k : Nat => [(0, pt b), (2, .slice x.ra x.n x.cap), (6, pt H.next), (7, pt H2.next), (8, iv ((x.n : Int) - 1)), (24, .slice x.ra (x.n - 1) x.cap), (25, iv ((x.n - 1 : Nat) : Int)), (26, iv (k : Int))])
    (fun d k H' => k + d = x.n - 1 ∧ Keep H H' [b] ∧ H4.next ≤ H'.next ∧ Sl H' x.ra x.n x.cap (ouc x.l) ∧ Cl H' H.next (qc (C (16 + i))) ∧ Cl H' H2.next (qc (ws C (C (16 + i)) x.l k).2) ∧ Cl H' b (cc (ws C (C (16 + i)) x.l k).1 28)) (x.n - 1) 0 ⟨by omega, hk, Nat.le_refl _, hs, c1, c3, cb⟩ ⟨rfl, rfl, rfl, rfl, rfl, rfl, rfl, rfl, trivial⟩ ?_
  rintro d k L1 ⟨hkd, hk, hnx, hs, c6, c7, cb⟩
  have mki := hk.1
  refine wN_seq ?_
  refine wN_c_lss (a := (k : Int)) (b := ((x.n - 1 : Nat) : Int)) rfl rfl ?_
  refine wN_end ?_
  refine And.intro (fun q1 => ?_) (fun q1 => ?_)
  · have q1 : (k : Int) < ((x.n - 1 : Nat) : Int) := of_decide_eq_true q1
    have hi2 : k < x.n - 1 := by omega
    obtain ⟨y, hy⟩ := get_some (l := x.l) (i := k) (by omega)
    rcases id hs with ⟨_, h0, _⟩ | ⟨sb, esb, hsd, _⟩
    · omega
    have lsb := fs sb esb
    obtain ⟨s1, s2, s3, s4⟩ := ws_safe hm hn hI hi hS hy (by omega)
    have hto := (hm.at hy).1
    first | refine wN_skip ?_ | skip
    refine wN_seq ?_
    refine wN_idx (b := sb) (o := 0) (k := k) (j := (k : Int)) (by rw [← esb]; rfl) rfl rfl hi2 ?_
    refine wN_lda (b := sb) (o := 0 + k * 5) rfl hsd (ouc_row hy) ?_
    refine wN_alc ?_
    intro H5 kH5 nH5 c5
    have c5 : Cl H5 L1.next [iv 0, iv 0, iv 0, iv 0, iv 0] := c5
    have mH5 := kH5.1
    have hk := hk.trans (kH5.mono (by simp))
    have hs := kH5.sl0 hs
    have c6 := kH5.cl c6 (by simp)
    have c7 := kH5.cl c7 (by simp)
    have cb := kH5.cl cb (by simp)
    have hsd := kH5.rd hsd (by simp)
    refine wN_sta (b := L1.next) (o := 0) rfl rfl c5 (by omega) rfl rfl (by simp) ?_
    intro H6 kH6 nH6 sH6
    have mH6 := kH6.1
    have hk := hk.new kH6 (fun b hb => by simp at hb ⊢; omega)
    have hs := kH6.sl hs (fun b e => by have := fs b e; first | (simp; done) | (simp; omega))
    have c6 := kH6.cl c6 (by first | (simp; done) | (simp; omega))
    have c7 := kH6.cl c7 (by first | (simp; done) | (simp; omega))
    have cb := kH6.cl cb (by first | (simp; done) | (simp; omega))
    have hsd := kH6.rd hsd (by first | (simp; done) | (simp; omega))
    have c5 : Cl H6 L1.next [iv y.to, iv y.m, iv y.s, iv y.a, iv y.c] := sH6
    refine wN_end ?_
    refine wD_seq ?_
    refine wD_lda (b := H.next) (o := 0) rfl c6.rd (show row 4 (qc (C (16 + i))) 0 = some (qc (C (16 + i))) from rfl) ?_
    refine wD_lda (b := L1.next) (o := 0) rfl c5.rd (show row 5 _ _ = some [iv y.to, iv y.m, iv y.s, iv y.a, iv y.c] from rfl) ?_
    obtain ⟨H7, fH7, kH7⟩ := thou_ok (kn := kn) (lo := H6.next) (H := H6) (o := y) (Nat.le_refl _)
    refine wD_callh (vs := [.agg (Ou.f y).toArray]) rfl rfl (callX_args fH7) ?_
    have mH7 := kH7.1
    have hk := hk.trans (kH7.mono (by simp))
    have hs := kH7.sl0 hs
    have c6 := kH7.cl c6 (by simp)
    have c7 := kH7.cl c7 (by simp)
    have cb := kH7.cl cb (by simp)
    have hsd := kH7.rd hsd (by simp)
    have c5 := kH7.cl c5 (by simp)
    obtain ⟨H8, fH8, kH8⟩ := share_ok (kn := kn) (lo := H7.next) (H := H7) (p := C (16 + i)) (q := y.w) (Nat.le_refl _) s1 s2
    refine wD_callh (vs := [.agg (qc (C (16 + i))).toArray, .agg (qc y.w).toArray]) rfl rfl (callX_args fH8) ?_
    have mH8 := kH8.1
    have hk := hk.trans (kH8.mono (by simp))
    have hs := kH8.sl0 hs
    have c6 := kH8.cl c6 (by simp)
    have c7 := kH8.cl c7 (by simp)
    have cb := kH8.cl cb (by simp)
    have hsd := kH8.rd hsd (by simp)
    have c5 := kH8.cl c5 (by simp)
    refine wD_alc ?_
    intro H9 kH9 nH9 c9
    have c9 : Cl H9 H8.next [iv 0, iv 0, iv 0, iv 0] := c9
    have mH9 := kH9.1
    have hk := hk.trans (kH9.mono (by simp))
    have hs := kH9.sl0 hs
    have c6 := kH9.cl c6 (by simp)
    have c7 := kH9.cl c7 (by simp)
    have cb := kH9.cl cb (by simp)
    have hsd := kH9.rd hsd (by simp)
    have c5 := kH9.cl c5 (by simp)
    refine wD_sta (b := H8.next) (o := 0) rfl rfl c9 (by omega) rfl rfl (by simp) ?_
    intro H10 kH10 nH10 sH10
    have mH10 := kH10.1
    have hk := hk.new kH10 (fun b hb => by simp at hb ⊢; omega)
    have hs := kH10.sl hs (fun b e => by have := fs b e; first | (simp; done) | (simp; omega))
    have c6 := kH10.cl c6 (by first | (simp; done) | (simp; omega))
    have c7 := kH10.cl c7 (by first | (simp; done) | (simp; omega))
    have cb := kH10.cl cb (by first | (simp; done) | (simp; omega))
    have hsd := kH10.rd hsd (by first | (simp; done) | (simp; omega))
    have c5 := kH10.cl c5 (by first | (simp; done) | (simp; omega))
    have c9 : Cl H10 H8.next [iv ((shQ (C (16 + i)) y.w) 0), iv ((shQ (C (16 + i)) y.w) 1), iv ((shQ (C (16 + i)) y.w) 2), iv ((shQ (C (16 + i)) y.w) 3)] := sH10
    refine wD_end (by repeat' first | exact True.intro | exact (fun h => h) | refine And.intro ?_ ?_ | (intro h; have h : (_ : Nat) = _ := h; omega)) ?_
    refine wN_seq ?_
    refine wN_mov (v := pt b) rfl ?_
    refine wN_addo (b := L1.next) (o := 0) rfl ?_
    refine wN_ld (b := L1.next) (o := 0) (v := iv y.to) rfl c5.rd rfl ?_
    refine wN_lda (b := H8.next) (o := 0) rfl c9.rd (show row 4 _ _ = some [iv ((shQ (C (16 + i)) y.w) 0), iv ((shQ (C (16 + i)) y.w) 1), iv ((shQ (C (16 + i)) y.w) 2), iv ((shQ (C (16 + i)) y.w) 3)] from rfl) ?_
    obtain ⟨H11, fH11, kH11, cH11⟩ := send_ok (kn := kn) (lo := lo) (H := H10) (C := (ws C (C (16 + i)) x.l k).1) (p := (shQ (C (16 + i)) y.w)) (b := b) (to := y.to) cb (by omega) s3 (by omega) (by omega)
    refine wN_callf (vs := [pt b, iv y.to, .agg (qc (shQ (C (16 + i)) y.w)).toArray]) rfl (callX_args fH11) ?_
    have mH11 := kH11.1
    have hk := hk.new kH11 (fun b hb => by simp at hb ⊢; omega)
    have hs := kH11.sl hs (fun b e => by have := fs b e; first | (simp; done) | (simp; omega))
    have c6 := kH11.cl c6 (by first | (simp; done) | (simp; omega))
    have c7 := kH11.cl c7 (by first | (simp; done) | (simp; omega))
    have hsd := kH11.rd hsd (by first | (simp; done) | (simp; omega))
    have c5 := kH11.cl c5 (by first | (simp; done) | (simp; omega))
    have c9 := kH11.cl c9 (by first | (simp; done) | (simp; omega))
    have cb := cH11
    refine wN_end ?_
    first | refine wN_reg ?_ | refine wN_blk ?_ | refine wN_bseq ?_ | (refine wOps_nil ?_; refine wN_reg ?_)
    refine wN_lda (b := H2.next) (o := 0) rfl c7.rd (show row 4 (qc (ws C (C (16 + i)) x.l k).2) 0 = some (qc (ws C (C (16 + i)) x.l k).2) from rfl) ?_
    refine wN_lda (b := H8.next) (o := 0) rfl c9.rd (show row 4 _ _ = some [iv ((shQ (C (16 + i)) y.w) 0), iv ((shQ (C (16 + i)) y.w) 1), iv ((shQ (C (16 + i)) y.w) 2), iv ((shQ (C (16 + i)) y.w) 3)] from rfl) ?_
    obtain ⟨H12, fH12, kH12⟩ := minus_ok (kn := kn) (lo := lo) (H := H11) (p := (ws C (C (16 + i)) x.l k).2) (q := shQ (C (16 + i)) y.w) (by omega) s4
    refine wN_callf (vs := [.agg (qc (ws C (C (16 + i)) x.l k).2).toArray, .agg (qc (shQ (C (16 + i)) y.w)).toArray]) rfl (callX_args fH12) ?_
    have mH12 := kH12.1
    have hk := hk.trans (kH12.mono (by simp))
    have hs := kH12.sl0 hs
    have c6 := kH12.cl c6 (by simp)
    have c7 := kH12.cl c7 (by simp)
    have hsd := kH12.rd hsd (by simp)
    have c5 := kH12.cl c5 (by simp)
    have c9 := kH12.cl c9 (by simp)
    have cb := kH12.cl cb (by simp)
    refine wN_sta (b := H2.next) (o := 0) (v := .agg (qc (subQ (ws C (C (16 + i)) x.l k).2 (shQ (C (16 + i)) y.w))).toArray) rfl rfl c7 (by omega) rfl rfl (by simp) ?_
    intro H13 kH13 nH13 sH13
    have mH13 := kH13.1
    have hk := hk.new kH13 (fun b hb => by simp at hb ⊢; omega)
    have hs := kH13.sl hs (fun b e => by have := fs b e; first | (simp; done) | (simp; omega))
    have c6 := kH13.cl c6 (by first | (simp; done) | (simp; omega))
    have hsd := kH13.rd hsd (by first | (simp; done) | (simp; omega))
    have c5 := kH13.cl c5 (by first | (simp; done) | (simp; omega))
    have c9 := kH13.cl c9 (by first | (simp; done) | (simp; omega))
    have cb := kH13.cl cb (by first | (simp; done) | (simp; omega))
    have c7 : Cl H13 H2.next (qc (subQ (ws C (C (16 + i)) x.l k).2 (shQ (C (16 + i)) y.w))) := sH13
    have c7 : Cl H13 H2.next (qc (ws C (C (16 + i)) x.l (k + 1)).2) := by rw [ws_succ hy]; exact c7
    have cb : Cl H13 b (cc (ws C (C (16 + i)) x.l (k + 1)).1 28) := by rw [ws_succ hy]; exact cb
    refine wN_end ?_
    first | refine wN_reg ?_ | refine wN_blk ?_ | refine wN_bseq ?_ | (refine wOps_nil ?_; refine wN_reg ?_)
    refine wN_add (a := (k : Int)) (b := 1) rfl rfl ⟨by omega, by omega⟩ ?_
    refine wN_mov (v := iv ((k : Int) + 1)) rfl ?_
    refine wN_end ?_
    exact ⟨d - 1, k + 1, by omega, ⟨by omega, hk, by omega, hs, c6, c7, cb⟩, rfl, rfl, rfl, rfl, rfl, rfl, rfl, rfl, trivial⟩
  · have q1 : ¬ ((k : Int) < ((x.n - 1 : Nat) : Int)) := of_decide_eq_false q1
    have e : k = x.l.length - 1 := by omega
    subst e
    have hm1 := hm.h1
    obtain ⟨y, hy⟩ := get_some (l := x.l) (i := x.l.length - 1) (by omega)
    rcases id hs with ⟨_, h0, _⟩ | ⟨sb, esb, hsl, _⟩
    · omega
    have lsb := fs sb esb
    have s3 := wk_safe hm hn hI hi hS hy
    have hto := (hm.at hy).1
    first | (refine wN_exit ?_; show wC _ _ _ _ _ _ _ _ _) | skip
    first | refine wD_dreg ?_ | (refine wOps_nil ?_; refine wD_dreg ?_)
    refine wD_mov (v := pt b) rfl ?_
    refine wD_mov (v := .slice x.ra x.n x.cap) rfl ?_
    refine wD_mov (v := iv ((x.n : Int) - 1)) rfl ?_
    refine wD_idx (b := sb) (o := 0) (k := x.l.length - 1) (j := (x.n : Int) - 1) (by rw [← esb]; rfl) rfl (by omega) (by omega) ?_
    refine wD_addo (b := sb) (o := 0 + (x.l.length - 1) * 5) rfl ?_
    refine wD_ld (b := sb) (o := 0 + (x.l.length - 1) * 5) (v := iv y.to) rfl hsl (by have q := ouc_at (j := 0) hy rfl; exact q) ?_
    refine wD_lda (b := H2.next) (o := 0) rfl c7.rd (show row 4 (qc (ws C (C (16 + i)) x.l (x.l.length - 1)).2) 0 = some (qc (ws C (C (16 + i)) x.l (x.l.length - 1)).2) from rfl) ?_
    obtain ⟨H14, fH14, kH14, cH14⟩ := send_ok (kn := kn) (lo := lo) (H := L1) (C := (ws C (C (16 + i)) x.l (x.l.length - 1)).1) (p := (ws C (C (16 + i)) x.l (x.l.length - 1)).2) (b := b) (to := y.to) cb (by omega) s3 (by omega) (by omega)
    refine wD_callf (vs := [pt b, iv y.to, .agg (qc (ws C (C (16 + i)) x.l (x.l.length - 1)).2).toArray]) rfl (callX_args fH14) ?_
    have mH14 := kH14.1
    have hk := hk.new kH14 (fun b hb => by simp at hb ⊢; omega)
    have hs := kH14.sl hs (fun b e => by have := fs b e; first | (simp; done) | (simp; omega))
    have c6 := kH14.cl c6 (by first | (simp; done) | (simp; omega))
    have c7 := kH14.cl c7 (by first | (simp; done) | (simp; omega))
    have hsl := kH14.rd hsl (by first | (simp; done) | (simp; omega))
    have cb := cH14
    refine wD_end (by repeat' first | exact True.intro | exact (fun h => h) | refine And.intro ?_ ?_ | (intro h; have h : (_ : Nat) = _ := h; omega)) ?_
    exact And.intro trivial (Exists.intro _ (And.intro rfl ⟨rfl, hk, by rw [wk_last hy]; exact cb⟩))
/-- streams -/
theorem streams_ok {C : Cs} {b : Nat} (cb : Cl H b (cc C 28)) (hlo : lo ≤ H.next) : ∃ a H', FnX Try.prog kn lo 70 [pt b] H (slv a 16 16) H' ∧ Keep H H' [] ∧ H.next ≤ a ∧ Sc H' a (cc C 16) := by
  have key := fnX_low (kn := kn) (lo := lo) (H := H) (args := [pt b]) (Q := fun w H' => ∃ a, w = slv a 16 16 ∧ Keep H H' [] ∧ H.next ≤ a ∧ Sc H' a (cc C 16)) Try.func70 B70 N70 Z70 L70 (by simp) ?_
  · obtain ⟨w, H', h, a, rfl, q⟩ := key; exact ⟨a, H', h, q⟩
  have hk := Keep.refl H []
  have lb := cb.lt
  refine wN_seq ?_
  refine wN_mov (v := .slice none 0 0) rfl ?_
  refine wN_end ?_
  refine wN_seq ?_
  obtain ⟨ie, hie, hib⟩ := in24b
  obtain ⟨H1, hH1⟩ : ∃ H1, H.new (.cells (zeros [iv 0, iv 0, iv 0, iv 0] 16) 24 false) = H1 := ⟨_, rfl⟩
  refine wN_memh (v := .slice (some ⟨H.next, 0, none⟩) 0 16) (H' := H1) (k := .heavy) rfl (by kernel_rfl) ((heap_makeR (a := 0) (m := 16) se27 z24 hie hib rfl rfl (by omega) (by omega)).trans (by rw [← hH1]; rfl)) (fun b e => by cases e) ?_
  obtain ⟨kH1, nH1, _⟩ := new_facts hH1
  have hal := new_sc hH1
  rw [zeros_cc] at hal
  have mH1 := kH1.1
  have hk := hk.trans kH1
  have cb := kH1.cl cb (by simp)
  refine wN_mov (v := .slice (some ⟨H.next, 0, none⟩) 0 16) rfl ?_
  refine wN_end ?_
  refine wN_seq ?_
  refine wN_mov (v := pt b) rfl ?_
  refine wN_nilc (a := ⟨b, 0, none⟩) rfl ?_
  refine wN_mov (v := iv 0) rfl ?_
  refine wN_end ?_
  refine loop_low (fn := Try.f70) E70_1 N70 L70x1 (fun i : Nat => [(3, .slice (some ⟨H.next, 0, none⟩) i 16), (7, pt b), (9, iv (i : Int))])
    (fun k i H' => i + k = 16 ∧ Keep H H' [] ∧ H1.next ≤ H'.next ∧ Sc H' H.next (cc (mxC i C) 16) ∧ Cl H' b (cc C 28)) 16 0 ⟨by omega, hk, Nat.le_refl _, hal, cb⟩ ⟨rfl, rfl, rfl, trivial⟩ ?_
  rintro k i L1 ⟨hik, hk, hnx, hal, cb⟩
  have mki := hk.1
  refine wN_seq ?_
  refine wN_c_lss (a := (i : Int)) (b := 16) rfl rfl ?_
  refine wN_end ?_
  refine And.intro (fun q1 => ?_) (fun q1 => ?_)
  · have q1 : (i : Int) < 16 := of_decide_eq_true q1
    have hi : i < 16 := by omega
    first | refine wN_skip ?_ | skip
    refine wN_seq ?_
    refine wN_nilc (a := ⟨b, 0, none⟩) rfl ?_
    refine wN_idxa (b := b) (o := 0) (k := i) (j := (i : Int)) rfl rfl rfl hi ?_
    refine wN_lda (b := b) (o := 0 + i * 4) rfl cb.rd (cc_row (by omega)) ?_
    refine wN_alc ?_
    intro H2 kH2 nH2 c2
    have c2 : Cl H2 L1.next [iv 0, iv 0, iv 0, iv 0] := c2
    have mH2 := kH2.1
    have hk := hk.trans kH2
    have hal := kH2.sc hal (by simp)
    have cb := kH2.cl cb (by simp)
    refine wN_sta (b := L1.next) (o := 0) rfl rfl c2 (by omega) rfl rfl (by simp) ?_
    intro H3 kH3 nH3 sH3
    have mH3 := kH3.1
    have hk := hk.new kH3 (fun b hb => by simp at hb ⊢; omega)
    have hal := kH3.sc hal (by first | (simp; done) | (simp; omega))
    have cb := kH3.cl cb (by first | (simp; done) | (simp; omega))
    have c2 : Cl H3 L1.next [iv ((C i) 0), iv ((C i) 1), iv ((C i) 2), iv ((C i) 3)] := sH3
    refine wN_end ?_
    first | refine wN_reg ?_ | refine wN_blk ?_ | refine wN_bseq ?_ | (refine wOps_nil ?_; refine wN_reg ?_)
    refine wN_mov (v := .slice (some ⟨H.next, 0, none⟩) i 16) rfl ?_
    refine wN_lda (b := L1.next) (o := 0) rfl c2.rd (show row 4 _ _ = some [iv ((C i) 0), iv ((C i) 1), iv ((C i) 2), iv ((C i) 3)] from rfl) ?_
    obtain ⟨H4, fH4, kH4⟩ := stream_ok (kn := kn) (lo := lo) (H := H3) (s := C i) (by omega)
    refine wN_callf (vs := [.agg (qc (C i)).toArray]) rfl (callX_args fH4) ?_
    have mH4 := kH4.1
    have hk := hk.trans kH4
    have hal := kH4.sc hal (by simp)
    have cb := kH4.cl cb (by simp)
    have c2 := kH4.cl c2 (by simp)
    obtain ⟨H5, hH5⟩ : ∃ H5, H4.new (.cells [iv ((C i) 0), iv ((C i) 1), iv ((C i) 2), iv ((C i) 3)] 24 false) = H5 := ⟨_, rfl⟩
    refine wN_memh (H' := H5) (k := .heavy) rfl (by kernel_rfl) ((heap_build1 (v := .agg (qc (C i)).toArray) se27 z24 rfl rfl rfl (by decide)).trans (by rw [← hH5]; rfl)) (fun b e => by cases e) ?_
    obtain ⟨kH5, nH5, c5⟩ := new_facts hH5; clear hH5
    have c5 : Cl H5 H4.next [iv ((C i) 0), iv ((C i) 1), iv ((C i) 2), iv ((C i) 3)] := c5
    have mH5 := kH5.1
    have hk := hk.trans kH5
    have hal := kH5.sc hal (by simp)
    have cb := kH5.cl cb (by simp)
    have c2 := kH5.cl c2 (by simp)
    obtain ⟨H6, eH6, kH6, nH6, aH6⟩ := heap_append_room (P := Try.prog) (lo := lo) (k := i) (cap := 16) (t1 := 27) se27 u27 (c5.sl (Nat.le_refl 1)) rfl rfl hal hi (by omega) (by rw [cc_len]; omega) (by omega)
    refine wN_memh (k := .store H.next) rfl (by kernel_rfl) (eH6 _ _ _ _ _ _ _ rfl rfl) (fun b e => by cases e) ?_
    have mH6 := kH6.1
    have hk := hk.new kH6 (fun b hb => by simp at hb ⊢; omega)
    have cb := kH6.cl cb (by first | (simp; done) | (simp; omega))
    have c2 := kH6.cl c2 (by first | (simp; done) | (simp; omega))
    have c5 := kH6.cl c5 (by first | (simp; done) | (simp; omega))
    have hal : Sc H6 H.next (putRow (cc (mxC i C) 16) (0 + i * 4) (qc (C i))) := aH6
    rw [cc_put hi, mxC_step] at hal
    refine wN_mov (v := .slice (some ⟨H.next, 0, none⟩) (i + 1) 16) rfl ?_
    refine wN_end ?_
    first | refine wN_reg ?_ | refine wN_blk ?_ | refine wN_bseq ?_ | (refine wOps_nil ?_; refine wN_reg ?_)
    refine wN_add (a := (i : Int)) (b := 1) rfl rfl ⟨by omega, by omega⟩ ?_
    refine wN_mov (v := iv ((i : Int) + 1)) rfl ?_
    refine wN_end ?_
    exact ⟨k - 1, i + 1, by omega, ⟨by omega, hk, by omega, hal, cb⟩, rfl, rfl, rfl, trivial⟩
  · have q1 : ¬ ((i : Int) < 16) := of_decide_eq_false q1
    refine wN_seq ?_
    refine wN_mov (v := .slice (some ⟨H.next, 0, none⟩) i 16) rfl ?_
    refine wN_mov (v := .slice (some ⟨H.next, 0, none⟩) i 16) rfl ?_
    refine wN_end ?_
    have e : i = 16 := by omega
    subst e
    rw [mxC_all] at hal
    exact And.intro trivial (Exists.intro _ (And.intro rfl ⟨_, rfl, hk, by omega, hal⟩))
set_option maxRecDepth 100000 in
/-- run -/
theorem run44_ok {s : Nat → Int} {sa : Option Addr} {n cap f : Nat} {rs : List Mc} (hr : Mcs H f sa n cap rs) (hf : f ≤ H.next) (hlo : lo ≤ H.next) (hp : pok (mss rs) = true) (hS : ∀ j, j < 4 → 0 ≤ s j ∧ s j ≤ 1099511627776) : ∃ a H', FnX Try.prog kn lo 44 [.slice sa n cap, .agg (qc s).toArray] H (slv a 16 16) H' ∧ Keep H H' [] ∧ H.next ≤ a ∧ Sc H' a (cc (rnA (mss rs) s) 16) := by
  have key := fnX_low (kn := kn) (lo := lo) (H := H) (args := [.slice sa n cap, .agg (qc s).toArray]) (Q := fun w H' => ∃ a, w = slv a 16 16 ∧ Keep H H' [] ∧ H.next ≤ a ∧ Sc H' a (cc (rnA (mss rs) s) 16)) Try.func44 B44 N44 Z44 L44 (by simp) ?_
  · obtain ⟨w, H', h, a, rfl, q⟩ := key; exact ⟨a, H', h, q⟩
  have hk := Keep.refl H []
  refine wN_seq ?_
  refine wN_box (v := .agg (qc s).toArray) rfl ?_
  intro H1 kH1 nH1 c1
  have c1 : Cl H1 H.next [iv (s 0), iv (s 1), iv (s 2), iv (s 3)] := c1
  have mH1 := kH1.1
  have hk := hk.trans kH1
  have hr := hr.keep kH1 (by simp)
  refine wN_mov (v := .slice none 0 0) rfl ?_
  refine wN_end ?_
  refine wN_seq ?_
  refine wN_pur (v := .agg #[iv 0, iv 0, iv 0, iv 0, iv 0, iv 0, iv 0, iv 0, iv 0, iv 0, iv 0, iv 0, iv 0, iv 0, iv 0, iv 0, iv 0, iv 0, iv 0, iv 0, iv 0, iv 0, iv 0, iv 0, iv 0, iv 0, iv 0, iv 0, iv 0, iv 0, iv 0, iv 0, iv 0, iv 0, iv 0, iv 0, iv 0, iv 0, iv 0, iv 0, iv 0, iv 0, iv 0, iv 0, iv 0, iv 0, iv 0, iv 0, iv 0, iv 0, iv 0, iv 0, iv 0, iv 0, iv 0, iv 0, iv 0, iv 0, iv 0, iv 0, iv 0, iv 0, iv 0, iv 0, iv 0, iv 0, iv 0, iv 0, iv 0, iv 0, iv 0, iv 0, iv 0, iv 0, iv 0, iv 0, iv 0, iv 0, iv 0, iv 0, iv 0, iv 0, iv 0, iv 0, iv 0, iv 0, iv 0, iv 0, iv 0, iv 0, iv 0, iv 0, iv 0, iv 0, iv 0, iv 0, iv 0, iv 0, iv 0, iv 0, iv 0, iv 0, iv 0, iv 0, iv 0, iv 0, iv 0, iv 0, iv 0, iv 0, iv 0, iv 0]) rfl (by kernel_rfl) ?_
  refine wN_alc ?_
  intro H2 kH2 nH2 c2
  have c2 : Cl H2 H1.next [iv 0, iv 0, iv 0, iv 0, iv 0, iv 0, iv 0, iv 0, iv 0, iv 0, iv 0, iv 0, iv 0, iv 0, iv 0, iv 0, iv 0, iv 0, iv 0, iv 0, iv 0, iv 0, iv 0, iv 0, iv 0, iv 0, iv 0, iv 0, iv 0, iv 0, iv 0, iv 0, iv 0, iv 0, iv 0, iv 0, iv 0, iv 0, iv 0, iv 0, iv 0, iv 0, iv 0, iv 0, iv 0, iv 0, iv 0, iv 0, iv 0, iv 0, iv 0, iv 0, iv 0, iv 0, iv 0, iv 0, iv 0, iv 0, iv 0, iv 0, iv 0, iv 0, iv 0, iv 0, iv 0, iv 0, iv 0, iv 0, iv 0, iv 0, iv 0, iv 0, iv 0, iv 0, iv 0, iv 0, iv 0, iv 0, iv 0, iv 0, iv 0, iv 0, iv 0, iv 0, iv 0, iv 0, iv 0, iv 0, iv 0, iv 0, iv 0, iv 0, iv 0, iv 0, iv 0, iv 0, iv 0, iv 0, iv 0, iv 0, iv 0, iv 0, iv 0, iv 0, iv 0, iv 0, iv 0, iv 0, iv 0, iv 0, iv 0, iv 0] := c2
  have mH2 := kH2.1
  have hk := hk.trans kH2
  have hr := hr.keep kH2 (by simp)
  have c1 := kH2.cl c1 (by simp)
  refine wN_sta (b := H1.next) (o := 0) (v := .agg #[iv 0, iv 0, iv 0, iv 0, iv 0, iv 0, iv 0, iv 0, iv 0, iv 0, iv 0, iv 0, iv 0, iv 0, iv 0, iv 0, iv 0, iv 0, iv 0, iv 0, iv 0, iv 0, iv 0, iv 0, iv 0, iv 0, iv 0, iv 0, iv 0, iv 0, iv 0, iv 0, iv 0, iv 0, iv 0, iv 0, iv 0, iv 0, iv 0, iv 0, iv 0, iv 0, iv 0, iv 0, iv 0, iv 0, iv 0, iv 0, iv 0, iv 0, iv 0, iv 0, iv 0, iv 0, iv 0, iv 0, iv 0, iv 0, iv 0, iv 0, iv 0, iv 0, iv 0, iv 0, iv 0, iv 0, iv 0, iv 0, iv 0, iv 0, iv 0, iv 0, iv 0, iv 0, iv 0, iv 0, iv 0, iv 0, iv 0, iv 0, iv 0, iv 0, iv 0, iv 0, iv 0, iv 0, iv 0, iv 0, iv 0, iv 0, iv 0, iv 0, iv 0, iv 0, iv 0, iv 0, iv 0, iv 0, iv 0, iv 0, iv 0, iv 0, iv 0, iv 0, iv 0, iv 0, iv 0, iv 0, iv 0, iv 0, iv 0, iv 0]) rfl rfl c2 (by omega) rfl rfl (by simp) ?_
  intro H3 kH3 nH3 sH3
  have mH3 := kH3.1
  have hk := hk.new kH3 (fun b hb => by simp at hb ⊢; omega)
  have hr := hr.keep kH3 (fun x hx => by simp at hx; omega)
  have c1 := kH3.cl c1 (by first | (simp; done) | (simp; omega))
  obtain ⟨b, eb⟩ : ∃ b, b = H1.next := ⟨_, rfl⟩
  have cb : Cl H3 b (cc cz 28) := by rw [eb]; exact sH3
  rw [← eb]
  have lb := cb.lt
  refine wN_end ?_
  refine wN_seq ?_
  refine wN_mov (v := iv 0) rfl ?_
  refine wN_end ?_
  refine wN_seq ?_
  refine wN_mov (v := .slice sa n cap) rfl ?_
  refine wN_len (m := n) rfl ?_
  refine wN_c_eql (a := (n : Int)) (b := 0) rfl rfl ?_
  refine wN_end ?_
  refine And.intro (fun q1 => ?_) (fun q1 => ?_)
  · have q1 : (n : Int) = 0 := by simpa using q1
    refine wN_seq ?_
    refine wN_mov (v := iv (-1)) rfl ?_
    refine wN_end ?_
    refine wN_seq ?_
    refine wN_mov (v := iv (-1)) rfl ?_
    refine wN_lda (b := H.next) (o := 0) rfl c1.rd (show row 4 _ _ = some [iv (s 0), iv (s 1), iv (s 2), iv (s 3)] from rfl) ?_
    obtain ⟨H4, fH4, kH4⟩ := grams_ok (kn := kn) (lo := lo) (H := H3) (s := s) (by omega)
    refine wN_callf (vs := [.agg (qc s).toArray]) rfl (callX_args fH4) ?_
    have mH4 := kH4.1
    have hk := hk.trans kH4
    have hr := hr.keep kH4 (by simp)
    have c1 := kH4.cl c1 (by simp)
    have cb := kH4.cl cb (by simp)
    have een : (-1 : Int) = (if (mss rs).length = 0 then -1 else 0) := by have := hr.rl; simp only [mss, List.length_map]; split <;> omega
    obtain ⟨H5, fH5, kH5, cH5⟩ := send_ok (kn := kn) (lo := lo) (H := H4) (C := cz) (p := s) (b := b) (to := -1) cb (by omega) (fun j hj => by have := hS j hj; show InR (0 + s j); exact ⟨by omega, by omega⟩) (by omega) (by omega)
    rw [een] at cH5
    refine wN_callf (vs := [pt b, iv (-1), .agg (qc s).toArray]) rfl (callX_args fH5) ?_
    have mH5 := kH5.1
    have hk := hk.new kH5 (fun b hb => by simp at hb ⊢; omega)
    have hr := hr.keep kH5 (fun x hx => by simp at hx; omega)
    have c1 := kH5.cl c1 (by first | (simp; done) | (simp; omega))
    have cb : Cl H5 b (cc (rn (mss rs) s 0) 28) := cH5
    refine wN_end ?_
    refine wN_seq ?_
    refine wN_mov (v := .slice sa n cap) rfl ?_
    refine wN_len (m := n) rfl ?_
    refine wN_mov (v := iv 0) rfl ?_
    refine wN_end ?_
    refine loop_low (fn := Try.f44) E44_1 N44 L44x1 (fun i : Nat => [(5, pt b), (17, .slice sa n cap), (18, iv (n : Int)), (19, iv (i : Int))])
      (fun k i H' => i + k = n ∧ Keep H H' [] ∧ H5.next ≤ H'.next ∧ Mcs H' f sa n cap rs ∧ Cl H' b (cc (rn (mss rs) s i) 28)) n 0 ⟨by omega, hk, Nat.le_refl _, hr, cb⟩ ⟨rfl, rfl, rfl, rfl, trivial⟩ ?_
    rintro k i L1 ⟨hik, hk, hnx, hr, cb⟩
    have mki := hk.1
    have lb := cb.lt
    refine wN_seq ?_
    refine wN_c_lss (a := (i : Int)) (b := (n : Int)) rfl rfl ?_
    refine wN_end ?_
    refine And.intro (fun q2 => ?_) (fun q2 => ?_)
    · have q2 : (i : Int) < (n : Int) := of_decide_eq_true q2
      have hn12 : n ≤ 12 := by have := (pok_t hp).1; simp only [mss, List.length_map] at this; have := hr.rl; omega
      have hi : i < n := by omega
      obtain ⟨sb, so, cs, x, hx, esb, rsb, lsf, lcap, hat, hmem⟩ := hr.opn hi
      obtain ⟨hrs, hrl, hrf⟩ := hr.ri x hmem
      have fs : ∀ b, x.ra = some ⟨b, 0, none⟩ → b < f := fun b e => (hrf b e).1
      have hff : ∀ b, x.ra = some ⟨b, 0, none⟩ → Fy L1 b (ouc x.l) := fun b e => (hrf b e).2
      have hmx := (pok_t hp).2 i (by simp only [mss, List.length_map]; have := hr.rl; omega)
      rw [mss_get hx] at hmx
      first | refine wN_skip ?_ | skip
      refine wN_seq ?_
      refine wN_mov (v := iv (i : Int)) rfl ?_
      refine wN_idx (b := sb) (o := so) (k := i) (j := (i : Int)) (by rw [← esb]; rfl) rfl rfl hi ?_
      refine wN_lda (b := sb) (o := so + i * 1) rfl rsb (row1_of hat) ?_
      refine wN_alc ?_
      intro H6 kH6 nH6 c6
      have c6 : Cl H6 L1.next [.slice none 0 0] := c6
      have mH6 := kH6.1
      have hk := hk.trans kH6
      have hr := hr.keep kH6 (by simp)
      have cb := kH6.cl cb (by simp)
      have rsb := kH6.rd rsb (by simp)
      have hrs := kH6.sl0 hrs
      have hff := fun b e => kH6.fy (hff b e) (by simp)
      refine wN_mov (v := iv (i : Int)) rfl ?_
      refine wN_sta (b := L1.next) (o := 0) rfl rfl c6 (by omega) rfl rfl (by simp) ?_
      intro H7 kH7 nH7 sH7
      have mH7 := kH7.1
      have hk := hk.new kH7 (fun b hb => by simp at hb ⊢; omega)
      have hr := hr.keep kH7 (fun x hx => by simp at hx; omega)
      have cb := kH7.cl cb (by first | (simp; done) | (simp; omega))
      have rsb := kH7.rd rsb (by first | (simp; done) | (simp; omega))
      have hrs := kH7.sl hrs (fun b e => by have := fs b e; first | (simp; done) | (simp; omega))
      have hff := fun b e => kH7.fy (hff b e) (by have := fs b e; simp; omega)
      have c6 : Cl H7 L1.next [.slice x.ra x.n x.cap] := sH7
      refine wN_end ?_
      first | refine wN_reg ?_ | refine wN_blk ?_ | refine wN_bseq ?_ | (refine wOps_nil ?_; refine wN_reg ?_)
      refine wN_mov (v := iv (i : Int)) rfl ?_
      refine wN_addo (b := L1.next) (o := 0) rfl ?_
      refine wN_ld (b := L1.next) (o := 0) (v := .slice x.ra x.n x.cap) rfl c6.rd rfl ?_
      have hlen : (mss rs).length = n := by simp only [mss, List.length_map]; exact hr.rl
      obtain ⟨H8, fH8, kH8, cH8⟩ := work_ok (kn := kn) (lo := lo) (H := H7) (x := x) (C := rn (mss rs) s i) (s := s) (i := i) (b := b) (f := f) hrs hrl hff fs hmx (pok_t hp).1 (rn_inv hp (fun j hj => (hS j hj).1) i (by omega)) (by have := (pok_t hp).1; omega) (fun j hj => (hS j hj).2) cb (by omega) (by omega) (by omega)
      refine wN_callf (vs := [pt b, iv (i : Int), .slice x.ra x.n x.cap]) rfl (callX_args fH8) ?_
      have mH8 := kH8.1
      have hk := hk.new kH8 (fun b hb => by simp at hb ⊢; omega)
      have hr := hr.keep kH8 (fun x hx => by simp at hx; omega)
      have rsb := kH8.rd rsb (by first | (simp; done) | (simp; omega))
      have hrs := kH8.sl hrs (fun b e => by have := fs b e; first | (simp; done) | (simp; omega))
      have hff := fun b e => kH8.fy (hff b e) (by have := fs b e; simp; omega)
      have c6 := kH8.cl c6 (by first | (simp; done) | (simp; omega))
      have cb : Cl H8 b (cc (rn (mss rs) s (i + 1)) 28) := by
        show Cl H8 b (cc (wk (rn (mss rs) s i) i ((mss rs).getD i [])) 28)
        rw [mss_get hx]; exact cH8
      refine wN_end ?_
      first | refine wN_reg ?_ | refine wN_blk ?_ | refine wN_bseq ?_ | (refine wOps_nil ?_; refine wN_reg ?_)
      refine wN_add (a := (i : Int)) (b := 1) rfl rfl ⟨by omega, by omega⟩ ?_
      refine wN_mov (v := iv ((i : Int) + 1)) rfl ?_
      refine wN_end ?_
      exact ⟨k - 1, i + 1, by omega, ⟨by omega, hk, by omega, hr, cb⟩, rfl, rfl, rfl, rfl, trivial⟩
    · have q2 : ¬ ((i : Int) < (n : Int)) := of_decide_eq_false q2
      have e : i = (mss rs).length := by simp only [mss, List.length_map]; have := hr.rl; omega
      subst e
      refine wN_seq ?_
      refine wN_addo (b := b) (o := 0) rfl ?_
      obtain ⟨a, H9, fH9, kH9, ha, hal⟩ := streams_ok (kn := kn) (lo := lo) (H := L1) (C := rnA (mss rs) s) (b := b) cb (by omega)
      refine wN_callf (vs := [pt b]) rfl (callX_args fH9) ?_
      have mH9 := kH9.1
      have hk := hk.trans kH9
      have hr := hr.keep kH9 (by simp)
      have cb := kH9.cl cb (by simp)
      refine wN_mov (v := .slice (some ⟨a, 0, none⟩) 16 16) rfl ?_
      refine wN_end ?_
      exact And.intro trivial (Exists.intro _ (And.intro rfl ⟨_, rfl, hk, by omega, hal⟩))
  · have q1 : ¬ ((n : Int) = 0) := by simpa using q1
    first | refine wN_skip ?_ | skip
    refine wN_seq ?_
    refine wN_mov (v := iv 0) rfl ?_
    refine wN_lda (b := H.next) (o := 0) rfl c1.rd (show row 4 _ _ = some [iv (s 0), iv (s 1), iv (s 2), iv (s 3)] from rfl) ?_
    obtain ⟨H10, fH10, kH10⟩ := grams_ok (kn := kn) (lo := lo) (H := H3) (s := s) (by omega)
    refine wN_callf (vs := [.agg (qc s).toArray]) rfl (callX_args fH10) ?_
    have mH10 := kH10.1
    have hk := hk.trans kH10
    have hr := hr.keep kH10 (by simp)
    have c1 := kH10.cl c1 (by simp)
    have cb := kH10.cl cb (by simp)
    have een : (0 : Int) = (if (mss rs).length = 0 then -1 else 0) := by have := hr.rl; simp only [mss, List.length_map]; split <;> omega
    obtain ⟨H11, fH11, kH11, cH11⟩ := send_ok (kn := kn) (lo := lo) (H := H10) (C := cz) (p := s) (b := b) (to := 0) cb (by omega) (fun j hj => by have := hS j hj; show InR (0 + s j); exact ⟨by omega, by omega⟩) (by omega) (by omega)
    rw [een] at cH11
    refine wN_callf (vs := [pt b, iv 0, .agg (qc s).toArray]) rfl (callX_args fH11) ?_
    have mH11 := kH11.1
    have hk := hk.new kH11 (fun b hb => by simp at hb ⊢; omega)
    have hr := hr.keep kH11 (fun x hx => by simp at hx; omega)
    have c1 := kH11.cl c1 (by first | (simp; done) | (simp; omega))
    have cb : Cl H11 b (cc (rn (mss rs) s 0) 28) := cH11
    refine wN_end ?_
    refine wN_seq ?_
    refine wN_mov (v := .slice sa n cap) rfl ?_
    refine wN_len (m := n) rfl ?_
    refine wN_mov (v := iv 0) rfl ?_
    refine wN_end ?_
    refine loop_low (fn := Try.f44) E44_1 N44 L44x1 (fun i : Nat => [(5, pt b), (17, .slice sa n cap), (18, iv (n : Int)), (19, iv (i : Int))])
      (fun k i H' => i + k = n ∧ Keep H H' [] ∧ H11.next ≤ H'.next ∧ Mcs H' f sa n cap rs ∧ Cl H' b (cc (rn (mss rs) s i) 28)) n 0 ⟨by omega, hk, Nat.le_refl _, hr, cb⟩ ⟨rfl, rfl, rfl, rfl, trivial⟩ ?_
    rintro k i L1 ⟨hik, hk, hnx, hr, cb⟩
    have mki := hk.1
    have lb := cb.lt
    refine wN_seq ?_
    refine wN_c_lss (a := (i : Int)) (b := (n : Int)) rfl rfl ?_
    refine wN_end ?_
    refine And.intro (fun q3 => ?_) (fun q3 => ?_)
    · have q3 : (i : Int) < (n : Int) := of_decide_eq_true q3
      have hn12 : n ≤ 12 := by have := (pok_t hp).1; simp only [mss, List.length_map] at this; have := hr.rl; omega
      have hi : i < n := by omega
      obtain ⟨sb, so, cs, x, hx, esb, rsb, lsf, lcap, hat, hmem⟩ := hr.opn hi
      obtain ⟨hrs, hrl, hrf⟩ := hr.ri x hmem
      have fs : ∀ b, x.ra = some ⟨b, 0, none⟩ → b < f := fun b e => (hrf b e).1
      have hff : ∀ b, x.ra = some ⟨b, 0, none⟩ → Fy L1 b (ouc x.l) := fun b e => (hrf b e).2
      have hmx := (pok_t hp).2 i (by simp only [mss, List.length_map]; have := hr.rl; omega)
      rw [mss_get hx] at hmx
      first | refine wN_skip ?_ | skip
      refine wN_seq ?_
      refine wN_mov (v := iv (i : Int)) rfl ?_
      refine wN_idx (b := sb) (o := so) (k := i) (j := (i : Int)) (by rw [← esb]; rfl) rfl rfl hi ?_
      refine wN_lda (b := sb) (o := so + i * 1) rfl rsb (row1_of hat) ?_
      refine wN_alc ?_
      intro H12 kH12 nH12 c12
      have c12 : Cl H12 L1.next [.slice none 0 0] := c12
      have mH12 := kH12.1
      have hk := hk.trans kH12
      have hr := hr.keep kH12 (by simp)
      have cb := kH12.cl cb (by simp)
      have rsb := kH12.rd rsb (by simp)
      have hrs := kH12.sl0 hrs
      have hff := fun b e => kH12.fy (hff b e) (by simp)
      refine wN_mov (v := iv (i : Int)) rfl ?_
      refine wN_sta (b := L1.next) (o := 0) rfl rfl c12 (by omega) rfl rfl (by simp) ?_
      intro H13 kH13 nH13 sH13
      have mH13 := kH13.1
      have hk := hk.new kH13 (fun b hb => by simp at hb ⊢; omega)
      have hr := hr.keep kH13 (fun x hx => by simp at hx; omega)
      have cb := kH13.cl cb (by first | (simp; done) | (simp; omega))
      have rsb := kH13.rd rsb (by first | (simp; done) | (simp; omega))
      have hrs := kH13.sl hrs (fun b e => by have := fs b e; first | (simp; done) | (simp; omega))
      have hff := fun b e => kH13.fy (hff b e) (by have := fs b e; simp; omega)
      have c12 : Cl H13 L1.next [.slice x.ra x.n x.cap] := sH13
      refine wN_end ?_
      first | refine wN_reg ?_ | refine wN_blk ?_ | refine wN_bseq ?_ | (refine wOps_nil ?_; refine wN_reg ?_)
      refine wN_mov (v := iv (i : Int)) rfl ?_
      refine wN_addo (b := L1.next) (o := 0) rfl ?_
      refine wN_ld (b := L1.next) (o := 0) (v := .slice x.ra x.n x.cap) rfl c12.rd rfl ?_
      have hlen : (mss rs).length = n := by simp only [mss, List.length_map]; exact hr.rl
      obtain ⟨H14, fH14, kH14, cH14⟩ := work_ok (kn := kn) (lo := lo) (H := H13) (x := x) (C := rn (mss rs) s i) (s := s) (i := i) (b := b) (f := f) hrs hrl hff fs hmx (pok_t hp).1 (rn_inv hp (fun j hj => (hS j hj).1) i (by omega)) (by have := (pok_t hp).1; omega) (fun j hj => (hS j hj).2) cb (by omega) (by omega) (by omega)
      refine wN_callf (vs := [pt b, iv (i : Int), .slice x.ra x.n x.cap]) rfl (callX_args fH14) ?_
      have mH14 := kH14.1
      have hk := hk.new kH14 (fun b hb => by simp at hb ⊢; omega)
      have hr := hr.keep kH14 (fun x hx => by simp at hx; omega)
      have rsb := kH14.rd rsb (by first | (simp; done) | (simp; omega))
      have hrs := kH14.sl hrs (fun b e => by have := fs b e; first | (simp; done) | (simp; omega))
      have hff := fun b e => kH14.fy (hff b e) (by have := fs b e; simp; omega)
      have c12 := kH14.cl c12 (by first | (simp; done) | (simp; omega))
      have cb : Cl H14 b (cc (rn (mss rs) s (i + 1)) 28) := by
        show Cl H14 b (cc (wk (rn (mss rs) s i) i ((mss rs).getD i [])) 28)
        rw [mss_get hx]; exact cH14
      refine wN_end ?_
      first | refine wN_reg ?_ | refine wN_blk ?_ | refine wN_bseq ?_ | (refine wOps_nil ?_; refine wN_reg ?_)
      refine wN_add (a := (i : Int)) (b := 1) rfl rfl ⟨by omega, by omega⟩ ?_
      refine wN_mov (v := iv ((i : Int) + 1)) rfl ?_
      refine wN_end ?_
      exact ⟨k - 1, i + 1, by omega, ⟨by omega, hk, by omega, hr, cb⟩, rfl, rfl, rfl, rfl, trivial⟩
    · have q3 : ¬ ((i : Int) < (n : Int)) := of_decide_eq_false q3
      have e : i = (mss rs).length := by simp only [mss, List.length_map]; have := hr.rl; omega
      subst e
      refine wN_seq ?_
      refine wN_addo (b := b) (o := 0) rfl ?_
      obtain ⟨a, H15, fH15, kH15, ha, hal⟩ := streams_ok (kn := kn) (lo := lo) (H := L1) (C := rnA (mss rs) s) (b := b) cb (by omega)
      refine wN_callf (vs := [pt b]) rfl (callX_args fH15) ?_
      have mH15 := kH15.1
      have hk := hk.trans kH15
      have hr := hr.keep kH15 (by simp)
      have cb := kH15.cl cb (by simp)
      refine wN_mov (v := .slice (some ⟨a, 0, none⟩) 16 16) rfl ?_
      refine wN_end ?_
      exact And.intro trivial (Exists.intro _ (And.intro rfl ⟨_, rfl, hk, by omega, hal⟩))
end
end Go.Ax

/-
  Plant: a machine's work, as the document has it (written by program).
-/
namespace Go.Ax
open Go Go.RowKit

def dws (C : Cs) (all : Nat → Int) (l : List Ou) : Nat → Cs × (Nat → Int)
  | 0 => (C, all)
  | k + 1 => (snd (dws C all l k).1 (l.getD k Ou.z).to (if k < l.length - 1 then shQ all (l.getD k Ou.z).w else (dws C all l k).2), subQ (dws C all l k).2 (if k < l.length - 1 then shQ all (l.getD k Ou.z).w else (dws C all l k).2))
theorem dws_ws {C : Cs} {all : Nat → Int} {l : List Ou} : ∀ k, k ≤ l.length - 1 → dws C all l k = ws C all l k
  | 0, _ => rfl
  | k + 1, hk => by
    unfold dws ws
    rw [dws_ws k (by omega), if_pos (by omega)]
theorem dws_wk {C : Cs} {i : Nat} {l : List Ou} (h : 1 ≤ l.length) : (dws C (C (16 + i)) l l.length).1 = wk C i l := by
  obtain ⟨m, hm⟩ : ∃ m, l.length = m + 1 := ⟨l.length - 1, by omega⟩
  have e : (dws C (C (16 + i)) l (m + 1)).1 = snd (dws C (C (16 + i)) l m).1 (l.getD m Ou.z).to (if m < l.length - 1 then shQ (C (16 + i)) (l.getD m Ou.z).w else (dws C (C (16 + i)) l m).2) := rfl
  rw [hm, e, if_neg (by omega), dws_ws m (by omega)]
  unfold wk
  rw [show l.length - 1 = m by omega]
/-- what is given at the k-th outlet -/
def prt (C : Cs) (i : Nat) (l : List Ou) (k : Nat) (y : Ou) : Nat → Int := if k < l.length - 1 then shQ (C (16 + i)) y.w else (dws C (C (16 + i)) l k).2
theorem dws_succ {C : Cs} {i : Nat} {l : List Ou} {k : Nat} {y : Ou} (h : l[k]? = some y) : dws C (C (16 + i)) l (k + 1) = (snd (dws C (C (16 + i)) l k).1 y.to (prt C i l k y), subQ (dws C (C (16 + i)) l k).2 (prt C i l k y)) := by
  have e : l.getD k Ou.z = y := by rw [List.getD_eq_getElem?_getD, h]; rfl
  show (snd _ (l.getD k Ou.z).to _, subQ _ _) = _
  rw [e]; rfl
theorem snd_ne {C : Cs} {to : Int} {p : Nat → Int} {r : Nat} (h : r ≠ ix to) : snd C to p r = C r := by unfold snd; rw [if_neg h]
theorem ws_row {C : Cs} {i n : Nat} {l : List Ou} {all : Nat → Int} (h : MOk l i n) (hn : n ≤ 12) : ∀ k, k ≤ l.length - 1 → (ws C all l k).1 (16 + i) = C (16 + i)
  | 0, _ => rfl
  | k + 1, hk => by
    have := ix_ok (h.o k (by omega)).1 hn
    show snd (ws C all l k).1 (l.getD k Ou.z).to _ (16 + i) = _
    rw [snd_ne (by omega)]; exact ws_row h hn k (by omega)
theorem dws_row {C : Cs} {i n : Nat} {l : List Ou} {all : Nat → Int} (h : MOk l i n) (hn : n ≤ 12) {k : Nat} (hk : k ≤ l.length - 1) : (dws C all l k).1 (16 + i) = C (16 + i) := by
  rw [dws_ws k hk]; exact ws_row h hn k hk
/-- a step: what is needed that no number is too large -/
theorem dws_safe {C : Cs} {i n : Nat} {l : List Ou} {s : Nat → Int} {k : Nat} {y : Ou} (h : MOk l i n) (hn : n ≤ 12) (hI : Pv i C (fun _ => 0) s) (hi : i < 12) (hS : ∀ j, j < 4 → s j ≤ 1099511627776) (hy : l[k]? = some y) :
    (k < l.length - 1 → (∀ j, j < 4 → InR (C (16 + i) j * y.w j)) ∧ (∀ j, j < 4 → 0 ≤ C (16 + i) j * y.w j)) ∧ (∀ j, j < 4 → InR ((dws C (C (16 + i)) l k).1 (ix y.to) j + prt C i l k y j)) ∧ (∀ j, j < 4 → InR ((dws C (C (16 + i)) l k).2 j - prt C i l k y j)) := by
  have hk := get_lt hy
  by_cases e : k < l.length - 1
  · obtain ⟨a, b, c, d⟩ := ws_safe h hn hI hi hS hy e
    have ep : prt C i l k y = shQ (C (16 + i)) y.w := by unfold prt; rw [if_pos e]
    rw [dws_ws k (by omega), ep]
    exact ⟨fun _ => ⟨a, b⟩, c, d⟩
  · have e2 : k = l.length - 1 := by omega
    subst e2
    have ep : prt C i l (l.length - 1) y = (dws C (C (16 + i)) l (l.length - 1)).2 := by unfold prt; rw [if_neg e]
    rw [ep, dws_ws _ (Nat.le_refl _)]
    refine ⟨fun q => absurd q e, wk_safe h hn hI hi hS hy, fun j _ => ?_⟩
    rw [Int.sub_self]; exact ⟨by omega, by omega⟩
theorem setC_cz (s : Nat → Int) : setC cz 0 s = snd cz (-1) s := by
  funext r
  unfold setC snd
  rw [show ix (-1) = 0 from rfl]
  split
  · funext j; show s j = 0 + s j; omega
  · rfl
theorem setC_cz16 (s : Nat → Int) : setC cz 0 s = fun r => snd cz 0 s (16 + r) := by
  funext r
  unfold setC snd
  rw [show ix 0 = 16 from rfl]
  by_cases e : r = 0
  · rw [if_pos e, if_pos (by omega)]; funext j; show s j = 0 + s j; omega
  · rw [if_neg e, if_neg (by omega)]; rfl
end Go.Ax

/-
  Plant: Run (both), Same, great, and the law PlantRuns (written by program).
-/
namespace Go.Ax
open Go Go.RowKit Go.Proofs

theorem prun_bind {P : Program} {α β : Type} (f : α → Sem β) : ∀ (x : Sem α), prun P (x >>= f) = (prun P x).bind fun a => prun P (f a) := by
  intro x
  induction x with
  | pure a => rfl
  | program k ih => exact ih P
  | _ => rfl
theorem prun_pure {α : Type} {P : Program} (a : α) : prun P (pure a : Sem α) = some a := rfl
theorem prun_ite {α : Type} {P : Program} {c : Prop} [Decidable c] (a b : Sem α) : prun P (if c then a else b) = if c then prun P a else prun P b := by split <;> rfl
theorem same_struct {P : Program} {d : Nat} {t : TypeId} {xs : Array Value} {fs : Array Field} (hu : prun P (underlying t) = some (.struct fs)) (hp : P.stoodInHeld t = false)
    (hf : ∀ f ∈ fs.toList, ∃ v, prun P (part f.type xs f.offset) = some v ∧ prun P (Op.equalIn d f.type v v) = some true) :
    prun P (Op.equalIn (d + 1) t (.agg xs) (.agg xs)) = some true := by
  simp only [Op.equalIn, prun_bind, hu, Option.bind_some, show prun P program = some P from rfl, hp, Bool.false_eq_true, if_false]
  rw [← Array.forIn_toList]
  generalize fs.toList = l at hf
  induction l with
  | nil => rfl
  | cons f l ih =>
    obtain ⟨v, h1, h2⟩ := hf f (by simp)
    have ih := ih (fun g hg => hf g (by simp [hg]))
    simp only [List.forIn_cons, prun_bind, prun_ite]
    split
    · simp only [h1, h2, Option.bind_some, Bool.not_true, Bool.false_eq_true, if_false, prun_pure]
      exact ih
    · simp only [prun_pure, Option.bind_some]
      exact ih
theorem same_int {d : Nat} {x : Int} : prun Try.prog (Op.equalIn (d + 1) 3 (iv x) (iv x)) = some true := by
  have h : prun Try.prog (Op.equalIn (d + 1) 3 (iv x) (iv x)) = some (x == x) := by kernel_rfl
  rw [h]; simp
def fldsIn (P : Program) (t : TypeId) : Array Field :=
  match P.underlying t with
  | some (.struct fs) => fs
  | _ => #[]
theorem un24 : prun Try.prog (underlying 24) = some (.struct (fldsIn Try.prog 24)) := by kernel_rfl
theorem fs24 : (fldsIn Try.prog 24).toList.map (fun f => (f.type, f.offset)) = [(3, 0), (3, 1), (3, 2), (3, 3)] := by kernel_rfl
theorem st24 : Program.stoodInHeld Try.prog 24 = false := by kernel_rfl
theorem same24 {d : Nat} {x0 x1 x2 x3 : Int} : prun Try.prog (Op.equalIn (d + 2) 24 (.agg #[iv x0, iv x1, iv x2, iv x3]) (.agg #[iv x0, iv x1, iv x2, iv x3])) = some true := by
  refine same_struct (xs := #[iv x0, iv x1, iv x2, iv x3]) un24 st24 ?_
  intro f hf
  have h : (f.type, f.offset) ∈ [(3, 0), (3, 1), (3, 2), (3, 3)] := by rw [← fs24]; exact List.mem_map.mpr ⟨f, hf, rfl⟩
  simp only [List.mem_cons, List.not_mem_nil, or_false, Prod.mk.injEq] at h
  rcases h with ⟨h1, h2⟩ | ⟨h1, h2⟩ | ⟨h1, h2⟩ | ⟨h1, h2⟩ <;> rw [h1, h2]
  · exact ⟨iv x0, by kernel_rfl, same_int⟩
  · exact ⟨iv x1, by kernel_rfl, same_int⟩
  · exact ⟨iv x2, by kernel_rfl, same_int⟩
  · exact ⟨iv x3, by kernel_rfl, same_int⟩
theorem neq24 {n : Nat} {S : Rg} {d : Option Tmp} {x y : Operand} {p : String} {ty : TypeId} {x0 x1 x2 x3 : Int} (hx : evS S x = some (.agg #[iv x0, iv x1, iv x2, iv x3])) (hy : evS S y = some (.agg #[iv x0, iv x1, iv x2, iv x3])) : pureOp Try.prog (frS n S) ⟨d, .binOp .neq 24 x y 24, ty, p, #[], none⟩ = some (.bool false) := by
  have key : prun Try.prog (do eqGuard .neq 24 x y (.agg #[iv x0, iv x1, iv x2, iv x3]) (.agg #[iv x0, iv x1, iv x2, iv x3]); binOp .neq 24 (.agg #[iv x0, iv x1, iv x2, iv x3]) (.agg #[iv x0, iv x1, iv x2, iv x3])) = some (.bool false) := by
    rw [prun_bind, show prun Try.prog (eqGuard .neq 24 x y (.agg #[iv x0, iv x1, iv x2, iv x3]) (.agg #[iv x0, iv x1, iv x2, iv x3])) = some () from by kernel_rfl, Option.bind_some]
    show prun Try.prog (do pure (Value.bool (!(← Op.equalIn (9998 + 2) 24 (.agg #[iv x0, iv x1, iv x2, iv x3]) (.agg #[iv x0, iv x1, iv x2, iv x3]))))) = _
    rw [prun_bind, same24]; rfl
  unfold pureOp
  simp only [ev_frS, hx, hy]
  rw [show (flat (.agg #[iv x0, iv x1, iv x2, iv x3]) && flat (.agg #[iv x0, iv x1, iv x2, iv x3])) = true from rfl, cond_true, key]
  rfl
/-- is it more than a statement looks at? -/
def grtB (rs : List Mc) : Bool := decide (rs.length > 16) || rs.any fun r => decide (r.n > 8)
theorem grtB_f {rs : List Mc} {n : Nat} (hl : rs.length = n) (h : grtB rs = false) : (∀ r ∈ rs, r.n ≤ 1000000) ∧ n ≤ 16 ∧ ∀ r ∈ rs, r.n ≤ 8 := by
  unfold grtB at h
  rw [Bool.or_eq_false_iff, decide_eq_false_iff_not, List.any_eq_false] at h
  have q : ∀ r ∈ rs, r.n ≤ 8 := fun r hr => by have := h.2 r hr; simp at this; omega
  exact ⟨fun r hr => by have := q r hr; omega, by omega, q⟩
theorem any_step {α : Type} {f : α → Bool} {l : List α} {i : Nat} {x : α} (h : l[i]? = some x) : (l.take (i + 1)).any f = ((l.take i).any f || f x) := by
  rw [List.take_add_one, h]; simp
theorem any_hit2 {α : Type} {f : α → Bool} {l : List α} {i : Nat} {x : α} (h : l[i]? = some x) (hx : f x = true) : l.any f = true := List.any_eq_true.2 ⟨x, List.mem_of_getElem? h, hx⟩
/-- does Run answer? -/
def rok (rs : List Mc) (s : Nat → Int) : Bool := pok (mss rs) && wiQ s 1099511627776
theorem rok_t {rs : List Mc} {s : Nat → Int} (h : rok rs s = true) : pok (mss rs) = true ∧ ∀ j, j < 4 → 0 ≤ s j ∧ s j ≤ 1099511627776 := by
  unfold rok at h; rw [Bool.and_eq_true] at h; exact ⟨h.1, wiQ_t h.2⟩
section
variable {kn : FuncId → Option Bool} {lo : Nat} {H : Hp}
/-- great -/
theorem great_ok {sa : Option Addr} {n cap f : Nat} {rs : List Mc} (hr : Mcs H f sa n cap rs) : ∃ H', FnX Try.prog kn lo 15 [.slice sa n cap] H (.bool (grtB rs)) H' ∧ Keep H H' [] := by
  have key := fnX_low (kn := kn) (lo := lo) (H := H) (args := [.slice sa n cap]) (Q := fun w H' => w = .bool (grtB rs) ∧ Keep H H' []) Try.func15 B15 N15 Z15 L15 (by simp) ?_
  · obtain ⟨w, H', h, rfl, q⟩ := key; exact ⟨H', h, q⟩
  have hk := Keep.refl H []
  refine wN_seq ?_
  refine wN_mov (v := .bool false) rfl ?_
  refine wN_end ?_
  refine wN_seq ?_
  refine wN_mov (v := iv 0) rfl ?_
  refine wN_end ?_
  refine loop_low (fn := Try.f15) E15_1 N15 L15x1 (fun i : Nat => [(0, .slice sa n cap), (3, iv (i : Int))])
    (fun k i H' => i + k = n ∧ Keep H H' [] ∧ Mcs H' f sa n cap rs ∧ (i ≤ 17) ∧ (rs.take i).any (fun r => decide (r.n > 8)) = false) n 0 ⟨by omega, hk, hr, by omega, rfl⟩ ⟨rfl, rfl, trivial⟩ ?_
  rintro k i L1 ⟨hik, hk, hr, h17, hall⟩
  refine wN_seq ?_
  refine wN_mov (v := iv (i : Int)) rfl ?_
  refine wN_mov (v := .slice sa n cap) rfl ?_
  refine wN_len (m := n) rfl ?_
  refine wN_b_lss (a := (i : Int)) (b := (n : Int)) rfl rfl ?_
  intro t1 g1; cases t1
  · have g1 : ¬ ((i : Int) < (n : Int)) := of_decide_eq_false g1
    refine wN_mov (v := .bool false) rfl ?_
    refine wN_gs rfl ?_
    refine wN_gs rfl ?_
    refine wN_pur (v := .bool false) rfl rfl ?_
    refine wN_end ?_
    refine condF ?_
    refine wN_seq ?_
    refine wN_mov (v := .slice sa n cap) rfl ?_
    refine wN_len (m := n) rfl ?_
    refine wN_c_gtr (a := (n : Int)) (b := 16) rfl rfl ?_
    refine wN_mov (v := .bool (decide ((n : Int) > 16))) rfl ?_
    refine wN_end ?_
    exact And.intro trivial (Exists.intro _ (And.intro rfl ⟨congrArg Value.bool (show decide ((n : Int) > 16) = grtB rs from (by
      symm; have hrl := hr.rl; unfold grtB; rw [hrl]
      by_cases q : n > 16
      · rw [decide_eq_true q]; exact (decide_eq_true (by omega)).symm
      · rw [List.take_of_length_le (by omega)] at hall; rw [hall, Bool.or_false]; exact decide_eq_decide.2 (by omega))), hk⟩))
  · have g1 : (i : Int) < (n : Int) := of_decide_eq_true g1
    refine wN_mov (v := .bool true) rfl ?_
    refine wN_g rfl (wN_mov (v := iv (i : Int)) rfl ?_)
    refine wN_g rfl (wN_b_lss (a := (i : Int)) (b := 17) rfl rfl ?_)
    intro t2 g2; cases t2
    · have g2 : ¬ ((i : Int) < 17) := of_decide_eq_false g2
      refine wN_pur (v := .bool false) rfl rfl ?_
      refine wN_end ?_
      refine condF ?_
      refine wN_seq ?_
      refine wN_mov (v := .slice sa n cap) rfl ?_
      refine wN_len (m := n) rfl ?_
      refine wN_c_gtr (a := (n : Int)) (b := 16) rfl rfl ?_
      refine wN_mov (v := .bool (decide ((n : Int) > 16))) rfl ?_
      refine wN_end ?_
      exact And.intro trivial (Exists.intro _ (And.intro rfl ⟨congrArg Value.bool (show decide ((n : Int) > 16) = grtB rs from (by
        symm; have hrl := hr.rl; unfold grtB; rw [hrl]
        by_cases q : n > 16
        · rw [decide_eq_true q]; exact (decide_eq_true (by omega)).symm
        · rw [List.take_of_length_le (by omega)] at hall; rw [hall, Bool.or_false]; exact decide_eq_decide.2 (by omega))), hk⟩))
    · have g2 : (i : Int) < 17 := of_decide_eq_true g2
      refine wN_pur (v := .bool true) rfl rfl ?_
      refine wN_end ?_
      refine condT ?_
      have hi : i < n := by omega
      obtain ⟨sb, so, cs, x, hx, esb, rsb, lsf, lcap, hat, hmem⟩ := hr.opn hi
      first | refine wN_skip ?_ | skip
      refine wN_seq ?_
      refine wN_mov (v := .slice sa n cap) rfl ?_
      refine wN_mov (v := iv (i : Int)) rfl ?_
      refine wN_idx (b := sb) (o := so) (k := i) (j := (i : Int)) (by rw [← esb]; rfl) rfl rfl hi ?_
      refine wN_addo (b := sb) (o := so + i * 1) rfl ?_
      refine wN_ld (b := sb) (o := so + i * 1) (v := .slice x.ra x.n x.cap) rfl rsb hat ?_
      refine wN_len (m := x.n) rfl ?_
      refine wN_c_gtr (a := (x.n : Int)) (b := 8) rfl rfl ?_
      refine wN_end ?_
      refine And.intro (fun q3 => ?_) (fun q3 => ?_)
      · have q3 : (x.n : Int) > 8 := of_decide_eq_true q3
        have hok : (fun r : Mc => decide (r.n > 8)) x = true := decide_eq_true (by omega)
        refine wN_seq ?_
        refine wN_mov (v := .bool true) rfl ?_
        refine wN_end ?_
        exact And.intro trivial (Exists.intro _ (And.intro rfl ⟨congrArg Value.bool (show true = grtB rs from (by symm; unfold grtB; rw [Bool.or_eq_true]; right; exact any_hit2 hx hok)), hk⟩))
      · have q3 : ¬ ((x.n : Int) > 8) := of_decide_eq_false q3
        have hok : (fun r : Mc => decide (r.n > 8)) x = false := decide_eq_false (by omega)
        first | refine wN_skip ?_ | skip
        first | refine wN_reg ?_ | refine wN_blk ?_ | refine wN_bseq ?_ | (refine wOps_nil ?_; refine wN_reg ?_)
        refine wN_mov (v := iv (i : Int)) rfl ?_
        refine wN_add (a := (i : Int)) (b := 1) rfl rfl ⟨by omega, by omega⟩ ?_
        refine wN_mov (v := iv ((i : Int) + 1)) rfl ?_
        refine wN_end ?_
        exact ⟨k - 1, i + 1, by omega, ⟨by omega, hk, hr, by omega, by rw [any_step hx, hall]; exact hok⟩, rfl, rfl, trivial⟩
set_option maxRecDepth 100000 in
set_option maxHeartbeats 1000000 in
/-- Run, where it answers -/
theorem run17_ok {s : Nat → Int} {sa : Option Addr} {n cap f : Nat} {rs : List Mc} (hr : Mcs H f sa n cap rs) (hm : ∀ r ∈ rs, r.n ≤ 1000000) (hn2 : n ≤ 1000000) (hf : f ≤ H.next) (hlo : lo ≤ H.next) (hok : rok rs s = true) : ∃ a H', FnX Try.prog kn lo 17 [.slice sa n cap, .agg (qc s).toArray] H (.tuple #[slv a 16 16, iv 0]) H' ∧ Keep H H' [] ∧ H.next ≤ a ∧ Sc H' a (cc (rnA (mss rs) s) 16) := by
  have key := fnX_low (kn := kn) (lo := lo) (H := H) (args := [.slice sa n cap, .agg (qc s).toArray]) (Q := fun w H' => ∃ a, w = .tuple #[slv a 16 16, iv 0] ∧ Keep H H' [] ∧ H.next ≤ a ∧ Sc H' a (cc (rnA (mss rs) s) 16)) Try.func17 B17 N17 Z17 L17 (by simp) ?_
  · obtain ⟨w, H', h, a, rfl, q⟩ := key; exact ⟨a, H', h, q⟩
  have hk := Keep.refl H []
  obtain ⟨hp, hS⟩ := rok_t hok
  have hw : wiQ s 1099511627776 = true := wiQ_i hS
  refine wN_seq ?_
  refine wN_box (v := .agg (qc s).toArray) rfl ?_
  intro H1 kH1 nH1 c1
  have c1 : Cl H1 H.next [iv (s 0), iv (s 1), iv (s 2), iv (s 3)] := c1
  have mH1 := kH1.1
  have hk := hk.trans kH1
  have hr := hr.keep kH1 (by simp)
  refine wN_mov (v := .slice none 0 0) rfl ?_
  refine wN_mov (v := iv 0) rfl ?_
  refine wN_end ?_
  refine wN_seq ?_
  refine wN_mov (v := .slice sa n cap) rfl ?_
  obtain ⟨H2, fH2, kH2⟩ := vplant_ok (kn := kn) (lo := lo) (H := H1) hr hm hn2 (by omega) (by omega)
  have mH2 := kH2.1
  have hk := hk.trans kH2
  have hr := hr.keep kH2 (by simp)
  have c1 := kH2.cl c1 (by simp)
  rw [hp] at fH2
  refine wN_callf (vs := [.slice sa n cap]) rfl (callX_args fH2) ?_
  refine wN_pur (v := .bool false) rfl rfl ?_
  refine wN_mov (v := .bool false) rfl ?_
  refine wN_g rfl (wN_lda (b := H.next) (o := 0) rfl c1.rd (show row 4 _ _ = some [iv (s 0), iv (s 1), iv (s 2), iv (s 3)] from rfl) ?_)
  obtain ⟨H3, fH3, kH3⟩ := vstream_ok (kn := kn) (lo := lo) (H := H2) (s := s) (by omega)
  have mH3 := kH3.1
  have hk := hk.trans kH3
  have hr := hr.keep kH3 (by simp)
  have c1 := kH3.cl c1 (by simp)
  rw [show wiQ s 1099511627776 = true from hw] at fH3
  refine wN_g rfl (wN_callf (vs := [.agg (qc s).toArray]) rfl (callX_args fH3) ?_)
  refine wN_g rfl (wN_pur (v := .bool false) rfl rfl ?_)
  refine wN_pur (v := .bool false) rfl rfl ?_
  refine wN_end ?_
  refine condF ?_
  first | refine wN_skip ?_ | skip
  refine wN_seq ?_
  refine wN_mov (v := .slice sa n cap) rfl ?_
  refine wN_lda (b := H.next) (o := 0) rfl c1.rd (show row 4 _ _ = some [iv (s 0), iv (s 1), iv (s 2), iv (s 3)] from rfl) ?_
  obtain ⟨a, H4, fH4, kH4, ha, hal⟩ := run44_ok (kn := kn) (lo := lo) (H := H3) (s := s) hr (by omega) (by omega) hp hS
  refine wN_callf (vs := [.slice sa n cap, .agg (qc s).toArray]) rfl (callX_args fH4) ?_
  have mH4 := kH4.1
  have hk := hk.trans kH4
  have hr := hr.keep kH4 (by simp)
  have c1 := kH4.cl c1 (by simp)
  refine wN_mov (v := .slice (some ⟨a, 0, none⟩) 16 16) rfl ?_
  refine wN_mov (v := iv 0) rfl ?_
  refine wN_end ?_
  exact And.intro trivial (Exists.intro _ (And.intro rfl ⟨_, rfl, hk, by omega, hal⟩))
/-- Run, where it does not -/
theorem run17_no {s : Nat → Int} {sa : Option Addr} {n cap f : Nat} {rs : List Mc} (hr : Mcs H f sa n cap rs) (hm : ∀ r ∈ rs, r.n ≤ 1000000) (hn2 : n ≤ 1000000) (hf : f ≤ H.next) (hlo : lo ≤ H.next) (hno : rok rs s = false) : ∃ H', FnX Try.prog kn lo 17 [.slice sa n cap, .agg (qc s).toArray] H (.tuple #[.slice none 0 0, iv 1]) H' ∧ Keep H H' [] := by
  have key := fnX_low (kn := kn) (lo := lo) (H := H) (args := [.slice sa n cap, .agg (qc s).toArray]) (Q := fun w H' => w = .tuple #[.slice none 0 0, iv 1] ∧ Keep H H' []) Try.func17 B17 N17 Z17 L17 (by simp) ?_
  · obtain ⟨w, H', h, rfl, q⟩ := key; exact ⟨H', h, q⟩
  have hk := Keep.refl H []
  refine wN_seq ?_
  refine wN_box (v := .agg (qc s).toArray) rfl ?_
  intro H1 kH1 nH1 c1
  have c1 : Cl H1 H.next [iv (s 0), iv (s 1), iv (s 2), iv (s 3)] := c1
  have mH1 := kH1.1
  have hk := hk.trans kH1
  have hr := hr.keep kH1 (by simp)
  refine wN_mov (v := .slice none 0 0) rfl ?_
  refine wN_mov (v := iv 0) rfl ?_
  refine wN_end ?_
  refine wN_seq ?_
  refine wN_mov (v := .slice sa n cap) rfl ?_
  obtain ⟨H2, fH2, kH2⟩ := vplant_ok (kn := kn) (lo := lo) (H := H1) hr hm hn2 (by omega) (by omega)
  have mH2 := kH2.1
  have hk := hk.trans kH2
  have hr := hr.keep kH2 (by simp)
  have c1 := kH2.cl c1 (by simp)
  cases hp : pok (mss rs)
  · rw [hp] at fH2
    refine wN_callf (vs := [.slice sa n cap]) rfl (callX_args fH2) ?_
    refine wN_pur (v := .bool true) rfl rfl ?_
    refine wN_mov (v := .bool true) rfl ?_
    refine wN_gs rfl ?_
    refine wN_gs rfl ?_
    refine wN_gs rfl ?_
    refine wN_pur (v := .bool true) rfl rfl ?_
    refine wN_end ?_
    refine condT ?_
    refine wN_seq ?_
    refine wN_mov (v := .slice none 0 0) rfl ?_
    refine wN_mov (v := iv 1) rfl ?_
    refine wN_end ?_
    exact And.intro trivial (Exists.intro _ (And.intro rfl ⟨rfl, hk⟩))
  · rw [hp] at fH2
    refine wN_callf (vs := [.slice sa n cap]) rfl (callX_args fH2) ?_
    refine wN_pur (v := .bool false) rfl rfl ?_
    refine wN_mov (v := .bool false) rfl ?_
    refine wN_g rfl (wN_lda (b := H.next) (o := 0) rfl c1.rd (show row 4 _ _ = some [iv (s 0), iv (s 1), iv (s 2), iv (s 3)] from rfl) ?_)
    obtain ⟨H3, fH3, kH3⟩ := vstream_ok (kn := kn) (lo := lo) (H := H2) (s := s) (by omega)
    have mH3 := kH3.1
    have hk := hk.trans kH3
    have hr := hr.keep kH3 (by simp)
    have c1 := kH3.cl c1 (by simp)
    rw [show wiQ s 1099511627776 = false from (by unfold rok at hno; rw [hp, Bool.true_and] at hno; exact hno)] at fH3
    refine wN_g rfl (wN_callf (vs := [.agg (qc s).toArray]) rfl (callX_args fH3) ?_)
    refine wN_g rfl (wN_pur (v := .bool true) rfl rfl ?_)
    refine wN_pur (v := .bool true) rfl rfl ?_
    refine wN_end ?_
    refine condT ?_
    refine wN_seq ?_
    refine wN_mov (v := .slice none 0 0) rfl ?_
    refine wN_mov (v := iv 1) rfl ?_
    refine wN_end ?_
    exact And.intro trivial (Exists.intro _ (And.intro rfl ⟨rfl, hk⟩))
/-- Run, where it does not -/
theorem run18_no {s : Nat → Int} {sa : Option Addr} {n cap f : Nat} {rs : List Mc} (hr : Mcs H f sa n cap rs) (hm : ∀ r ∈ rs, r.n ≤ 1000000) (hn2 : n ≤ 1000000) (hf : f ≤ H.next) (hlo : lo ≤ H.next) (hno : rok rs s = false) : ∃ H', FnX Try.prog kn lo 18 [.slice sa n cap, .agg (qc s).toArray] H (.tuple #[.slice none 0 0, iv 1]) H' ∧ Keep H H' [] := by
  have key := fnX_low (kn := kn) (lo := lo) (H := H) (args := [.slice sa n cap, .agg (qc s).toArray]) (Q := fun w H' => w = .tuple #[.slice none 0 0, iv 1] ∧ Keep H H' []) Try.func18 B18 N18 Z18 L18 (by simp) ?_
  · obtain ⟨w, H', h, rfl, q⟩ := key; exact ⟨H', h, q⟩
  have hk := Keep.refl H []
  refine wN_seq ?_
  refine wN_box (v := .agg (qc s).toArray) rfl ?_
  intro H1 kH1 nH1 c1
  have c1 : Cl H1 H.next [iv (s 0), iv (s 1), iv (s 2), iv (s 3)] := c1
  have mH1 := kH1.1
  have hk := hk.trans kH1
  have hr := hr.keep kH1 (by simp)
  refine wN_mov (v := .slice none 0 0) rfl ?_
  refine wN_mov (v := iv 0) rfl ?_
  refine wN_end ?_
  refine wN_seq ?_
  refine wN_mov (v := .slice sa n cap) rfl ?_
  obtain ⟨H2, fH2, kH2⟩ := refplant_ok (kn := kn) (lo := lo) (H := H1) hr hm hn2 (by omega) (by omega)
  have mH2 := kH2.1
  have hk := hk.trans kH2
  have hr := hr.keep kH2 (by simp)
  have c1 := kH2.cl c1 (by simp)
  cases hp : pok (mss rs)
  · rw [hp] at fH2
    refine wN_callf (vs := [.slice sa n cap]) rfl (callX_args fH2) ?_
    refine wN_pur (v := .bool true) rfl rfl ?_
    refine wN_mov (v := .bool true) rfl ?_
    refine wN_gs rfl ?_
    refine wN_gs rfl ?_
    refine wN_gs rfl ?_
    refine wN_pur (v := .bool true) rfl rfl ?_
    refine wN_end ?_
    refine condT ?_
    refine wN_seq ?_
    refine wN_mov (v := .slice none 0 0) rfl ?_
    refine wN_mov (v := iv 1) rfl ?_
    refine wN_end ?_
    exact And.intro trivial (Exists.intro _ (And.intro rfl ⟨rfl, hk⟩))
  · rw [hp] at fH2
    refine wN_callf (vs := [.slice sa n cap]) rfl (callX_args fH2) ?_
    refine wN_pur (v := .bool false) rfl rfl ?_
    refine wN_mov (v := .bool false) rfl ?_
    refine wN_g rfl (wN_lda (b := H.next) (o := 0) rfl c1.rd (show row 4 _ _ = some [iv (s 0), iv (s 1), iv (s 2), iv (s 3)] from rfl) ?_)
    obtain ⟨H3, fH3, kH3⟩ := refstream_ok (kn := kn) (lo := lo) (H := H2) (s := s) (by omega)
    have mH3 := kH3.1
    have hk := hk.trans kH3
    have hr := hr.keep kH3 (by simp)
    have c1 := kH3.cl c1 (by simp)
    rw [show wiQ s 1099511627776 = false from (by unfold rok at hno; rw [hp, Bool.true_and] at hno; exact hno)] at fH3
    refine wN_g rfl (wN_callf (vs := [.agg (qc s).toArray]) rfl (callX_args fH3) ?_)
    refine wN_g rfl (wN_pur (v := .bool true) rfl rfl ?_)
    refine wN_pur (v := .bool true) rfl rfl ?_
    refine wN_end ?_
    refine condT ?_
    refine wN_seq ?_
    refine wN_mov (v := .slice none 0 0) rfl ?_
    refine wN_mov (v := iv 1) rfl ?_
    refine wN_end ?_
    exact And.intro trivial (Exists.intro _ (And.intro rfl ⟨rfl, hk⟩))
set_option maxRecDepth 100000 in
set_option maxHeartbeats 1000000 in
/-- Run, where it answers -/
theorem run18_ok {s : Nat → Int} {sa : Option Addr} {n cap f : Nat} {rs : List Mc} (hr : Mcs H f sa n cap rs) (hm : ∀ r ∈ rs, r.n ≤ 1000000) (hn2 : n ≤ 1000000) (hf : f ≤ H.next) (hlo : lo ≤ H.next) (hok : rok rs s = true) : ∃ a H', FnX Try.prog kn lo 18 [.slice sa n cap, .agg (qc s).toArray] H (.tuple #[slv a 16 16, iv 0]) H' ∧ Keep H H' [] ∧ H.next ≤ a ∧ Cl H' a (cc (rnA (mss rs) s) 16) := by
  have key := fnX_low (kn := kn) (lo := lo) (H := H) (args := [.slice sa n cap, .agg (qc s).toArray]) (Q := fun w H' => ∃ a, w = .tuple #[slv a 16 16, iv 0] ∧ Keep H H' [] ∧ H.next ≤ a ∧ Cl H' a (cc (rnA (mss rs) s) 16)) Try.func18 B18 N18 Z18 L18 (by simp) ?_
  · obtain ⟨w, H', h, a, rfl, q⟩ := key; exact ⟨a, H', h, q⟩
  have hk := Keep.refl H []
  obtain ⟨hp, hS⟩ := rok_t hok
  have hw : wiQ s 1099511627776 = true := wiQ_i hS
  refine wN_seq ?_
  refine wN_box (v := .agg (qc s).toArray) rfl ?_
  intro H1 kH1 nH1 c1
  have c1 : Cl H1 H.next [iv (s 0), iv (s 1), iv (s 2), iv (s 3)] := c1
  have mH1 := kH1.1
  have hk := hk.trans kH1
  have hr := hr.keep kH1 (by simp)
  refine wN_mov (v := .slice none 0 0) rfl ?_
  refine wN_mov (v := iv 0) rfl ?_
  refine wN_end ?_
  refine wN_seq ?_
  refine wN_mov (v := .slice sa n cap) rfl ?_
  obtain ⟨H2, fH2, kH2⟩ := refplant_ok (kn := kn) (lo := lo) (H := H1) hr hm hn2 (by omega) (by omega)
  have mH2 := kH2.1
  have hk := hk.trans kH2
  have hr := hr.keep kH2 (by simp)
  have c1 := kH2.cl c1 (by simp)
  rw [hp] at fH2
  refine wN_callf (vs := [.slice sa n cap]) rfl (callX_args fH2) ?_
  refine wN_pur (v := .bool false) rfl rfl ?_
  refine wN_mov (v := .bool false) rfl ?_
  refine wN_g rfl (wN_lda (b := H.next) (o := 0) rfl c1.rd (show row 4 _ _ = some [iv (s 0), iv (s 1), iv (s 2), iv (s 3)] from rfl) ?_)
  obtain ⟨H3, fH3, kH3⟩ := refstream_ok (kn := kn) (lo := lo) (H := H2) (s := s) (by omega)
  have mH3 := kH3.1
  have hk := hk.trans kH3
  have hr := hr.keep kH3 (by simp)
  have c1 := kH3.cl c1 (by simp)
  rw [show wiQ s 1099511627776 = true from hw] at fH3
  refine wN_g rfl (wN_callf (vs := [.agg (qc s).toArray]) rfl (callX_args fH3) ?_)
  refine wN_g rfl (wN_pur (v := .bool false) rfl rfl ?_)
  refine wN_pur (v := .bool false) rfl rfl ?_
  refine wN_end ?_
  refine condF ?_
  first | refine wN_skip ?_ | skip
  refine wN_seq ?_
  obtain ⟨ie, hie, hib⟩ := in24b
  obtain ⟨H4, hH4⟩ : ∃ H4, H3.new (.cells (zeros [iv 0, iv 0, iv 0, iv 0] 16) 24 false) = H4 := ⟨_, rfl⟩
  refine wN_memh (v := .slice (some ⟨H3.next, 0, none⟩) 16 16) (H' := H4) (k := .heavy) rfl (by kernel_rfl) ((heap_makeR (a := 16) (m := 16) se27 z24 hie hib rfl rfl (by omega) (by omega)).trans (by rw [← hH4]; rfl)) (fun b e => by cases e) ?_
  obtain ⟨kH4, nH4, _⟩ := new_facts hH4
  have ho0 := Sc.cl (new_sc hH4)
  rw [zeros_cc] at ho0
  have mH4 := kH4.1
  have hk := hk.trans kH4
  have hr := hr.keep kH4 (by simp)
  have c1 := kH4.cl c1 (by simp)
  obtain ⟨bho, ebho⟩ : ∃ b, b = H3.next := ⟨_, rfl⟩
  have ho : Cl H4 bho (cc cz 16) := by rw [ebho]; exact ho0
  rw [← ebho]
  refine wN_mov (v := .slice (some ⟨bho, 0, none⟩) 16 16) rfl ?_
  refine wN_end ?_
  refine wN_seq ?_
  refine wN_mov (v := .slice sa n cap) rfl ?_
  refine wN_len (m := n) rfl ?_
  refine wN_c_eql (a := (n : Int)) (b := 0) rfl rfl ?_
  refine wN_end ?_
  refine And.intro (fun q1 => ?_) (fun q1 => ?_)
  · have q1 : (n : Int) = 0 := by simpa using q1
    refine wN_seq ?_
    refine wN_mov (v := .slice (some ⟨bho, 0, none⟩) 16 16) rfl ?_
    refine wN_lda (b := H.next) (o := 0) rfl c1.rd (show row 4 _ _ = some [iv (s 0), iv (s 1), iv (s 2), iv (s 3)] from rfl) ?_
    refine wN_idx (b := bho) (o := 0) (k := 0) (j := 0) rfl rfl rfl (by decide) ?_
    refine wN_sta (b := bho) (o := 0 + 0 * 4) (v := .agg (qc s).toArray) rfl rfl ho (by omega) rfl rfl (by rw [cc_len]; show 0 + 0 * 4 + 4 ≤ _; omega) ?_
    intro H5 kH5 nH5 sH5
    have mH5 := kH5.1
    have hk := hk.new kH5 (fun b hb => by simp at hb ⊢; omega)
    have hr := hr.keep kH5 (fun x hx => by simp at hx; omega)
    have c1 := kH5.cl c1 (by first | (simp; done) | (simp; omega))
    have ho : Cl H5 bho (putRow (cc cz 16) (0 + 0 * 4) (qc s)) := sH5
    rw [cc_put (by omega)] at ho
    have ho : Cl H5 bho (cc (rnA (mss rs) s) 16) := by
      have hlen : (mss rs).length = 0 := by simp only [mss, List.length_map]; have := hr.rl; omega
      have er : rnA (mss rs) s = Go.Ax.snd cz (-1) s := by
        unfold rnA; rw [hlen]; show c0 (mss rs) s = _; unfold c0; rw [if_pos hlen]
      rw [er, ← setC_cz]; exact ho
    refine wN_end ?_
    refine wN_seq ?_
    refine wN_mov (v := .slice (some ⟨bho, 0, none⟩) 16 16) rfl ?_
    refine wN_mov (v := .slice (some ⟨bho, 0, none⟩) 16 16) rfl ?_
    refine wN_mov (v := iv 0) rfl ?_
    refine wN_end ?_
    exact And.intro trivial (Exists.intro _ (And.intro rfl ⟨_, rfl, hk, by omega, ho⟩))
  · have q1 : ¬ ((n : Int) = 0) := by simpa using q1
    have hn0 : n ≠ 0 := by omega
    have hlen : (mss rs).length = n := by simp only [mss, List.length_map]; exact hr.rl
    have hn12 : n ≤ 12 := by have := (pok_t hp).1; omega
    first | refine wN_skip ?_ | skip
    refine wN_seq ?_
    refine wN_mov (v := .slice sa n cap) rfl ?_
    refine wN_len (m := n) rfl ?_
    obtain ⟨ie, hie, hib⟩ := in24b
    obtain ⟨H6, hH6⟩ : ∃ H6, H4.new (.cells (zeros [iv 0, iv 0, iv 0, iv 0] n) 24 false) = H6 := ⟨_, rfl⟩
    refine wN_memh (v := .slice (some ⟨H4.next, 0, none⟩) n n) (H' := H6) (k := .heavy) rfl (by kernel_rfl) ((heap_makeR (a := n) (m := n) se27 z24 hie hib rfl rfl (by omega) (by omega)).trans (by rw [← hH6]; rfl)) (fun b e => by cases e) ?_
    obtain ⟨kH6, nH6, _⟩ := new_facts hH6
    have hc0 := Sc.cl (new_sc hH6)
    rw [zeros_cc] at hc0
    have mH6 := kH6.1
    have hk := hk.trans kH6
    have hr := hr.keep kH6 (by simp)
    have c1 := kH6.cl c1 (by simp)
    have ho := kH6.cl ho (by simp)
    obtain ⟨bhc, ebhc⟩ : ∃ b, b = H4.next := ⟨_, rfl⟩
    have hc : Cl H6 bhc (cc cz n) := by rw [ebhc]; exact hc0
    rw [← ebhc]
    refine wN_mov (v := .slice (some ⟨bhc, 0, none⟩) n n) rfl ?_
    refine wN_end ?_
    refine wN_seq ?_
    refine wN_mov (v := .slice (some ⟨bhc, 0, none⟩) n n) rfl ?_
    refine wN_lda (b := H.next) (o := 0) rfl c1.rd (show row 4 _ _ = some [iv (s 0), iv (s 1), iv (s 2), iv (s 3)] from rfl) ?_
    refine wN_idx (b := bhc) (o := 0) (k := 0) (j := 0) rfl rfl rfl (by omega) ?_
    refine wN_sta (b := bhc) (o := 0 + 0 * 4) (v := .agg (qc s).toArray) rfl rfl hc (by omega) rfl rfl (by rw [cc_len]; show 0 + 0 * 4 + 4 ≤ _; omega) ?_
    intro H7 kH7 nH7 sH7
    have mH7 := kH7.1
    have hk := hk.new kH7 (fun b hb => by simp at hb ⊢; omega)
    have hr := hr.keep kH7 (fun x hx => by simp at hx; omega)
    have c1 := kH7.cl c1 (by first | (simp; done) | (simp; omega))
    have ho := kH7.cl ho (by first | (simp; done) | (simp; omega))
    have hc : Cl H7 bhc (putRow (cc cz n) (0 + 0 * 4) (qc s)) := sH7
    rw [cc_put (by omega)] at hc
    have hc : Cl H7 bhc (cc (fun r => rn (mss rs) s 0 (16 + r)) n) := by
      have hlen : (mss rs).length = n := by simp only [mss, List.length_map]; exact hr.rl
      show Cl _ _ (cc (fun r => c0 (mss rs) s (16 + r)) n); unfold c0; rw [if_neg (by omega), ← setC_cz16]; exact hc
    have ho : Cl H7 bho (cc (rn (mss rs) s 0) 16) := by
      have hlen : (mss rs).length = n := by simp only [mss, List.length_map]; exact hr.rl
      show Cl _ _ (cc (c0 (mss rs) s) 16); unfold c0; rw [if_neg (by omega)]
      rw [cc_congr (D := cz) (fun r hr => snd_ne (by show r ≠ 16; omega))]; exact ho
    refine wN_end ?_
    refine wN_seq ?_
    refine wN_mov (v := iv 0) rfl ?_
    refine wN_end ?_
    refine loop_low (fn := Try.f18) E18_1 N18 L18x1 (fun i : Nat => [(0, .slice sa n cap), (6, .slice (some ⟨bho, 0, none⟩) 16 16), (7, .slice (some ⟨bhc, 0, none⟩) n n), (8, iv (i : Int))])
      (fun d i H' => i + d = n ∧ Keep H H' [] ∧ H7.next ≤ H'.next ∧ Mcs H' f sa n cap rs ∧ Cl H' bho (cc (rn (mss rs) s i) 16) ∧ Cl H' bhc (cc (fun r => (rn (mss rs) s i) (16 + r)) n)) n 0 ⟨by omega, hk, Nat.le_refl _, hr, ho, hc⟩ ⟨rfl, rfl, rfl, rfl, trivial⟩ ?_
    rintro dd i L1 ⟨hid, hk, hnx, hr, ho, hc⟩
    have mki := hk.1
    have lbo := ho.lt
    have lbc := hc.lt
    refine wN_seq ?_
    refine wN_mov (v := iv (i : Int)) rfl ?_
    refine wN_mov (v := .slice sa n cap) rfl ?_
    refine wN_len (m := n) rfl ?_
    refine wN_c_lss (a := (i : Int)) (b := (n : Int)) rfl rfl ?_
    refine wN_end ?_
    refine And.intro (fun q2 => ?_) (fun q2 => ?_)
    · have q2 : (i : Int) < (n : Int) := of_decide_eq_true q2
      have hi : i < n := by omega
      obtain ⟨sb, so, cs, x, hx, esb, rsb, lsf, lcap, hat, hmem⟩ := hr.opn hi
      obtain ⟨hrs, hrl, hrf⟩ := hr.ri x hmem
      have fs : ∀ b, x.ra = some ⟨b, 0, none⟩ → b < f := fun b e => (hrf b e).1
      have hmx := (pok_t hp).2 i (by omega)
      rw [mss_get hx] at hmx
      rw [hlen] at hmx
      have hI := rn_inv hp (fun j hj => (hS j hj).1) i (by omega)
      have hm4 := hmx.h4
      have hm1 := hmx.h1
      first | refine wN_skip ?_ | skip
      refine wN_seq ?_
      refine wN_mov (v := .slice (some ⟨bhc, 0, none⟩) n n) rfl ?_
      refine wN_mov (v := iv (i : Int)) rfl ?_
      refine wN_idx (b := bhc) (o := 0) (k := i) (j := (i : Int)) rfl rfl rfl hi ?_
      refine wN_lda (b := bhc) (o := 0 + i * 4) rfl hc.rd (cc_row (C := fun r => (rn (mss rs) s i) (16 + r)) (n := n) hi) ?_
      refine wN_alc ?_
      intro H8 kH8 nH8 c8
      have c8 : Cl H8 L1.next [iv 0, iv 0, iv 0, iv 0] := c8
      have mH8 := kH8.1
      have hk := hk.trans kH8
      have hr := hr.keep kH8 (by simp)
      have ho := kH8.cl ho (by simp)
      have hc := kH8.cl hc (by simp)
      have rsb := kH8.rd rsb (by simp)
      have hrs := kH8.sl0 hrs
      refine wN_sta (b := L1.next) (o := 0) rfl rfl c8 (by omega) rfl rfl (by simp) ?_
      intro H9 kH9 nH9 sH9
      have mH9 := kH9.1
      have hk := hk.new kH9 (fun b hb => by simp at hb ⊢; omega)
      have hr := hr.keep kH9 (fun x hx => by simp at hx; omega)
      have ho := kH9.cl ho (by first | (simp; done) | (simp; omega))
      have hc := kH9.cl hc (by first | (simp; done) | (simp; omega))
      have rsb := kH9.rd rsb (by first | (simp; done) | (simp; omega))
      have hrs := kH9.sl hrs (fun b e => by have := fs b e; first | (simp; done) | (simp; omega))
      have c8 : Cl H9 L1.next [iv (((rn (mss rs) s i) (16 + i)) 0), iv (((rn (mss rs) s i) (16 + i)) 1), iv (((rn (mss rs) s i) (16 + i)) 2), iv (((rn (mss rs) s i) (16 + i)) 3)] := sH9
      refine wN_end ?_
      refine wN_seq ?_
      refine wN_mov (v := iv 0) rfl ?_
      refine wN_end ?_
      refine loop_low (fn := Try.f18) E18_2 N18 L18x2 (fun k : Nat => [(0, .slice sa n cap), (6, .slice (some ⟨bho, 0, none⟩) 16 16), (7, .slice (some ⟨bhc, 0, none⟩) n n), (8, iv (i : Int)), (9, pt L1.next), (10, iv (k : Int))])
        (fun d k H' => k + d = x.n ∧ Keep H H' [] ∧ H9.next ≤ H'.next ∧ Mcs H' f sa n cap rs ∧ Cl H' bho (cc (dws (rn (mss rs) s i) (rn (mss rs) s i (16 + i)) x.l k).1 16) ∧ Cl H' bhc (cc (fun r => (dws (rn (mss rs) s i) (rn (mss rs) s i (16 + i)) x.l k).1 (16 + r)) n) ∧ Rd H' sb cs ∧ Sl H' x.ra x.n x.cap (ouc x.l) ∧ Cl H' L1.next (qc (dws (rn (mss rs) s i) (rn (mss rs) s i (16 + i)) x.l k).2)) x.n 0 ⟨by omega, hk, Nat.le_refl _, hr, ho, hc, rsb, hrs, c8⟩ ⟨rfl, rfl, rfl, rfl, rfl, rfl, trivial⟩ ?_
      rintro d k L2 ⟨hkd, hk, hnx2, hr, ho, hc, rsb, hrs, c9⟩
      have mkj := hk.1
      have lbo := ho.lt
      have lbc := hc.lt
      refine wN_seq ?_
      refine wN_mov (v := iv (k : Int)) rfl ?_
      refine wN_mov (v := .slice sa n cap) rfl ?_
      refine wN_mov (v := iv (i : Int)) rfl ?_
      refine wN_idx (b := sb) (o := so) (k := i) (j := (i : Int)) (by rw [← esb]; rfl) rfl rfl hi ?_
      refine wN_addo (b := sb) (o := so + i * 1) rfl ?_
      refine wN_ld (b := sb) (o := so + i * 1) (v := .slice x.ra x.n x.cap) rfl rsb hat ?_
      refine wN_len (m := x.n) rfl ?_
      refine wN_c_lss (a := (k : Int)) (b := (x.n : Int)) rfl rfl ?_
      refine wN_end ?_
      refine And.intro (fun q3 => ?_) (fun q3 => ?_)
      · have q3 : (k : Int) < (x.n : Int) := of_decide_eq_true q3
        have hk2 : k < x.n := by omega
        obtain ⟨y, hy⟩ := get_some (l := x.l) (i := k) (by omega)
        rcases id hrs with ⟨_, h0, _⟩ | ⟨ub, eub, hud, _⟩
        · omega
        have lub := fs ub eub
        obtain ⟨s12, s3, s4⟩ := dws_safe hmx (by omega) hI (by omega) (fun j hj => (hS j hj).2) hy
        have hto := (hmx.at hy).1
        first | refine wN_skip ?_ | skip
        refine wN_seq ?_
        refine wN_mov (v := .slice sa n cap) rfl ?_
        refine wN_mov (v := iv (i : Int)) rfl ?_
        refine wN_idx (b := sb) (o := so) (k := i) (j := (i : Int)) (by rw [← esb]; rfl) rfl rfl hi ?_
        refine wN_addo (b := sb) (o := so + i * 1) rfl ?_
        refine wN_ld (b := sb) (o := so + i * 1) (v := .slice x.ra x.n x.cap) rfl rsb hat ?_
        refine wN_mov (v := iv (k : Int)) rfl ?_
        refine wN_idx (b := ub) (o := 0) (k := k) (j := (k : Int)) (by rw [← eub]; rfl) rfl rfl hk2 ?_
        refine wN_lda (b := ub) (o := 0 + k * 5) rfl hud (ouc_row hy) ?_
        refine wN_alc ?_
        intro H10 kH10 nH10 c10
        have c10 : Cl H10 L2.next [iv 0, iv 0, iv 0, iv 0, iv 0] := c10
        have mH10 := kH10.1
        have hk := hk.trans kH10
        have hr := hr.keep kH10 (by simp)
        have ho := kH10.cl ho (by simp)
        have hc := kH10.cl hc (by simp)
        have rsb := kH10.rd rsb (by simp)
        have hrs := kH10.sl0 hrs
        have c9 := kH10.cl c9 (by simp)
        have hud := kH10.rd hud (by simp)
        refine wN_sta (b := L2.next) (o := 0) rfl rfl c10 (by omega) rfl rfl (by simp) ?_
        intro H11 kH11 nH11 sH11
        have mH11 := kH11.1
        have hk := hk.new kH11 (fun b hb => by simp at hb ⊢; omega)
        have hr := hr.keep kH11 (fun x hx => by simp at hx; omega)
        have ho := kH11.cl ho (by first | (simp; done) | (simp; omega))
        have hc := kH11.cl hc (by first | (simp; done) | (simp; omega))
        have rsb := kH11.rd rsb (by first | (simp; done) | (simp; omega))
        have hrs := kH11.sl hrs (fun b e => by have := fs b e; first | (simp; done) | (simp; omega))
        have c9 := kH11.cl c9 (by first | (simp; done) | (simp; omega))
        have hud := kH11.rd hud (by first | (simp; done) | (simp; omega))
        have c10 : Cl H11 L2.next [iv y.to, iv y.m, iv y.s, iv y.a, iv y.c] := sH11
        refine wN_end ?_
        refine wN_seq ?_
        refine wN_lda (b := L1.next) (o := 0) rfl c9.rd (show row 4 (qc (dws (rn (mss rs) s i) (rn (mss rs) s i (16 + i)) x.l k).2) 0 = some (qc (dws (rn (mss rs) s i) (rn (mss rs) s i (16 + i)) x.l k).2) from rfl) ?_
        refine wN_alc ?_
        intro H12 kH12 nH12 c12
        have c12 : Cl H12 H11.next [iv 0, iv 0, iv 0, iv 0] := c12
        have mH12 := kH12.1
        have hk := hk.trans kH12
        have hr := hr.keep kH12 (by simp)
        have ho := kH12.cl ho (by simp)
        have hc := kH12.cl hc (by simp)
        have rsb := kH12.rd rsb (by simp)
        have hrs := kH12.sl0 hrs
        have c9 := kH12.cl c9 (by simp)
        have hud := kH12.rd hud (by simp)
        have c10 := kH12.cl c10 (by simp)
        refine wN_sta (b := H11.next) (o := 0) rfl rfl c12 (by omega) rfl rfl (by simp) ?_
        intro H13 kH13 nH13 sH13
        have mH13 := kH13.1
        have hk := hk.new kH13 (fun b hb => by simp at hb ⊢; omega)
        have hr := hr.keep kH13 (fun x hx => by simp at hx; omega)
        have ho := kH13.cl ho (by first | (simp; done) | (simp; omega))
        have hc := kH13.cl hc (by first | (simp; done) | (simp; omega))
        have rsb := kH13.rd rsb (by first | (simp; done) | (simp; omega))
        have hrs := kH13.sl hrs (fun b e => by have := fs b e; first | (simp; done) | (simp; omega))
        have c9 := kH13.cl c9 (by first | (simp; done) | (simp; omega))
        have hud := kH13.rd hud (by first | (simp; done) | (simp; omega))
        have c10 := kH13.cl c10 (by first | (simp; done) | (simp; omega))
        have c12 : Cl H13 H11.next [iv ((dws (rn (mss rs) s i) (rn (mss rs) s i (16 + i)) x.l k).2 0), iv ((dws (rn (mss rs) s i) (rn (mss rs) s i (16 + i)) x.l k).2 1), iv ((dws (rn (mss rs) s i) (rn (mss rs) s i (16 + i)) x.l k).2 2), iv ((dws (rn (mss rs) s i) (rn (mss rs) s i (16 + i)) x.l k).2 3)] := sH13
        refine wN_end ?_
        refine wN_seq ?_
        refine wN_mov (v := iv (k : Int)) rfl ?_
        refine wN_mov (v := .slice sa n cap) rfl ?_
        refine wN_mov (v := iv (i : Int)) rfl ?_
        refine wN_idx (b := sb) (o := so) (k := i) (j := (i : Int)) (by rw [← esb]; rfl) rfl rfl hi ?_
        refine wN_addo (b := sb) (o := so + i * 1) rfl ?_
        refine wN_ld (b := sb) (o := so + i * 1) (v := .slice x.ra x.n x.cap) rfl rsb hat ?_
        refine wN_len (m := x.n) rfl ?_
        refine wN_sub (a := (x.n : Int)) (b := 1) rfl rfl ⟨by omega, by omega⟩ ?_
        refine wN_c_lss (a := (k : Int)) (b := (x.n : Int) - 1) rfl rfl ?_
        refine wN_end ?_
        refine And.intro (fun q4 => ?_) (fun q4 => ?_)
        · have q4 : (k : Int) < ((x.n : Int) - 1) := of_decide_eq_true q4
          have hk3 : k < x.l.length - 1 := by omega
          obtain ⟨s1, s2⟩ := s12 hk3
          have hpr : prt (rn (mss rs) s i) i x.l k y = shQ ((rn (mss rs) s i) (16 + i)) y.w := by unfold prt; rw [if_pos hk3]
          have hrow : (dws (rn (mss rs) s i) (rn (mss rs) s i (16 + i)) x.l k).1 (16 + i) = (rn (mss rs) s i) (16 + i) := dws_row hmx (by omega) (by omega)
          refine wN_seq ?_
          refine wN_mov (v := .slice (some ⟨bhc, 0, none⟩) n n) rfl ?_
          refine wN_mov (v := iv (i : Int)) rfl ?_
          refine wN_idx (b := bhc) (o := 0) (k := i) (j := (i : Int)) rfl rfl rfl hi ?_
          refine wN_lda (b := bhc) (o := 0 + i * 4) (q := qc ((rn (mss rs) s i) (16 + i))) rfl hc.rd (by rw [cc_row (C := fun r => (dws (rn (mss rs) s i) (rn (mss rs) s i (16 + i)) x.l k).1 (16 + r)) (n := n) hi, hrow]) ?_
          refine wN_alc ?_
          intro H14 kH14 nH14 c14
          have c14 : Cl H14 H13.next [iv 0, iv 0, iv 0, iv 0] := c14
          have mH14 := kH14.1
          have hk := hk.trans kH14
          have hr := hr.keep kH14 (by simp)
          have ho := kH14.cl ho (by simp)
          have hc := kH14.cl hc (by simp)
          have rsb := kH14.rd rsb (by simp)
          have hrs := kH14.sl0 hrs
          have c9 := kH14.cl c9 (by simp)
          have hud := kH14.rd hud (by simp)
          have c10 := kH14.cl c10 (by simp)
          have c12 := kH14.cl c12 (by simp)
          refine wN_sta (b := H13.next) (o := 0) rfl rfl c14 (by omega) rfl rfl (by simp) ?_
          intro H15 kH15 nH15 sH15
          have mH15 := kH15.1
          have hk := hk.new kH15 (fun b hb => by simp at hb ⊢; omega)
          have hr := hr.keep kH15 (fun x hx => by simp at hx; omega)
          have ho := kH15.cl ho (by first | (simp; done) | (simp; omega))
          have hc := kH15.cl hc (by first | (simp; done) | (simp; omega))
          have rsb := kH15.rd rsb (by first | (simp; done) | (simp; omega))
          have hrs := kH15.sl hrs (fun b e => by have := fs b e; first | (simp; done) | (simp; omega))
          have c9 := kH15.cl c9 (by first | (simp; done) | (simp; omega))
          have hud := kH15.rd hud (by first | (simp; done) | (simp; omega))
          have c10 := kH15.cl c10 (by first | (simp; done) | (simp; omega))
          have c12 := kH15.cl c12 (by first | (simp; done) | (simp; omega))
          have c14 : Cl H15 H13.next [iv (((rn (mss rs) s i) (16 + i)) 0), iv (((rn (mss rs) s i) (16 + i)) 1), iv (((rn (mss rs) s i) (16 + i)) 2), iv (((rn (mss rs) s i) (16 + i)) 3)] := sH15
          refine wN_end ?_
          refine wN_seq ?_
          refine wN_addo (b := H13.next) (o := 0) rfl ?_
          refine wN_ld (b := H13.next) (o := 0) (v := iv (((rn (mss rs) s i) (16 + i)) 0)) rfl c14.rd rfl ?_
          refine wN_addo (b := L2.next) (o := 0) rfl ?_
          refine wN_ld (b := L2.next) (o := 1) (v := iv y.m) rfl c10.rd rfl ?_
          refine wN_mul (a := (((rn (mss rs) s i) (16 + i)) 0)) (b := y.m) rfl rfl (s1 0 (by decide)) ?_
          refine wN_quo (a := (((rn (mss rs) s i) (16 + i)) 0) * y.m) (b := 1000) rfl rfl (s2 0 (by decide)) (by decide) (s1 0 (by decide)) ?_
          refine wN_addo (b := H13.next) (o := 0) rfl ?_
          refine wN_ld (b := H13.next) (o := 1) (v := iv (((rn (mss rs) s i) (16 + i)) 1)) rfl c14.rd rfl ?_
          refine wN_addo (b := L2.next) (o := 0) rfl ?_
          refine wN_ld (b := L2.next) (o := 2) (v := iv y.s) rfl c10.rd rfl ?_
          refine wN_mul (a := (((rn (mss rs) s i) (16 + i)) 1)) (b := y.s) rfl rfl (s1 1 (by decide)) ?_
          refine wN_quo (a := (((rn (mss rs) s i) (16 + i)) 1) * y.s) (b := 1000) rfl rfl (s2 1 (by decide)) (by decide) (s1 1 (by decide)) ?_
          refine wN_addo (b := H13.next) (o := 0) rfl ?_
          refine wN_ld (b := H13.next) (o := 2) (v := iv (((rn (mss rs) s i) (16 + i)) 2)) rfl c14.rd rfl ?_
          refine wN_addo (b := L2.next) (o := 0) rfl ?_
          refine wN_ld (b := L2.next) (o := 3) (v := iv y.a) rfl c10.rd rfl ?_
          refine wN_mul (a := (((rn (mss rs) s i) (16 + i)) 2)) (b := y.a) rfl rfl (s1 2 (by decide)) ?_
          refine wN_quo (a := (((rn (mss rs) s i) (16 + i)) 2) * y.a) (b := 1000) rfl rfl (s2 2 (by decide)) (by decide) (s1 2 (by decide)) ?_
          refine wN_addo (b := H13.next) (o := 0) rfl ?_
          refine wN_ld (b := H13.next) (o := 3) (v := iv (((rn (mss rs) s i) (16 + i)) 3)) rfl c14.rd rfl ?_
          refine wN_addo (b := L2.next) (o := 0) rfl ?_
          refine wN_ld (b := L2.next) (o := 4) (v := iv y.c) rfl c10.rd rfl ?_
          refine wN_mul (a := (((rn (mss rs) s i) (16 + i)) 3)) (b := y.c) rfl rfl (s1 3 (by decide)) ?_
          refine wN_quo (a := (((rn (mss rs) s i) (16 + i)) 3) * y.c) (b := 1000) rfl rfl (s2 3 (by decide)) (by decide) (s1 3 (by decide)) ?_
          refine wN_pur (v := .agg #[iv (((((rn (mss rs) s i) (16 + i)) 0) * y.m) / 1000), iv (((((rn (mss rs) s i) (16 + i)) 1) * y.s) / 1000), iv (((((rn (mss rs) s i) (16 + i)) 2) * y.a) / 1000), iv (((((rn (mss rs) s i) (16 + i)) 3) * y.c) / 1000)]) rfl (by kernel_rfl) ?_
          refine wN_sta (b := H11.next) (o := 0) rfl rfl c12 (by omega) rfl rfl (by simp) ?_
          intro H16 kH16 nH16 sH16
          have mH16 := kH16.1
          have hk := hk.new kH16 (fun b hb => by simp at hb ⊢; omega)
          have hr := hr.keep kH16 (fun x hx => by simp at hx; omega)
          have ho := kH16.cl ho (by first | (simp; done) | (simp; omega))
          have hc := kH16.cl hc (by first | (simp; done) | (simp; omega))
          have rsb := kH16.rd rsb (by first | (simp; done) | (simp; omega))
          have hrs := kH16.sl hrs (fun b e => by have := fs b e; first | (simp; done) | (simp; omega))
          have c9 := kH16.cl c9 (by first | (simp; done) | (simp; omega))
          have hud := kH16.rd hud (by first | (simp; done) | (simp; omega))
          have c10 := kH16.cl c10 (by first | (simp; done) | (simp; omega))
          have c14 := kH16.cl c14 (by first | (simp; done) | (simp; omega))
          have c12 : Cl H16 H11.next [iv (((((rn (mss rs) s i) (16 + i)) 0) * y.m) / 1000), iv (((((rn (mss rs) s i) (16 + i)) 1) * y.s) / 1000), iv (((((rn (mss rs) s i) (16 + i)) 2) * y.a) / 1000), iv (((((rn (mss rs) s i) (16 + i)) 3) * y.c) / 1000)] := sH16
          refine wN_end ?_
          refine wN_seq ?_
          refine wN_lda (b := L1.next) (o := 0) rfl c9.rd (show row 4 (qc (dws (rn (mss rs) s i) (rn (mss rs) s i (16 + i)) x.l k).2) 0 = some (qc (dws (rn (mss rs) s i) (rn (mss rs) s i (16 + i)) x.l k).2) from rfl) ?_
          have c12 : Cl H16 H11.next (qc (prt (rn (mss rs) s i) i x.l k y)) := by rw [hpr]; exact c12
          refine wN_lda (b := H11.next) (o := 0) rfl c12.rd (show row 4 (qc (prt (rn (mss rs) s i) i x.l k y)) 0 = some (qc (prt (rn (mss rs) s i) i x.l k y)) from rfl) ?_
          obtain ⟨H17, fH17, kH17⟩ := minus47_ok (kn := kn) (lo := lo) (H := H16) (p := (dws (rn (mss rs) s i) (rn (mss rs) s i (16 + i)) x.l k).2) (q := prt (rn (mss rs) s i) i x.l k y) (by omega) s4
          refine wN_callf (vs := [.agg (qc (dws (rn (mss rs) s i) (rn (mss rs) s i (16 + i)) x.l k).2).toArray, .agg (qc (prt (rn (mss rs) s i) i x.l k y)).toArray]) rfl (callX_args fH17) ?_
          have mH17 := kH17.1
          have hk := hk.trans kH17
          have hr := hr.keep kH17 (by simp)
          have ho := kH17.cl ho (by simp)
          have hc := kH17.cl hc (by simp)
          have rsb := kH17.rd rsb (by simp)
          have hrs := kH17.sl0 hrs
          have c9 := kH17.cl c9 (by simp)
          have hud := kH17.rd hud (by simp)
          have c10 := kH17.cl c10 (by simp)
          have c14 := kH17.cl c14 (by simp)
          have c12 := kH17.cl c12 (by simp)
          refine wN_sta (b := L1.next) (o := 0) (v := .agg (qc (subQ (dws (rn (mss rs) s i) (rn (mss rs) s i (16 + i)) x.l k).2 (prt (rn (mss rs) s i) i x.l k y))).toArray) rfl rfl c9 (by omega) rfl rfl (by simp) ?_
          intro H18 kH18 nH18 sH18
          have mH18 := kH18.1
          have hk := hk.new kH18 (fun b hb => by simp at hb ⊢; omega)
          have hr := hr.keep kH18 (fun x hx => by simp at hx; omega)
          have ho := kH18.cl ho (by first | (simp; done) | (simp; omega))
          have hc := kH18.cl hc (by first | (simp; done) | (simp; omega))
          have rsb := kH18.rd rsb (by first | (simp; done) | (simp; omega))
          have hrs := kH18.sl hrs (fun b e => by have := fs b e; first | (simp; done) | (simp; omega))
          have hud := kH18.rd hud (by first | (simp; done) | (simp; omega))
          have c10 := kH18.cl c10 (by first | (simp; done) | (simp; omega))
          have c14 := kH18.cl c14 (by first | (simp; done) | (simp; omega))
          have c12 := kH18.cl c12 (by first | (simp; done) | (simp; omega))
          have c9 : Cl H18 L1.next (qc (subQ (dws (rn (mss rs) s i) (rn (mss rs) s i (16 + i)) x.l k).2 (prt (rn (mss rs) s i) i x.l k y))) := sH18
          have c9 : Cl H18 L1.next (qc (dws (rn (mss rs) s i) (rn (mss rs) s i (16 + i)) x.l (k + 1)).2) := by rw [dws_succ hy]; exact c9
          refine wN_end ?_
          refine wN_seq ?_
          refine wN_addo (b := L2.next) (o := 0) rfl ?_
          refine wN_ld (b := L2.next) (o := 0) (v := iv y.to) rfl c10.rd rfl ?_
          refine wN_c_lss (a := y.to) (b := 0) rfl rfl ?_
          refine wN_end ?_
          refine And.intro (fun q5 => ?_) (fun q5 => ?_)
          · have q5 : y.to < 0 := of_decide_eq_true q5
            obtain ⟨kk, hj⟩ : ∃ k : Nat, -1 - y.to = (k : Int) := ⟨(-1 - y.to).toNat, by omega⟩
            have hix : ix y.to = kk := by unfold ix; rw [if_pos (by omega)]; omega
            rw [hix] at s3
            first | refine wD_dreg ?_ | (refine wOps_nil ?_; refine wD_dreg ?_)
            refine wD_mov (v := .slice (some ⟨bho, 0, none⟩) 16 16) rfl ?_
            refine wD_addo (b := L2.next) (o := 0) rfl ?_
            refine wD_ld (b := L2.next) (o := 0) (v := iv y.to) rfl c10.rd rfl ?_
            refine wD_sub (a := -1) (b := y.to) rfl rfl ⟨by omega, by omega⟩ ?_
            refine wD_mov (v := .slice (some ⟨bho, 0, none⟩) 16 16) rfl ?_
            refine wD_addo (b := L2.next) (o := 0) rfl ?_
            refine wD_ld (b := L2.next) (o := 0) (v := iv y.to) rfl c10.rd rfl ?_
            refine wD_sub (a := -1) (b := y.to) rfl rfl ⟨by omega, by omega⟩ ?_
            refine wD_idx (b := bho) (o := 0) (k := kk) (j := (-1) - y.to) rfl rfl hj (by omega) ?_
            refine wD_lda (b := bho) (o := 0 + kk * 4) rfl ho.rd (cc_row (C := (dws (rn (mss rs) s i) (rn (mss rs) s i (16 + i)) x.l k).1) (n := 16) (by omega)) ?_
            refine wD_lda (b := H11.next) (o := 0) rfl c12.rd (show row 4 (qc (prt (rn (mss rs) s i) i x.l k y)) 0 = some (qc (prt (rn (mss rs) s i) i x.l k y)) from rfl) ?_
            obtain ⟨H19, fH19, kH19⟩ := plus48_ok (kn := kn) (lo := H18.next) (H := H18) (p := (dws (rn (mss rs) s i) (rn (mss rs) s i (16 + i)) x.l k).1 kk) (q := prt (rn (mss rs) s i) i x.l k y) (Nat.le_refl _) s3
            refine wD_callh (vs := [.agg (qc ((dws (rn (mss rs) s i) (rn (mss rs) s i (16 + i)) x.l k).1 kk)).toArray, .agg (qc (prt (rn (mss rs) s i) i x.l k y)).toArray]) rfl rfl (callX_args fH19) ?_
            have mH19 := kH19.1
            have hk := hk.trans kH19
            have hr := hr.keep kH19 (by simp)
            have ho := kH19.cl ho (by simp)
            have hc := kH19.cl hc (by simp)
            have rsb := kH19.rd rsb (by simp)
            have hrs := kH19.sl0 hrs
            have hud := kH19.rd hud (by simp)
            have c10 := kH19.cl c10 (by simp)
            have c14 := kH19.cl c14 (by simp)
            have c12 := kH19.cl c12 (by simp)
            have c9 := kH19.cl c9 (by simp)
            refine wD_idx (b := bho) (o := 0) (k := kk) (j := (-1) - y.to) rfl rfl hj (by omega) ?_
            refine wD_sta (b := bho) (o := 0 + kk * 4) (v := .agg (qc (addQ ((dws (rn (mss rs) s i) (rn (mss rs) s i (16 + i)) x.l k).1 kk) (prt (rn (mss rs) s i) i x.l k y))).toArray) rfl rfl ho (by omega) rfl rfl (by rw [cc_len]; show 0 + kk * 4 + 4 ≤ _; omega) ?_
            intro H20 kH20 nH20 sH20
            have mH20 := kH20.1
            have hk := hk.new kH20 (fun b hb => by simp at hb ⊢; omega)
            have hr := hr.keep kH20 (fun x hx => by simp at hx; omega)
            have hc := kH20.cl hc (by first | (simp; done) | (simp; omega))
            have rsb := kH20.rd rsb (by first | (simp; done) | (simp; omega))
            have hrs := kH20.sl hrs (fun b e => by have := fs b e; first | (simp; done) | (simp; omega))
            have hud := kH20.rd hud (by first | (simp; done) | (simp; omega))
            have c10 := kH20.cl c10 (by first | (simp; done) | (simp; omega))
            have c14 := kH20.cl c14 (by first | (simp; done) | (simp; omega))
            have c12 := kH20.cl c12 (by first | (simp; done) | (simp; omega))
            have c9 := kH20.cl c9 (by first | (simp; done) | (simp; omega))
            have ho : Cl H20 bho (putRow (cc (dws (rn (mss rs) s i) (rn (mss rs) s i (16 + i)) x.l k).1 16) (0 + kk * 4) (qc (addQ ((dws (rn (mss rs) s i) (rn (mss rs) s i (16 + i)) x.l k).1 kk) (prt (rn (mss rs) s i) i x.l k y)))) := sH20
            rw [cc_put (by omega)] at ho
            have ho : Cl H20 bho (cc (dws (rn (mss rs) s i) (rn (mss rs) s i (16 + i)) x.l (k + 1)).1 16) := by rw [dws_succ hy]; rw [setC_snd hix] at ho; exact ho
            have hc : Cl H20 bhc (cc (fun r => (dws (rn (mss rs) s i) (rn (mss rs) s i (16 + i)) x.l (k + 1)).1 (16 + r)) n) := by
              rw [dws_succ hy, cc_congr (D := fun r => (dws (rn (mss rs) s i) (rn (mss rs) s i (16 + i)) x.l k).1 (16 + r)) (fun r hr => snd_ne (by omega))]; exact hc
            refine wD_end (by repeat' first | exact True.intro | exact (fun h => h) | refine And.intro ?_ ?_ | (intro h; have h : (_ : Nat) = _ := h; omega)) ?_
            first | refine wN_reg ?_ | refine wN_blk ?_ | refine wN_bseq ?_ | (refine wOps_nil ?_; refine wN_reg ?_)
            refine wN_mov (v := iv (k : Int)) rfl ?_
            refine wN_add (a := (k : Int)) (b := 1) rfl rfl ⟨by omega, by omega⟩ ?_
            refine wN_mov (v := iv ((k : Int) + 1)) rfl ?_
            refine wN_end ?_
            exact ⟨d - 1, k + 1, by omega, ⟨by omega, hk, by omega, hr, ho, hc, rsb, hrs, c9⟩, rfl, rfl, rfl, rfl, rfl, rfl, trivial⟩
          · have q5 : ¬ (y.to < 0) := of_decide_eq_false q5
            obtain ⟨kk, hj⟩ : ∃ k : Nat, y.to = (k : Int) := ⟨y.to.toNat, by omega⟩
            have hix : ix y.to = 16 + kk := by unfold ix; rw [if_neg (by omega)]; omega
            rw [hix] at s3
            first | refine wD_dreg ?_ | (refine wOps_nil ?_; refine wD_dreg ?_)
            refine wD_mov (v := .slice (some ⟨bhc, 0, none⟩) n n) rfl ?_
            refine wD_addo (b := L2.next) (o := 0) rfl ?_
            refine wD_ld (b := L2.next) (o := 0) (v := iv y.to) rfl c10.rd rfl ?_
            refine wD_mov (v := .slice (some ⟨bhc, 0, none⟩) n n) rfl ?_
            refine wD_addo (b := L2.next) (o := 0) rfl ?_
            refine wD_ld (b := L2.next) (o := 0) (v := iv y.to) rfl c10.rd rfl ?_
            refine wD_idx (b := bhc) (o := 0) (k := kk) (j := y.to) rfl rfl hj (by omega) ?_
            refine wD_lda (b := bhc) (o := 0 + kk * 4) rfl hc.rd (cc_row (C := fun r => (dws (rn (mss rs) s i) (rn (mss rs) s i (16 + i)) x.l k).1 (16 + r)) (n := n) (by omega)) ?_
            refine wD_lda (b := H11.next) (o := 0) rfl c12.rd (show row 4 (qc (prt (rn (mss rs) s i) i x.l k y)) 0 = some (qc (prt (rn (mss rs) s i) i x.l k y)) from rfl) ?_
            obtain ⟨H21, fH21, kH21⟩ := plus48_ok (kn := kn) (lo := H18.next) (H := H18) (p := (dws (rn (mss rs) s i) (rn (mss rs) s i (16 + i)) x.l k).1 (16 + kk)) (q := prt (rn (mss rs) s i) i x.l k y) (Nat.le_refl _) s3
            refine wD_callh (vs := [.agg (qc ((dws (rn (mss rs) s i) (rn (mss rs) s i (16 + i)) x.l k).1 (16 + kk))).toArray, .agg (qc (prt (rn (mss rs) s i) i x.l k y)).toArray]) rfl rfl (callX_args fH21) ?_
            have mH21 := kH21.1
            have hk := hk.trans kH21
            have hr := hr.keep kH21 (by simp)
            have ho := kH21.cl ho (by simp)
            have hc := kH21.cl hc (by simp)
            have rsb := kH21.rd rsb (by simp)
            have hrs := kH21.sl0 hrs
            have hud := kH21.rd hud (by simp)
            have c10 := kH21.cl c10 (by simp)
            have c14 := kH21.cl c14 (by simp)
            have c12 := kH21.cl c12 (by simp)
            have c9 := kH21.cl c9 (by simp)
            refine wD_idx (b := bhc) (o := 0) (k := kk) (j := y.to) rfl rfl hj (by omega) ?_
            refine wD_sta (b := bhc) (o := 0 + kk * 4) (v := .agg (qc (addQ ((dws (rn (mss rs) s i) (rn (mss rs) s i (16 + i)) x.l k).1 (16 + kk)) (prt (rn (mss rs) s i) i x.l k y))).toArray) rfl rfl hc (by omega) rfl rfl (by rw [cc_len]; show 0 + kk * 4 + 4 ≤ _; omega) ?_
            intro H22 kH22 nH22 sH22
            have mH22 := kH22.1
            have hk := hk.new kH22 (fun b hb => by simp at hb ⊢; omega)
            have hr := hr.keep kH22 (fun x hx => by simp at hx; omega)
            have ho := kH22.cl ho (by first | (simp; done) | (simp; omega))
            have rsb := kH22.rd rsb (by first | (simp; done) | (simp; omega))
            have hrs := kH22.sl hrs (fun b e => by have := fs b e; first | (simp; done) | (simp; omega))
            have hud := kH22.rd hud (by first | (simp; done) | (simp; omega))
            have c10 := kH22.cl c10 (by first | (simp; done) | (simp; omega))
            have c14 := kH22.cl c14 (by first | (simp; done) | (simp; omega))
            have c12 := kH22.cl c12 (by first | (simp; done) | (simp; omega))
            have c9 := kH22.cl c9 (by first | (simp; done) | (simp; omega))
            have hc : Cl H22 bhc (putRow (cc (fun r => (dws (rn (mss rs) s i) (rn (mss rs) s i (16 + i)) x.l k).1 (16 + r)) n) (0 + kk * 4) (qc (addQ ((dws (rn (mss rs) s i) (rn (mss rs) s i (16 + i)) x.l k).1 (16 + kk)) (prt (rn (mss rs) s i) i x.l k y)))) := sH22
            rw [cc_put (by omega)] at hc
            have ho : Cl H22 bho (cc (dws (rn (mss rs) s i) (rn (mss rs) s i (16 + i)) x.l (k + 1)).1 16) := by rw [dws_succ hy, cc_congr (D := (dws (rn (mss rs) s i) (rn (mss rs) s i (16 + i)) x.l k).1) (fun r hr => snd_ne (by omega))]; exact ho
            have hc : Cl H22 bhc (cc (fun r => (dws (rn (mss rs) s i) (rn (mss rs) s i (16 + i)) x.l (k + 1)).1 (16 + r)) n) := by
              rw [dws_succ hy]; rw [← setC_snd hix]
              rw [cc_congr (D := setC (fun r => (dws (rn (mss rs) s i) (rn (mss rs) s i (16 + i)) x.l k).1 (16 + r)) kk (addQ ((dws (rn (mss rs) s i) (rn (mss rs) s i (16 + i)) x.l k).1 (16 + kk)) (prt (rn (mss rs) s i) i x.l k y))) (fun r hr => by
                show setC _ (16 + kk) _ (16 + r) = setC _ kk _ r
                unfold setC
                by_cases e : r = kk
                · rw [if_pos e, if_pos (by omega)]
                · rw [if_neg e, if_neg (by omega)])]
              exact hc
            refine wD_end (by repeat' first | exact True.intro | exact (fun h => h) | refine And.intro ?_ ?_ | (intro h; have h : (_ : Nat) = _ := h; omega)) ?_
            first | refine wN_reg ?_ | refine wN_blk ?_ | refine wN_bseq ?_ | (refine wOps_nil ?_; refine wN_reg ?_)
            refine wN_mov (v := iv (k : Int)) rfl ?_
            refine wN_add (a := (k : Int)) (b := 1) rfl rfl ⟨by omega, by omega⟩ ?_
            refine wN_mov (v := iv ((k : Int) + 1)) rfl ?_
            refine wN_end ?_
            exact ⟨d - 1, k + 1, by omega, ⟨by omega, hk, by omega, hr, ho, hc, rsb, hrs, c9⟩, rfl, rfl, rfl, rfl, rfl, rfl, trivial⟩
        · have q4 : ¬ ((k : Int) < ((x.n : Int) - 1)) := of_decide_eq_false q4
          have hpr : prt (rn (mss rs) s i) i x.l k y = (dws (rn (mss rs) s i) (rn (mss rs) s i (16 + i)) x.l k).2 := by unfold prt; rw [if_neg (by omega)]
          first | refine wN_skip ?_ | skip
          refine wN_seq ?_
          refine wN_lda (b := L1.next) (o := 0) rfl c9.rd (show row 4 (qc (dws (rn (mss rs) s i) (rn (mss rs) s i (16 + i)) x.l k).2) 0 = some (qc (dws (rn (mss rs) s i) (rn (mss rs) s i (16 + i)) x.l k).2) from rfl) ?_
          have c12 : Cl H13 H11.next (qc (prt (rn (mss rs) s i) i x.l k y)) := by rw [hpr]; exact c12
          refine wN_lda (b := H11.next) (o := 0) rfl c12.rd (show row 4 (qc (prt (rn (mss rs) s i) i x.l k y)) 0 = some (qc (prt (rn (mss rs) s i) i x.l k y)) from rfl) ?_
          obtain ⟨H23, fH23, kH23⟩ := minus47_ok (kn := kn) (lo := lo) (H := H13) (p := (dws (rn (mss rs) s i) (rn (mss rs) s i (16 + i)) x.l k).2) (q := prt (rn (mss rs) s i) i x.l k y) (by omega) s4
          refine wN_callf (vs := [.agg (qc (dws (rn (mss rs) s i) (rn (mss rs) s i (16 + i)) x.l k).2).toArray, .agg (qc (prt (rn (mss rs) s i) i x.l k y)).toArray]) rfl (callX_args fH23) ?_
          have mH23 := kH23.1
          have hk := hk.trans kH23
          have hr := hr.keep kH23 (by simp)
          have ho := kH23.cl ho (by simp)
          have hc := kH23.cl hc (by simp)
          have rsb := kH23.rd rsb (by simp)
          have hrs := kH23.sl0 hrs
          have c9 := kH23.cl c9 (by simp)
          have hud := kH23.rd hud (by simp)
          have c10 := kH23.cl c10 (by simp)
          have c12 := kH23.cl c12 (by simp)
          refine wN_sta (b := L1.next) (o := 0) (v := .agg (qc (subQ (dws (rn (mss rs) s i) (rn (mss rs) s i (16 + i)) x.l k).2 (prt (rn (mss rs) s i) i x.l k y))).toArray) rfl rfl c9 (by omega) rfl rfl (by simp) ?_
          intro H24 kH24 nH24 sH24
          have mH24 := kH24.1
          have hk := hk.new kH24 (fun b hb => by simp at hb ⊢; omega)
          have hr := hr.keep kH24 (fun x hx => by simp at hx; omega)
          have ho := kH24.cl ho (by first | (simp; done) | (simp; omega))
          have hc := kH24.cl hc (by first | (simp; done) | (simp; omega))
          have rsb := kH24.rd rsb (by first | (simp; done) | (simp; omega))
          have hrs := kH24.sl hrs (fun b e => by have := fs b e; first | (simp; done) | (simp; omega))
          have hud := kH24.rd hud (by first | (simp; done) | (simp; omega))
          have c10 := kH24.cl c10 (by first | (simp; done) | (simp; omega))
          have c12 := kH24.cl c12 (by first | (simp; done) | (simp; omega))
          have c9 : Cl H24 L1.next (qc (subQ (dws (rn (mss rs) s i) (rn (mss rs) s i (16 + i)) x.l k).2 (prt (rn (mss rs) s i) i x.l k y))) := sH24
          have c9 : Cl H24 L1.next (qc (dws (rn (mss rs) s i) (rn (mss rs) s i (16 + i)) x.l (k + 1)).2) := by rw [dws_succ hy]; exact c9
          refine wN_end ?_
          refine wN_seq ?_
          refine wN_addo (b := L2.next) (o := 0) rfl ?_
          refine wN_ld (b := L2.next) (o := 0) (v := iv y.to) rfl c10.rd rfl ?_
          refine wN_c_lss (a := y.to) (b := 0) rfl rfl ?_
          refine wN_end ?_
          refine And.intro (fun q6 => ?_) (fun q6 => ?_)
          · have q6 : y.to < 0 := of_decide_eq_true q6
            obtain ⟨kk, hj⟩ : ∃ k : Nat, -1 - y.to = (k : Int) := ⟨(-1 - y.to).toNat, by omega⟩
            have hix : ix y.to = kk := by unfold ix; rw [if_pos (by omega)]; omega
            rw [hix] at s3
            first | refine wD_dreg ?_ | (refine wOps_nil ?_; refine wD_dreg ?_)
            refine wD_mov (v := .slice (some ⟨bho, 0, none⟩) 16 16) rfl ?_
            refine wD_addo (b := L2.next) (o := 0) rfl ?_
            refine wD_ld (b := L2.next) (o := 0) (v := iv y.to) rfl c10.rd rfl ?_
            refine wD_sub (a := -1) (b := y.to) rfl rfl ⟨by omega, by omega⟩ ?_
            refine wD_mov (v := .slice (some ⟨bho, 0, none⟩) 16 16) rfl ?_
            refine wD_addo (b := L2.next) (o := 0) rfl ?_
            refine wD_ld (b := L2.next) (o := 0) (v := iv y.to) rfl c10.rd rfl ?_
            refine wD_sub (a := -1) (b := y.to) rfl rfl ⟨by omega, by omega⟩ ?_
            refine wD_idx (b := bho) (o := 0) (k := kk) (j := (-1) - y.to) rfl rfl hj (by omega) ?_
            refine wD_lda (b := bho) (o := 0 + kk * 4) rfl ho.rd (cc_row (C := (dws (rn (mss rs) s i) (rn (mss rs) s i (16 + i)) x.l k).1) (n := 16) (by omega)) ?_
            refine wD_lda (b := H11.next) (o := 0) rfl c12.rd (show row 4 (qc (prt (rn (mss rs) s i) i x.l k y)) 0 = some (qc (prt (rn (mss rs) s i) i x.l k y)) from rfl) ?_
            obtain ⟨H25, fH25, kH25⟩ := plus48_ok (kn := kn) (lo := H24.next) (H := H24) (p := (dws (rn (mss rs) s i) (rn (mss rs) s i (16 + i)) x.l k).1 kk) (q := prt (rn (mss rs) s i) i x.l k y) (Nat.le_refl _) s3
            refine wD_callh (vs := [.agg (qc ((dws (rn (mss rs) s i) (rn (mss rs) s i (16 + i)) x.l k).1 kk)).toArray, .agg (qc (prt (rn (mss rs) s i) i x.l k y)).toArray]) rfl rfl (callX_args fH25) ?_
            have mH25 := kH25.1
            have hk := hk.trans kH25
            have hr := hr.keep kH25 (by simp)
            have ho := kH25.cl ho (by simp)
            have hc := kH25.cl hc (by simp)
            have rsb := kH25.rd rsb (by simp)
            have hrs := kH25.sl0 hrs
            have hud := kH25.rd hud (by simp)
            have c10 := kH25.cl c10 (by simp)
            have c12 := kH25.cl c12 (by simp)
            have c9 := kH25.cl c9 (by simp)
            refine wD_idx (b := bho) (o := 0) (k := kk) (j := (-1) - y.to) rfl rfl hj (by omega) ?_
            refine wD_sta (b := bho) (o := 0 + kk * 4) (v := .agg (qc (addQ ((dws (rn (mss rs) s i) (rn (mss rs) s i (16 + i)) x.l k).1 kk) (prt (rn (mss rs) s i) i x.l k y))).toArray) rfl rfl ho (by omega) rfl rfl (by rw [cc_len]; show 0 + kk * 4 + 4 ≤ _; omega) ?_
            intro H26 kH26 nH26 sH26
            have mH26 := kH26.1
            have hk := hk.new kH26 (fun b hb => by simp at hb ⊢; omega)
            have hr := hr.keep kH26 (fun x hx => by simp at hx; omega)
            have hc := kH26.cl hc (by first | (simp; done) | (simp; omega))
            have rsb := kH26.rd rsb (by first | (simp; done) | (simp; omega))
            have hrs := kH26.sl hrs (fun b e => by have := fs b e; first | (simp; done) | (simp; omega))
            have hud := kH26.rd hud (by first | (simp; done) | (simp; omega))
            have c10 := kH26.cl c10 (by first | (simp; done) | (simp; omega))
            have c12 := kH26.cl c12 (by first | (simp; done) | (simp; omega))
            have c9 := kH26.cl c9 (by first | (simp; done) | (simp; omega))
            have ho : Cl H26 bho (putRow (cc (dws (rn (mss rs) s i) (rn (mss rs) s i (16 + i)) x.l k).1 16) (0 + kk * 4) (qc (addQ ((dws (rn (mss rs) s i) (rn (mss rs) s i (16 + i)) x.l k).1 kk) (prt (rn (mss rs) s i) i x.l k y)))) := sH26
            rw [cc_put (by omega)] at ho
            have ho : Cl H26 bho (cc (dws (rn (mss rs) s i) (rn (mss rs) s i (16 + i)) x.l (k + 1)).1 16) := by rw [dws_succ hy]; rw [setC_snd hix] at ho; exact ho
            have hc : Cl H26 bhc (cc (fun r => (dws (rn (mss rs) s i) (rn (mss rs) s i (16 + i)) x.l (k + 1)).1 (16 + r)) n) := by
              rw [dws_succ hy, cc_congr (D := fun r => (dws (rn (mss rs) s i) (rn (mss rs) s i (16 + i)) x.l k).1 (16 + r)) (fun r hr => snd_ne (by omega))]; exact hc
            refine wD_end (by repeat' first | exact True.intro | exact (fun h => h) | refine And.intro ?_ ?_ | (intro h; have h : (_ : Nat) = _ := h; omega)) ?_
            first | refine wN_reg ?_ | refine wN_blk ?_ | refine wN_bseq ?_ | (refine wOps_nil ?_; refine wN_reg ?_)
            refine wN_mov (v := iv (k : Int)) rfl ?_
            refine wN_add (a := (k : Int)) (b := 1) rfl rfl ⟨by omega, by omega⟩ ?_
            refine wN_mov (v := iv ((k : Int) + 1)) rfl ?_
            refine wN_end ?_
            exact ⟨d - 1, k + 1, by omega, ⟨by omega, hk, by omega, hr, ho, hc, rsb, hrs, c9⟩, rfl, rfl, rfl, rfl, rfl, rfl, trivial⟩
          · have q6 : ¬ (y.to < 0) := of_decide_eq_false q6
            obtain ⟨kk, hj⟩ : ∃ k : Nat, y.to = (k : Int) := ⟨y.to.toNat, by omega⟩
            have hix : ix y.to = 16 + kk := by unfold ix; rw [if_neg (by omega)]; omega
            rw [hix] at s3
            first | refine wD_dreg ?_ | (refine wOps_nil ?_; refine wD_dreg ?_)
            refine wD_mov (v := .slice (some ⟨bhc, 0, none⟩) n n) rfl ?_
            refine wD_addo (b := L2.next) (o := 0) rfl ?_
            refine wD_ld (b := L2.next) (o := 0) (v := iv y.to) rfl c10.rd rfl ?_
            refine wD_mov (v := .slice (some ⟨bhc, 0, none⟩) n n) rfl ?_
            refine wD_addo (b := L2.next) (o := 0) rfl ?_
            refine wD_ld (b := L2.next) (o := 0) (v := iv y.to) rfl c10.rd rfl ?_
            refine wD_idx (b := bhc) (o := 0) (k := kk) (j := y.to) rfl rfl hj (by omega) ?_
            refine wD_lda (b := bhc) (o := 0 + kk * 4) rfl hc.rd (cc_row (C := fun r => (dws (rn (mss rs) s i) (rn (mss rs) s i (16 + i)) x.l k).1 (16 + r)) (n := n) (by omega)) ?_
            refine wD_lda (b := H11.next) (o := 0) rfl c12.rd (show row 4 (qc (prt (rn (mss rs) s i) i x.l k y)) 0 = some (qc (prt (rn (mss rs) s i) i x.l k y)) from rfl) ?_
            obtain ⟨H27, fH27, kH27⟩ := plus48_ok (kn := kn) (lo := H24.next) (H := H24) (p := (dws (rn (mss rs) s i) (rn (mss rs) s i (16 + i)) x.l k).1 (16 + kk)) (q := prt (rn (mss rs) s i) i x.l k y) (Nat.le_refl _) s3
            refine wD_callh (vs := [.agg (qc ((dws (rn (mss rs) s i) (rn (mss rs) s i (16 + i)) x.l k).1 (16 + kk))).toArray, .agg (qc (prt (rn (mss rs) s i) i x.l k y)).toArray]) rfl rfl (callX_args fH27) ?_
            have mH27 := kH27.1
            have hk := hk.trans kH27
            have hr := hr.keep kH27 (by simp)
            have ho := kH27.cl ho (by simp)
            have hc := kH27.cl hc (by simp)
            have rsb := kH27.rd rsb (by simp)
            have hrs := kH27.sl0 hrs
            have hud := kH27.rd hud (by simp)
            have c10 := kH27.cl c10 (by simp)
            have c12 := kH27.cl c12 (by simp)
            have c9 := kH27.cl c9 (by simp)
            refine wD_idx (b := bhc) (o := 0) (k := kk) (j := y.to) rfl rfl hj (by omega) ?_
            refine wD_sta (b := bhc) (o := 0 + kk * 4) (v := .agg (qc (addQ ((dws (rn (mss rs) s i) (rn (mss rs) s i (16 + i)) x.l k).1 (16 + kk)) (prt (rn (mss rs) s i) i x.l k y))).toArray) rfl rfl hc (by omega) rfl rfl (by rw [cc_len]; show 0 + kk * 4 + 4 ≤ _; omega) ?_
            intro H28 kH28 nH28 sH28
            have mH28 := kH28.1
            have hk := hk.new kH28 (fun b hb => by simp at hb ⊢; omega)
            have hr := hr.keep kH28 (fun x hx => by simp at hx; omega)
            have ho := kH28.cl ho (by first | (simp; done) | (simp; omega))
            have rsb := kH28.rd rsb (by first | (simp; done) | (simp; omega))
            have hrs := kH28.sl hrs (fun b e => by have := fs b e; first | (simp; done) | (simp; omega))
            have hud := kH28.rd hud (by first | (simp; done) | (simp; omega))
            have c10 := kH28.cl c10 (by first | (simp; done) | (simp; omega))
            have c12 := kH28.cl c12 (by first | (simp; done) | (simp; omega))
            have c9 := kH28.cl c9 (by first | (simp; done) | (simp; omega))
            have hc : Cl H28 bhc (putRow (cc (fun r => (dws (rn (mss rs) s i) (rn (mss rs) s i (16 + i)) x.l k).1 (16 + r)) n) (0 + kk * 4) (qc (addQ ((dws (rn (mss rs) s i) (rn (mss rs) s i (16 + i)) x.l k).1 (16 + kk)) (prt (rn (mss rs) s i) i x.l k y)))) := sH28
            rw [cc_put (by omega)] at hc
            have ho : Cl H28 bho (cc (dws (rn (mss rs) s i) (rn (mss rs) s i (16 + i)) x.l (k + 1)).1 16) := by rw [dws_succ hy, cc_congr (D := (dws (rn (mss rs) s i) (rn (mss rs) s i (16 + i)) x.l k).1) (fun r hr => snd_ne (by omega))]; exact ho
            have hc : Cl H28 bhc (cc (fun r => (dws (rn (mss rs) s i) (rn (mss rs) s i (16 + i)) x.l (k + 1)).1 (16 + r)) n) := by
              rw [dws_succ hy]; rw [← setC_snd hix]
              rw [cc_congr (D := setC (fun r => (dws (rn (mss rs) s i) (rn (mss rs) s i (16 + i)) x.l k).1 (16 + r)) kk (addQ ((dws (rn (mss rs) s i) (rn (mss rs) s i (16 + i)) x.l k).1 (16 + kk)) (prt (rn (mss rs) s i) i x.l k y))) (fun r hr => by
                show setC _ (16 + kk) _ (16 + r) = setC _ kk _ r
                unfold setC
                by_cases e : r = kk
                · rw [if_pos e, if_pos (by omega)]
                · rw [if_neg e, if_neg (by omega)])]
              exact hc
            refine wD_end (by repeat' first | exact True.intro | exact (fun h => h) | refine And.intro ?_ ?_ | (intro h; have h : (_ : Nat) = _ := h; omega)) ?_
            first | refine wN_reg ?_ | refine wN_blk ?_ | refine wN_bseq ?_ | (refine wOps_nil ?_; refine wN_reg ?_)
            refine wN_mov (v := iv (k : Int)) rfl ?_
            refine wN_add (a := (k : Int)) (b := 1) rfl rfl ⟨by omega, by omega⟩ ?_
            refine wN_mov (v := iv ((k : Int) + 1)) rfl ?_
            refine wN_end ?_
            exact ⟨d - 1, k + 1, by omega, ⟨by omega, hk, by omega, hr, ho, hc, rsb, hrs, c9⟩, rfl, rfl, rfl, rfl, rfl, rfl, trivial⟩
      · have q3 : ¬ ((k : Int) < (x.n : Int)) := of_decide_eq_false q3
        have e : k = x.l.length := by omega
        subst e
        have erw : (dws (rn (mss rs) s i) (rn (mss rs) s i (16 + i)) x.l x.l.length).1 = rn (mss rs) s (i + 1) := by
          rw [dws_wk (by omega)]; show _ = wk _ i ((mss rs).getD i []); rw [mss_get hx]
        rw [erw] at ho hc
        first | (refine wN_exit ?_; show wC _ _ _ _ _ _ _ _ _) | skip
        first | refine wN_reg ?_ | refine wN_blk ?_ | refine wN_bseq ?_ | (refine wOps_nil ?_; refine wN_reg ?_)
        refine wN_mov (v := iv (i : Int)) rfl ?_
        refine wN_add (a := (i : Int)) (b := 1) rfl rfl ⟨by omega, by omega⟩ ?_
        refine wN_mov (v := iv ((i : Int) + 1)) rfl ?_
        refine wN_end ?_
        exact ⟨dd - 1, i + 1, by omega, ⟨by omega, hk, by omega, hr, ho, hc⟩, rfl, rfl, rfl, rfl, trivial⟩
    · have q2 : ¬ ((i : Int) < (n : Int)) := of_decide_eq_false q2
      first | (refine wN_exit ?_; show wC _ _ _ _ _ _ _ _ _) | skip
      refine wN_seq ?_
      refine wN_mov (v := .slice (some ⟨bho, 0, none⟩) 16 16) rfl ?_
      refine wN_mov (v := .slice (some ⟨bho, 0, none⟩) 16 16) rfl ?_
      refine wN_mov (v := iv 0) rfl ?_
      refine wN_end ?_
      have e : i = (mss rs).length := by omega
      subst e
      exact And.intro trivial (Exists.intro _ (And.intro rfl ⟨_, rfl, hk, by omega, ho⟩))
/-- the document's Same, of the same -/
theorem same23_ok {C : Cs} {a1 a2 : Option Addr} {n c1 c2 m : Nat} (h1 : Sl H a1 n c1 (cc C m)) (h2 : Sl H a2 n c2 (cc C m)) (hnm : n ≤ m) (hn2 : n ≤ 1000000) : ∃ H', FnX Try.prog kn lo 23 [.slice a1 n c1, .slice a2 n c2] H (.bool true) H' ∧ Keep H H' [] := by
  have key := fnX_low (kn := kn) (lo := lo) (H := H) (args := [.slice a1 n c1, .slice a2 n c2]) (Q := fun w H' => w = .bool true ∧ Keep H H' []) Try.func23 B23 N23 Z23 L23 (by simp) ?_
  · obtain ⟨w, H', h, rfl, q⟩ := key; exact ⟨H', h, q⟩
  have hk := Keep.refl H []
  refine wN_seq ?_
  refine wN_mov (v := .bool false) rfl ?_
  refine wN_end ?_
  refine wN_seq ?_
  refine wN_mov (v := .slice a1 n c1) rfl ?_
  refine wN_len (m := n) rfl ?_
  refine wN_mov (v := .slice a2 n c2) rfl ?_
  refine wN_len (m := n) rfl ?_
  refine wN_c_neq (a := (n : Int)) (b := (n : Int)) rfl rfl ?_
  refine wN_end ?_
  refine And.intro (fun q1 => ?_) (fun q1 => ?_)
  · have q1 : (n : Int) ≠ (n : Int) := by simpa using q1
    exfalso; omega
  · have q1 : ¬ ((n : Int) ≠ (n : Int)) := by simpa using q1
    first | refine wN_skip ?_ | skip
    refine wN_seq ?_
    refine wN_mov (v := iv 0) rfl ?_
    refine wN_end ?_
    refine loop_low (fn := Try.f23) E23_1 N23 L23x1 (fun i : Nat => [(0, .slice a1 n c1), (1, .slice a2 n c2), (5, iv (i : Int))])
      (fun k i H' => i + k = n ∧ Keep H H' [] ∧ Sl H' a1 n c1 (cc C m) ∧ Sl H' a2 n c2 (cc C m)) n 0 ⟨by omega, hk, h1, h2⟩ ⟨rfl, rfl, rfl, trivial⟩ ?_
    rintro k i L1 ⟨hik, hk, h1, h2⟩
    refine wN_seq ?_
    refine wN_mov (v := iv (i : Int)) rfl ?_
    refine wN_mov (v := .slice a1 n c1) rfl ?_
    refine wN_len (m := n) rfl ?_
    refine wN_c_lss (a := (i : Int)) (b := (n : Int)) rfl rfl ?_
    refine wN_end ?_
    refine And.intro (fun q2 => ?_) (fun q2 => ?_)
    · have q2 : (i : Int) < (n : Int) := of_decide_eq_true q2
      have hi : i < n := by omega
      rcases id h1 with ⟨_, h0, _⟩ | ⟨b1, e1, r1, _⟩
      · omega
      rcases id h2 with ⟨_, h0, _⟩ | ⟨b2, e2, r2, _⟩
      · omega
      first | refine wN_skip ?_ | skip
      refine wD_seq ?_
      refine wD_mov (v := .slice a1 n c1) rfl ?_
      refine wD_mov (v := iv (i : Int)) rfl ?_
      refine wD_idx (b := b1) (o := 0) (k := i) (j := (i : Int)) (by rw [← e1]; rfl) rfl rfl hi ?_
      refine wD_lda (b := b1) (o := 0 + i * 4) rfl r1 (cc_row (by omega)) ?_
      refine wD_mov (v := .slice a2 n c2) rfl ?_
      refine wD_mov (v := iv (i : Int)) rfl ?_
      refine wD_idx (b := b2) (o := 0) (k := i) (j := (i : Int)) (by rw [← e2]; rfl) rfl rfl hi ?_
      refine wD_lda (b := b2) (o := 0 + i * 4) rfl r2 (cc_row (by omega)) ?_
      refine wD_pur (v := .bool false) rfl (neq24 rfl rfl) ?_
      refine wD_end (by repeat' first | exact True.intro | exact (fun h => h) | refine And.intro ?_ ?_ | (intro h; have h : (_ : Nat) = _ := h; omega)) ?_
      refine condF ?_
      first | refine wN_skip ?_ | skip
      first | refine wN_reg ?_ | refine wN_blk ?_ | refine wN_bseq ?_ | (refine wOps_nil ?_; refine wN_reg ?_)
      refine wN_mov (v := iv (i : Int)) rfl ?_
      refine wN_add (a := (i : Int)) (b := 1) rfl rfl ⟨by omega, by omega⟩ ?_
      refine wN_mov (v := iv ((i : Int) + 1)) rfl ?_
      refine wN_end ?_
      exact ⟨k - 1, i + 1, by omega, ⟨by omega, hk, h1, h2⟩, rfl, rfl, rfl, trivial⟩
    · have q2 : ¬ ((i : Int) < (n : Int)) := of_decide_eq_false q2
      refine wN_seq ?_
      refine wN_mov (v := .bool true) rfl ?_
      refine wN_end ?_
      exact And.intro trivial (Exists.intro _ (And.intro rfl ⟨rfl, hk⟩))
set_option maxRecDepth 100000 in
set_option maxHeartbeats 4000000 in
/-- PlantRuns -/
theorem law_runs (hkn : kn 16 = some true) {s : Nat → Int} {k : Int} {sa : Option Addr} {n cap f : Nat} {rs : List Mc} (hr : Mcs H f sa n cap rs) (hf : f ≤ H.next) (hro : RoLow lo H) (hlo : lo ≤ H.next) : ∃ H', FnX Try.prog kn lo 3 [.slice sa n cap, .agg (qc s).toArray, iv k] H (.bool true) H' := by
  have key := fnX_low (kn := kn) (lo := lo) (H := H) (args := [.slice sa n cap, .agg (qc s).toArray, iv k]) (Q := fun w H' => w = .bool true) Try.func3 B3 N3 Z3 L3 (by simp) ?_
  · obtain ⟨w, H', h, rfl⟩ := key; exact ⟨H', h⟩
  have hk := Keep.refl H []
  refine wN_seq ?_
  refine wN_box (v := .agg (qc s).toArray) rfl ?_
  intro H1 kH1 nH1 c1
  have c1 : Cl H1 H.next [iv (s 0), iv (s 1), iv (s 2), iv (s 3)] := c1
  have mH1 := kH1.1
  have hk := hk.trans kH1
  have hr := hr.keep kH1 (by simp)
  refine wN_mov (v := .bool false) rfl ?_
  refine wN_end ?_
  refine wN_seq ?_
  refine wN_mov (v := .slice sa n cap) rfl ?_
  refine wN_callB rfl (great_ok hr) ?_
  intro tH2 H2 hH2 kH2
  have mH2 := kH2.1
  have hk := hk.trans kH2
  have hr := hr.keep kH2 (by simp)
  have c1 := kH2.cl c1 (by simp)
  cases tH2
  · obtain ⟨hm, hn16, hm8⟩ := grtB_f hr.rl hH2
    have hn2 : n ≤ 1000000 := by omega
    refine wN_end ?_
    refine condF ?_
    first | refine wN_skip ?_ | skip
    refine wN_seq ?_
    refine wN_mov (v := .slice sa n cap) rfl ?_
    refine wN_lda (b := H.next) (o := 0) rfl c1.rd (show row 4 _ _ = some [iv (s 0), iv (s 1), iv (s 2), iv (s 3)] from rfl) ?_
    cases hok : rok rs s
    · obtain ⟨H3, fH3, kH3⟩ := run17_no (kn := kn) (lo := lo) (H := H2) (s := s) hr hm hn2 (by omega) (by omega) hok
      refine wN_callf (vs := [.slice sa n cap, .agg (qc s).toArray]) rfl (callX_args fH3) ?_
      have mH3 := kH3.1
      have hk := hk.trans kH3
      have hr := hr.keep kH3 (by simp)
      have c1 := kH3.cl c1 (by simp)
      refine wN_mov (v := .tuple #[.slice none 0 0, iv 1]) rfl ?_
      refine wN_pur (v := .slice none 0 0) rfl (by kernel_rfl) ?_
      refine wN_pur (v := iv 1) rfl (by kernel_rfl) ?_
      refine wN_mov (v := .slice none 0 0) rfl ?_
      refine wN_mov (v := iv 1) rfl ?_
      refine wN_end ?_
      refine wN_seq ?_
      refine wN_mov (v := .slice sa n cap) rfl ?_
      refine wN_lda (b := H.next) (o := 0) rfl c1.rd (show row 4 _ _ = some [iv (s 0), iv (s 1), iv (s 2), iv (s 3)] from rfl) ?_
      obtain ⟨H4, fH4, kH4⟩ := run18_no (kn := kn) (lo := lo) (H := H3) (s := s) hr hm hn2 (by omega) (by omega) hok
      refine wN_callf (vs := [.slice sa n cap, .agg (qc s).toArray]) rfl (callX_args fH4) ?_
      have mH4 := kH4.1
      have hk := hk.trans kH4
      have hr := hr.keep kH4 (by simp)
      have c1 := kH4.cl c1 (by simp)
      refine wN_mov (v := .tuple #[.slice none 0 0, iv 1]) rfl ?_
      refine wN_pur (v := .slice none 0 0) rfl (by kernel_rfl) ?_
      refine wN_pur (v := iv 1) rfl (by kernel_rfl) ?_
      refine wN_mov (v := .slice none 0 0) rfl ?_
      refine wN_mov (v := iv 1) rfl ?_
      refine wN_end ?_
      refine wN_seq ?_
      refine wN_lda (b := H.next) (o := 0) rfl c1.rd (show row 4 _ _ = some [iv (s 0), iv (s 1), iv (s 2), iv (s 3)] from rfl) ?_
      refine wN_mov (v := iv k) rfl ?_
      obtain ⟨H5, fH5, kH5⟩ := evap_ok (kn := kn) (lo := lo) (H := H4) (s := s) (k := k) (by omega)
      refine wN_callf (vs := [.agg (qc s).toArray, iv k]) rfl (callX_args fH5) ?_
      have mH5 := kH5.1
      have hk := hk.trans kH5
      have hr := hr.keep kH5 (by simp)
      have c1 := kH5.cl c1 (by simp)
      refine wN_mov (v := .tuple #[iv ((evE s k).1), iv ((evE s k).2)]) rfl ?_
      refine wN_pur (v := iv ((evE s k).1)) rfl (by kernel_rfl) ?_
      refine wN_pur (v := iv ((evE s k).2)) rfl (by kernel_rfl) ?_
      refine wN_mov (v := iv ((evE s k).1)) rfl ?_
      refine wN_mov (v := iv ((evE s k).2)) rfl ?_
      refine wN_end ?_
      refine wN_seq ?_
      refine wN_lda (b := H.next) (o := 0) rfl c1.rd (show row 4 _ _ = some [iv (s 0), iv (s 1), iv (s 2), iv (s 3)] from rfl) ?_
      refine wN_mov (v := iv k) rfl ?_
      obtain ⟨H6, fH6, kH6⟩ := refevap_ok (kn := kn) (lo := lo) (H := H5) (s := s) (k := k) (by omega)
      refine wN_callf (vs := [.agg (qc s).toArray, iv k]) rfl (callX_args fH6) ?_
      have mH6 := kH6.1
      have hk := hk.trans kH6
      have hr := hr.keep kH6 (by simp)
      have c1 := kH6.cl c1 (by simp)
      refine wN_mov (v := .tuple #[iv ((evE s k).1), iv ((evE s k).2)]) rfl ?_
      refine wN_pur (v := iv ((evE s k).1)) rfl (by kernel_rfl) ?_
      refine wN_pur (v := iv ((evE s k).2)) rfl (by kernel_rfl) ?_
      refine wN_mov (v := iv ((evE s k).1)) rfl ?_
      refine wN_mov (v := iv ((evE s k).2)) rfl ?_
      refine wN_end ?_
      refine wN_seq ?_
      refine wN_mov (v := .slice sa n cap) rfl ?_
      obtain ⟨H7, fH7, kH7⟩ := check_ok (kn := kn) (lo := lo) (H := H6) hr hm hn2 (by omega) (by omega)
      refine wN_callf (vs := [.slice sa n cap]) rfl (callX_args fH7) ?_
      have mH7 := kH7.1
      have hk := hk.trans kH7
      have hr := hr.keep kH7 (by simp)
      have c1 := kH7.cl c1 (by simp)
      refine wN_mov (v := .slice sa n cap) rfl ?_
      obtain ⟨H8, fH8, kH8⟩ := refcheck_ok (kn := kn) (lo := lo) (H := H7) hr hm hn2 (by omega) (by omega)
      refine wN_callf (vs := [.slice sa n cap]) rfl (callX_args fH8) ?_
      have mH8 := kH8.1
      have hk := hk.trans kH8
      have hr := hr.keep kH8 (by simp)
      have c1 := kH8.cl c1 (by simp)
      refine wN_eql (a := (bif pok (mss rs) then 0 else 1)) rfl rfl ?_
      refine wN_mov (v := .bool true) rfl ?_
      refine wN_g rfl (wN_mov (v := .slice none 0 0) rfl ?_)
      refine wN_g rfl (wN_mov (v := .slice none 0 0) rfl ?_)
      obtain ⟨H9, fH9, kH9⟩ := same23_ok (kn := kn) (lo := lo) (H := H8) (C := cz) (n := 0) (c1 := 0) (c2 := 0) (m := 0) (a1 := none) (a2 := none) (.inl ⟨.inl rfl, rfl, rfl, rfl⟩) (.inl ⟨.inl rfl, rfl, rfl, rfl⟩) (Nat.le_refl _) (by omega)
      refine wN_g rfl (wN_callf (vs := [.slice none 0 0, .slice none 0 0]) rfl (callX_args fH9) ?_)
      have mH9 := kH9.1
      have hk := hk.trans kH9
      have hr := hr.keep kH9 (by simp)
      have c1 := kH9.cl c1 (by simp)
      refine wN_pur (v := .bool true) rfl rfl ?_
      refine wN_mov (v := .bool true) rfl ?_
      refine wN_g rfl (wN_mov (v := iv 1) rfl ?_)
      refine wN_g rfl (wN_mov (v := iv 1) rfl ?_)
      refine wN_g rfl (wN_b_eql (a := 1) (b := 1) rfl rfl ?_)
      intro t1 g1; obtain rfl : t1 = true := by rw [← g1]; rfl
      refine wN_pur (v := .bool true) rfl rfl ?_
      refine wN_mov (v := .bool true) rfl ?_
      refine wN_g rfl (wN_mov (v := iv ((evE s k).1)) rfl ?_)
      refine wN_g rfl (wN_mov (v := iv ((evE s k).1)) rfl ?_)
      refine wN_g rfl (wN_eql (a := (evE s k).1) rfl rfl ?_)
      refine wN_pur (v := .bool true) rfl rfl ?_
      refine wN_mov (v := .bool true) rfl ?_
      refine wN_g rfl (wN_mov (v := iv ((evE s k).2)) rfl ?_)
      refine wN_g rfl (wN_mov (v := iv ((evE s k).2)) rfl ?_)
      refine wN_g rfl (wN_eql (a := (evE s k).2) rfl rfl ?_)
      refine wN_pur (v := .bool true) rfl rfl ?_
      refine wN_mov (v := .bool true) rfl ?_
      refine wN_g rfl (wN_callf (vs := []) rfl (callX_known hkn) ?_)
      refine wN_pur (v := .bool true) rfl rfl ?_
      refine wN_mov (v := .bool true) rfl ?_
      refine wN_end ?_
      exact And.intro trivial (Exists.intro _ (And.intro rfl rfl))
    · obtain ⟨aA, H3, fH3, kH3, laA, sA⟩ := run17_ok (kn := kn) (lo := lo) (H := H2) (s := s) hr hm hn2 (by omega) (by omega) hok
      refine wN_callf (vs := [.slice sa n cap, .agg (qc s).toArray]) rfl (callX_args fH3) ?_
      have mH3 := kH3.1
      have hk := hk.trans kH3
      have hr := hr.keep kH3 (by simp)
      have c1 := kH3.cl c1 (by simp)
      refine wN_mov (v := .tuple #[.slice (some ⟨aA, 0, none⟩) 16 16, iv 0]) rfl ?_
      refine wN_pur (v := .slice (some ⟨aA, 0, none⟩) 16 16) rfl (by kernel_rfl) ?_
      refine wN_pur (v := iv 0) rfl (by kernel_rfl) ?_
      refine wN_mov (v := .slice (some ⟨aA, 0, none⟩) 16 16) rfl ?_
      refine wN_mov (v := iv 0) rfl ?_
      refine wN_end ?_
      refine wN_seq ?_
      refine wN_mov (v := .slice sa n cap) rfl ?_
      refine wN_lda (b := H.next) (o := 0) rfl c1.rd (show row 4 _ _ = some [iv (s 0), iv (s 1), iv (s 2), iv (s 3)] from rfl) ?_
      obtain ⟨aB, H10, fH10, kH10, laB, sB⟩ := run18_ok (kn := kn) (lo := lo) (H := H3) (s := s) hr hm hn2 (by omega) (by omega) hok
      refine wN_callf (vs := [.slice sa n cap, .agg (qc s).toArray]) rfl (callX_args fH10) ?_
      have mH10 := kH10.1
      have hk := hk.trans kH10
      have hr := hr.keep kH10 (by simp)
      have c1 := kH10.cl c1 (by simp)
      have sA := kH10.sc sA (by simp)
      refine wN_mov (v := .tuple #[.slice (some ⟨aB, 0, none⟩) 16 16, iv 0]) rfl ?_
      refine wN_pur (v := .slice (some ⟨aB, 0, none⟩) 16 16) rfl (by kernel_rfl) ?_
      refine wN_pur (v := iv 0) rfl (by kernel_rfl) ?_
      refine wN_mov (v := .slice (some ⟨aB, 0, none⟩) 16 16) rfl ?_
      refine wN_mov (v := iv 0) rfl ?_
      refine wN_end ?_
      refine wN_seq ?_
      refine wN_lda (b := H.next) (o := 0) rfl c1.rd (show row 4 _ _ = some [iv (s 0), iv (s 1), iv (s 2), iv (s 3)] from rfl) ?_
      refine wN_mov (v := iv k) rfl ?_
      obtain ⟨H11, fH11, kH11⟩ := evap_ok (kn := kn) (lo := lo) (H := H10) (s := s) (k := k) (by omega)
      refine wN_callf (vs := [.agg (qc s).toArray, iv k]) rfl (callX_args fH11) ?_
      have mH11 := kH11.1
      have hk := hk.trans kH11
      have hr := hr.keep kH11 (by simp)
      have c1 := kH11.cl c1 (by simp)
      have sA := kH11.sc sA (by simp)
      have sB := kH11.cl sB (by simp)
      refine wN_mov (v := .tuple #[iv ((evE s k).1), iv ((evE s k).2)]) rfl ?_
      refine wN_pur (v := iv ((evE s k).1)) rfl (by kernel_rfl) ?_
      refine wN_pur (v := iv ((evE s k).2)) rfl (by kernel_rfl) ?_
      refine wN_mov (v := iv ((evE s k).1)) rfl ?_
      refine wN_mov (v := iv ((evE s k).2)) rfl ?_
      refine wN_end ?_
      refine wN_seq ?_
      refine wN_lda (b := H.next) (o := 0) rfl c1.rd (show row 4 _ _ = some [iv (s 0), iv (s 1), iv (s 2), iv (s 3)] from rfl) ?_
      refine wN_mov (v := iv k) rfl ?_
      obtain ⟨H12, fH12, kH12⟩ := refevap_ok (kn := kn) (lo := lo) (H := H11) (s := s) (k := k) (by omega)
      refine wN_callf (vs := [.agg (qc s).toArray, iv k]) rfl (callX_args fH12) ?_
      have mH12 := kH12.1
      have hk := hk.trans kH12
      have hr := hr.keep kH12 (by simp)
      have c1 := kH12.cl c1 (by simp)
      have sA := kH12.sc sA (by simp)
      have sB := kH12.cl sB (by simp)
      refine wN_mov (v := .tuple #[iv ((evE s k).1), iv ((evE s k).2)]) rfl ?_
      refine wN_pur (v := iv ((evE s k).1)) rfl (by kernel_rfl) ?_
      refine wN_pur (v := iv ((evE s k).2)) rfl (by kernel_rfl) ?_
      refine wN_mov (v := iv ((evE s k).1)) rfl ?_
      refine wN_mov (v := iv ((evE s k).2)) rfl ?_
      refine wN_end ?_
      refine wN_seq ?_
      refine wN_mov (v := .slice sa n cap) rfl ?_
      obtain ⟨H13, fH13, kH13⟩ := check_ok (kn := kn) (lo := lo) (H := H12) hr hm hn2 (by omega) (by omega)
      refine wN_callf (vs := [.slice sa n cap]) rfl (callX_args fH13) ?_
      have mH13 := kH13.1
      have hk := hk.trans kH13
      have hr := hr.keep kH13 (by simp)
      have c1 := kH13.cl c1 (by simp)
      have sA := kH13.sc sA (by simp)
      have sB := kH13.cl sB (by simp)
      refine wN_mov (v := .slice sa n cap) rfl ?_
      obtain ⟨H14, fH14, kH14⟩ := refcheck_ok (kn := kn) (lo := lo) (H := H13) hr hm hn2 (by omega) (by omega)
      refine wN_callf (vs := [.slice sa n cap]) rfl (callX_args fH14) ?_
      have mH14 := kH14.1
      have hk := hk.trans kH14
      have hr := hr.keep kH14 (by simp)
      have c1 := kH14.cl c1 (by simp)
      have sA := kH14.sc sA (by simp)
      have sB := kH14.cl sB (by simp)
      refine wN_eql (a := (bif pok (mss rs) then 0 else 1)) rfl rfl ?_
      refine wN_mov (v := .bool true) rfl ?_
      refine wN_g rfl (wN_mov (v := .slice (some ⟨aA, 0, none⟩) 16 16) rfl ?_)
      refine wN_g rfl (wN_mov (v := .slice (some ⟨aB, 0, none⟩) 16 16) rfl ?_)
      obtain ⟨H15, fH15, kH15⟩ := same23_ok (kn := kn) (lo := lo) (H := H14) (C := rnA (mss rs) s) (m := 16) (sA.cl.sl (Nat.le_refl 16)) (sB.sl (Nat.le_refl 16)) (Nat.le_refl _) (by omega)
      refine wN_g rfl (wN_callf (vs := [slv aA 16 16, slv aB 16 16]) rfl (callX_args fH15) ?_)
      have mH15 := kH15.1
      have hk := hk.trans kH15
      have hr := hr.keep kH15 (by simp)
      have c1 := kH15.cl c1 (by simp)
      have sA := kH15.sc sA (by simp)
      have sB := kH15.cl sB (by simp)
      refine wN_pur (v := .bool true) rfl rfl ?_
      refine wN_mov (v := .bool true) rfl ?_
      refine wN_g rfl (wN_mov (v := iv 0) rfl ?_)
      refine wN_g rfl (wN_mov (v := iv 0) rfl ?_)
      refine wN_g rfl (wN_b_eql (a := 0) (b := 0) rfl rfl ?_)
      intro t2 g2; obtain rfl : t2 = true := by rw [← g2]; rfl
      refine wN_pur (v := .bool true) rfl rfl ?_
      refine wN_mov (v := .bool true) rfl ?_
      refine wN_g rfl (wN_mov (v := iv ((evE s k).1)) rfl ?_)
      refine wN_g rfl (wN_mov (v := iv ((evE s k).1)) rfl ?_)
      refine wN_g rfl (wN_eql (a := (evE s k).1) rfl rfl ?_)
      refine wN_pur (v := .bool true) rfl rfl ?_
      refine wN_mov (v := .bool true) rfl ?_
      refine wN_g rfl (wN_mov (v := iv ((evE s k).2)) rfl ?_)
      refine wN_g rfl (wN_mov (v := iv ((evE s k).2)) rfl ?_)
      refine wN_g rfl (wN_eql (a := (evE s k).2) rfl rfl ?_)
      refine wN_pur (v := .bool true) rfl rfl ?_
      refine wN_mov (v := .bool true) rfl ?_
      refine wN_g rfl (wN_callf (vs := []) rfl (callX_known hkn) ?_)
      refine wN_pur (v := .bool true) rfl rfl ?_
      refine wN_mov (v := .bool true) rfl ?_
      refine wN_end ?_
      exact And.intro trivial (Exists.intro _ (And.intro rfl rfl))
  · refine wN_end ?_
    refine condT ?_
    refine wN_seq ?_
    refine wN_callf (vs := []) rfl (callX_known hkn) ?_
    refine wN_mov (v := .bool true) rfl ?_
    refine wN_end ?_
    exact And.intro trivial (Exists.intro _ (And.intro rfl rfl))
end
end Go.Ax

namespace Go.Ax
open Go Go.RowKit Go.Proofs Go.ChangeShapes Go.WideShapes Go.Deep

/-- A type whose cells are whole numbers. -/
def IntT (P : Program) (t : TypeId) : Prop := ∀ (H : Type) (enc : TypeId × Value → H) (w : World) (base : Nat) (spare : Nat → Bool) (held : Bool) (fuel : Nat) (cs : List Value) (x : DataW H × List MemPlace),
  DataW.trod enc P w base spare held fuel t cs = some x → cs.length = P.cellsOf t ∧ ∀ j, j < cs.length → ∃ n, cs[j]? = some (.int .i64 n)
theorem IntT.int {P : Program} {t : TypeId} (ht : P.underlying t = some (.int .i64)) (hc : P.cellsOf t = 1) : IntT P t := by
  intro H enc w base spare held fuel cs x h
  obtain ⟨n, rfl, _⟩ := DataW.trod_int ht h
  refine ⟨by rw [hc]; rfl, fun j hj => ⟨n, ?_⟩⟩
  have : j = 0 := by simp at hj; omega
  subst this; rfl
theorem IntT.struct {P : Program} {t : TypeId} {fs : Array Field} (ht : P.underlying t = some (.struct fs)) (hf : ∀ f ∈ fs.toList, IntT P f.type)
    (hcov : ((List.range (P.cellsOf t)).all fun j => fs.toList.any fun f => decide (f.offset ≤ j) && decide (j < f.offset + P.cellsOf f.type)) = true) : IntT P t := by
  intro H enc w base spare held fuel cs x h
  obtain ⟨xs, n, _, _, hlen, hxl, hg⟩ := DataW.trod_struct ht h
  refine ⟨hlen, fun j hj => ?_⟩
  have h1 := List.all_eq_true.1 hcov j (List.mem_range.2 (by omega))
  obtain ⟨f, hfm, h2⟩ := List.any_eq_true.1 h1
  simp only [Bool.and_eq_true, decide_eq_true_eq] at h2
  obtain ⟨i, hi, hfi⟩ := List.getElem_of_mem hfm
  have hfs : fs[i]? = some f := by
    rw [← Array.getElem?_toList, List.getElem?_eq_getElem hi, hfi]
  have hi2 : i < xs.length := by simpa [hxl] using hi
  have h3 := hg i f hfs
  rw [List.getElem?_eq_getElem hi2] at h3
  obtain ⟨h4, h5⟩ := hf f hfm _ _ _ _ _ _ _ _ _ h3
  obtain ⟨m, hm⟩ := h5 (j - f.offset) (by omega)
  refine ⟨m, ?_⟩
  rw [List.getElem?_take] at hm
  split at hm
  · rw [List.getElem?_drop, show f.offset + (j - f.offset) = j by omega] at hm; exact hm
  · cases hm

/-- A slice of rows of whole numbers, as it is given. -/
structure Given {α : Type} (w : World) (v : Value) (f : α → List Value) (l : List α) (x : Imp) : Prop where
  ok : ∀ (i : Nat) u, x.cs[i]? = some u → w.cell? ⟨x.blk, x.off + i, none⟩ = some u ∧ flat1 u = true
  cs : x.cs = l.flatMap f
  v : (v = .slice none 0 0 ∧ l = []) ∨ ∃ cap, v = .slice (some ⟨x.blk, x.off, none⟩) l.length cap ∧ l.length ≤ cap
theorem flat_get {α : Type} {f : α → List Value} {k : Nat} (hk : 0 < k) : ∀ {l : List α} (_ : ∀ x ∈ l, (f x).length = k) (i : Nat) (u : Value), (l.flatMap f)[i]? = some u → ∃ x, l[i / k]? = some x ∧ (f x)[i % k]? = some u
  | [], _, i, u, h => by simp at h
  | y :: r, hl, i, u, h => by
    have hy := hl y (List.mem_cons_self ..)
    rw [List.flatMap_cons, List.getElem?_append] at h
    split at h
    · rename_i q
      rw [hy] at q
      refine ⟨y, ?_, ?_⟩
      · rw [Nat.div_eq_of_lt q]; rfl
      · rw [Nat.mod_eq_of_lt q]; exact h
    · rename_i q
      rw [hy] at q h
      obtain ⟨x, h1, h2⟩ := flat_get hk (fun x hx => hl x (List.mem_cons_of_mem _ hx)) _ u h
      refine ⟨x, ?_, ?_⟩
      · rw [Nat.div_eq_sub_div hk (by omega)]; exact h1
      · rw [Nat.mod_eq_sub_mod (by omega)]; exact h2
theorem Given.rel {α : Type} {w : World} {v : Value} {f : α → List Value} {l : List α} {x : Imp} (g : Given w v f l x) {r : Ren} {H : Hp} {b : Nat} (hr : r b = some ⟨x.blk, x.off, none⟩) (hb : b < H.next) (hc : cellsOf H b = some x.cs) (hro : H.t.get b = some (.ro x.cs)) :
    ∃ a cap, VR r (.slice a l.length cap) v ∧ Sl H a l.length cap (l.flatMap f) ∧ ∀ b, a = some ⟨b, 0, none⟩ → H.t.get b = some (.ro (l.flatMap f)) := by
  rcases g.v with ⟨rfl, rfl⟩ | ⟨cap, rfl, hl⟩
  · exact ⟨none, 0, .nilSlice, .inl ⟨.inl rfl, rfl, rfl, rfl⟩, fun b e => by cases e⟩
  · refine ⟨some ⟨b, 0, none⟩, cap, ?_, .inr ⟨b, rfl, ⟨hb, by rw [hc, g.cs]⟩, hl⟩, fun b' e => by cases e; rw [hro, g.cs]⟩
    have := VR.slice (o := 0) (n := l.length) (c := cap) hr rfl hl
    simpa using this
end Go.Ax

/-! Slices of rows of plain cells, as arguments. -/
namespace Go.Ax
open Go Go.RowKit Go.Proofs Go.ChangeShapes Go.WideShapes Go.Deep

theorem IntT.row {α : Type} {P : Program} {t : TypeId} {k : Nat} {f : α → List Value} {mk : (Nat → Int) → α} (h : IntT P t) (hc : P.cellsOf t = k) (hmk : ∀ N : Nat → Int, f (mk N) = (List.range k).map fun j => Value.int .i64 (N j))
    {H : Type} {enc : TypeId × Value → H} {w : World} {base : Nat} {spare : Nat → Bool} {held : Bool} (fuel : Nat) (cs : List Value) (x : DataW H × List MemPlace) (hx : DataW.trod enc P w base spare held fuel t cs = some x) : ∃ y : α, cs = f y ∧ True := by
  obtain ⟨h1, h2⟩ := h _ _ _ _ _ _ _ _ _ hx
  have : ∃ N : Nat → Int, ∀ j, j < cs.length → cs[j]? = some (.int .i64 (N j)) := by
    refine ⟨fun j => match cs[j]? with | some (.int _ n) => n | _ => 0, fun j hj => ?_⟩
    obtain ⟨n, hn⟩ := h2 j hj
    simp [hn]
  obtain ⟨N, hN⟩ := this
  refine ⟨mk N, ?_, trivial⟩
  rw [hmk]
  apply List.ext_getElem?
  intro j
  by_cases hj : j < k
  · rw [hN j (by omega), List.getElem?_map, List.getElem?_range hj]; rfl
  · rw [List.getElem?_eq_none (by omega), List.getElem?_eq_none (by simp; omega)]
theorem spot_of {w : World} {a : Addr} {v : Value} (h : w.cell? a = some v) : a.spot = none := by
  unfold World.cell? at h
  split at h
  · cases hs : a.spot with
    | none => rfl
    | some x => rw [hs] at h; simp at h
  · cases h
theorem add_zero' (a : Addr) : a.add 0 = a := by unfold Addr.add; simp
theorem add_plain (b o n : Nat) : (⟨b, o, none⟩ : Addr).add n = ⟨b, o + n, none⟩ := by
  unfold Addr.add
  by_cases q : n = 0
  · simp [q]
  · simp [q]
/-- A slice of rows, as it is read; Q: what else is known of a row. -/
theorem rows_read {H : Type} {enc : TypeId × Value → H} {P : Program} {w : World} {base : Nat} {held : Bool} {α : Type} {f : α → List Value} {Q : α → Prop} {k : Nat} {t e : TypeId} {fuel : Nat} {v : Value} {x : DataW H × List MemPlace}
    (ht : P.underlying t = some (.slice e)) (hR : ∀ (fuel : Nat) (cs : List Value) (x : DataW H × List MemPlace), DataW.trod enc P w base (fun _ => true) held fuel e cs = some x → ∃ y : α, cs = f y ∧ Q y) (hc : P.cellsOf e = k) (hk : 0 < k) (hfk : ∀ y, (f y).length = k)
    (h : DataW.trod enc P w base (fun _ => true) held fuel t [v] = some x) : ∃ (l : List α), l.length ≤ maxLen ∧ (∀ y ∈ l, Q y) ∧
      (((v = .slice none 0 0 ∨ ∃ a', v = .slice (some a') 0 0) ∧ l = []) ∨ ∃ blk off cap, v = .slice (some ⟨blk, off, none⟩) l.length cap ∧ l.length ≤ cap ∧ ∀ (i : Nat) u, (l.flatMap f)[i]? = some u → w.cell? ⟨blk, off + i, none⟩ = some u) := by
  rcases open_slice ht h with ⟨h0, _⟩ | ⟨a, len, cap, m, n, D, Pl, hcs, hb, hl, hm, hmm, hx, hi⟩
  · cases h0
    exact ⟨[], by simp, fun y hy => by simp at hy, .inl ⟨.inl rfl, rfl⟩⟩
  cases hcs
  simp only [if_true] at hmm
  subst hmm
  rcases Nat.eq_zero_or_pos m with h0 | h0
  · subst h0
    have : len = 0 := by omega
    subst this
    exact ⟨[], by simp, fun y hy => by simp at hy, .inl ⟨.inr ⟨_, rfl⟩, rfl⟩⟩
  obtain ⟨blk, off, spot⟩ := a
  have hs : spot = none := by
    obtain ⟨cs', h1, h2⟩ := hi 0 h0
    obtain ⟨y, hy, _⟩ := hR _ _ _ h2
    obtain ⟨_, h5, h6⟩ := World.cells?_some h1
    have h7 := h6 0 (by omega)
    rw [Nat.zero_mul, add_zero', add_zero'] at h7
    have h8 : cs'[0]? = some (cs'[0]'(by omega)) := List.getElem?_eq_getElem _
    rw [h8] at h7
    exact spot_of h7
  subst hs
  have hrow : ∀ i, i < len → ∃ y : α, Q y ∧ ∀ j, j < k → ∃ u, (f y)[j]? = some u ∧ w.cell? ⟨blk, off + (i * k + j), none⟩ = some u := by
    intro i hil
    obtain ⟨cs', h1, h2⟩ := hi i (by omega)
    obtain ⟨y, rfl, hq⟩ := hR _ _ _ h2
    obtain ⟨_, h5, h6⟩ := World.cells?_some h1
    refine ⟨y, hq, fun j hj => ?_⟩
    have h7 := h6 j (by omega)
    have h8 : (f y)[j]? = some ((f y)[j]'(by rw [hfk]; exact hj)) := List.getElem?_eq_getElem _
    rw [h8, hc, add_plain, add_plain, Nat.add_assoc] at h7
    exact ⟨_, h8, h7⟩
  have key : ∀ n, n ≤ len → ∃ l : List α, l.length = n ∧ (∀ y ∈ l, Q y) ∧ ∀ (i : Nat) y, l[i]? = some y → ∀ j, j < k → ∃ u, (f y)[j]? = some u ∧ w.cell? ⟨blk, off + (i * k + j), none⟩ = some u := by
    intro n
    induction n with
    | zero => intro _; exact ⟨[], rfl, fun y hy => by simp at hy, fun i y e => by simp at e⟩
    | succ n ih =>
      intro hn
      obtain ⟨l, h1, hq, h2⟩ := ih (by omega)
      obtain ⟨y, hyq, hy⟩ := hrow n (by omega)
      refine ⟨l ++ [y], by simp [h1], fun z hz => ?_, fun i z e => ?_⟩
      · simp only [List.mem_append, List.mem_singleton] at hz
        rcases hz with hz | rfl
        · exact hq z hz
        · exact hyq
      rw [List.getElem?_append] at e
      split at e
      · exact h2 i z e
      · rename_i q
        have : i = n := by have := get_lt e; simp at this; omega
        subst this
        rw [h1, Nat.sub_self] at e
        simp at e; subst e
        exact hy
  obtain ⟨l, hl1, hq, hl2⟩ := key len (Nat.le_refl _)
  refine ⟨l, by omega, hq, .inr ⟨blk, off, m, by rw [hl1], by omega, fun i u hu => ?_⟩⟩
  obtain ⟨y, h1, h2⟩ := flat_get hk (fun y _ => hfk y) i u hu
  have hj : i % k < k := Nat.mod_lt _ hk
  obtain ⟨u', e1, e2⟩ := hl2 _ y h1 _ hj
  rw [h2] at e1; cases e1
  rw [Nat.div_add_mod'] at e2
  exact e2
end Go.Ax

/-! Arguments that point to what points: inner slices, rows of slices. -/
namespace Go.Ax
open Go Go.RowKit Go.Proofs Go.ChangeShapes Go.WideShapes Go.Deep

def renOf (imps : List Imp) : Ren := fun b => (imps[b]?).map fun x => ⟨x.blk, x.off, none⟩
theorem imports3 {P : Program} (imps outs : List Imp) (w : World) (h : ∀ x ∈ imps, ∀ (i : Nat) v, x.cs[i]? = some v → w.cell? ⟨x.blk, x.off + i, none⟩ = some v ∧ flat1 v = true)
    (hcs : ∀ x ∈ outs, ∀ (i : Nat) v, x.cs[i]? = some v → ∃ v', w.cell? ⟨x.blk, x.off + i, none⟩ = some v' ∧ VR (renOf imps) v v') :
    ∃ (r : Ren) (H : Hp), Rel P r w.heap.size H w ∧ H.next = (imps ++ outs).length ∧ (∀ b loc, r b = some loc → b < H.next) ∧ Ren.Le (renOf imps) r ∧ ∀ (b : Nat) x, (imps ++ outs)[b]? = some x → r b = some ⟨x.blk, x.off, none⟩ ∧ H.t.get b = some (.ro x.cs) := by
  have hall : ∀ x ∈ imps ++ outs, ∀ (i : Nat) v, x.cs[i]? = some v → ∃ v', w.cell? ⟨x.blk, x.off + i, none⟩ = some v' ∧ VR (renOf imps) v v' := by
    intro x hx i v hv
    rcases List.mem_append.1 hx with hx | hx
    · obtain ⟨h1, h2⟩ := h x hx i v hv
      exact ⟨v, h1, flat1_vr h2⟩
    · exact hcs x hx i v hv
  obtain ⟨t, ht⟩ := tr_of (fun b => ((imps ++ outs)[b]?).map fun x => .ro x.cs) (imps ++ outs).length
  have hle : Ren.Le (renOf imps) (fun b => ((imps ++ outs)[b]?).map fun x => ⟨x.blk, x.off, none⟩) := fun b loc e => by
    unfold renOf at e
    have hlt : b < imps.length := by
      rcases Nat.lt_or_ge b imps.length with q | q
      · exact q
      · rw [List.getElem?_eq_none q] at e; cases e
    show ((imps ++ outs)[b]?).map _ = _
    rw [List.getElem?_append_left hlt]; exact e
  have hr : ∀ (b : Nat) loc, ((imps ++ outs)[b]?).map (fun x => (⟨x.blk, x.off, none⟩ : Loc)) = some loc → ∃ x, (imps ++ outs)[b]? = some x ∧ b < (imps ++ outs).length ∧ loc = ⟨x.blk, x.off, none⟩ ∧ t.get b = some (.ro x.cs) := by
    intro b loc e
    cases hx : (imps ++ outs)[b]? with
    | none => rw [hx] at e; cases e
    | some x =>
      rw [hx] at e
      simp at e
      have hlt := get_lt hx
      exact ⟨x, rfl, hlt, e.symm, by rw [ht, if_pos hlt, hx]; rfl⟩
  have low : ∀ {g o : Nat} {v : Value}, w.cell? ⟨g, o, none⟩ = some v → g < w.heap.size := fun {g o v} hv => by
    unfold World.cell? at hv
    rcases Nat.lt_or_ge g w.heap.size with q | q
    · exact q
    · rw [Array.getElem?_eq_none q] at hv; cases hv
  refine ⟨fun b => ((imps ++ outs)[b]?).map fun x => ⟨x.blk, x.off, none⟩, { next := (imps ++ outs).length, t }, ⟨?_, ?_, ?_, Nat.le_refl _⟩, rfl, ?_, hle, ?_⟩
  · intro b loc e
    obtain ⟨x, hx, hlt, rfl, hg⟩ := hr b loc e
    refine ⟨hlt, ?_⟩
    show Dm _ _ _ (t.get b)
    rw [hg]
    cases hc : x.cs with
    | nil => exact .inl rfl
    | cons v l =>
      obtain ⟨v', h1, _⟩ := hall x (List.mem_of_getElem? hx) 0 v (by rw [hc]; rfl)
      exact .inr (low h1)
  · intro b loc o e eo
    obtain ⟨x, hx, hlt, rfl, hg⟩ := hr b loc e
    rw [hg] at eo; cases eo
    refine ⟨rfl, fun i v ev => ?_⟩
    obtain ⟨v', h1, h2⟩ := hall x (List.mem_of_getElem? hx) i v ev
    unfold World.cell? at h1
    simp only at h1
    split at h1
    · rename_i C e' f hC
      exact ⟨C, e', f, v', hC, by simpa using h1, h2.mono hle⟩
    · cases h1
  · intro b b' loc loc' e e' _ hl _
    obtain ⟨x, hx, hlt, rfl, hg⟩ := hr b loc e
    obtain ⟨o, h1, h2, h3⟩ := hl
    have : t.get b = some o := h1
    rw [hg] at this; cases this
    cases h3
  · intro b loc e
    obtain ⟨x, hx, hlt, rfl, hg⟩ := hr b loc e
    exact hlt
  · intro b x hx
    have hlt := get_lt hx
    refine ⟨by simp only [hx, Option.map_some], ?_⟩
    show t.get b = _
    rw [ht, if_pos hlt, hx]; rfl

/-- An inner slice, as it is given: an empty one may have any address. -/
structure GivI {α : Type} (w : World) (v : Value) (f : α → List Value) (l : List α) (x : Imp) : Prop where
  ok : ∀ (i : Nat) u, x.cs[i]? = some u → w.cell? ⟨x.blk, x.off + i, none⟩ = some u ∧ flat1 u = true
  cs : x.cs = l.flatMap f
  v : ((v = .slice none 0 0 ∨ ∃ a', v = .slice (some a') 0 0) ∧ l = []) ∨ ∃ cap, v = .slice (some ⟨x.blk, x.off, none⟩) l.length cap ∧ l.length ≤ cap
theorem givI_of {H : Type} {enc : TypeId × Value → H} {P : Program} {w : World} {base : Nat} {held : Bool} {α : Type} {f : α → List Value} {Q : α → Prop} {k : Nat} {t e : TypeId} {fuel : Nat} {v : Value} {x : DataW H × List MemPlace}
    (ht : P.underlying t = some (.slice e)) (hR : ∀ (fuel : Nat) (cs : List Value) (x : DataW H × List MemPlace), DataW.trod enc P w base (fun _ => true) held fuel e cs = some x → ∃ y : α, cs = f y ∧ Q y) (hc : P.cellsOf e = k) (hk : 0 < k) (hfk : ∀ y, (f y).length = k) (hflat : ∀ y u, u ∈ f y → flat1 u = true)
    (h : DataW.trod enc P w base (fun _ => true) held fuel t [v] = some x) : ∃ (l : List α) (y : Imp), GivI w v f l y := by
  obtain ⟨l, h1, h2, ⟨h3, rfl⟩ | ⟨blk, off, cap, h3, h4, h5⟩⟩ := rows_read ht hR hc hk hfk h
  · exact ⟨[], ⟨0, 0, []⟩, ⟨fun i u e => by simp at e, rfl, .inl ⟨h3, rfl⟩⟩⟩
  · refine ⟨l, ⟨blk, off, l.flatMap f⟩, ⟨fun i u hu => ⟨h5 i u hu, ?_⟩, rfl, .inr ⟨cap, h3, h4⟩⟩⟩
    obtain ⟨y, hy, hu'⟩ := List.mem_flatMap.1 (List.mem_of_getElem? hu)
    exact hflat y u hu'
theorem GivI.rel {α : Type} {w : World} {v : Value} {f : α → List Value} {l : List α} {x : Imp} (g : GivI w v f l x) {r : Ren} {b : Nat} (hr : r b = some ⟨x.blk, x.off, none⟩) :
    ∃ a cap, VR r (.slice a l.length cap) v ∧ (∀ y, a = some ⟨y, 0, none⟩ → y = b) ∧ ∀ H : Hp, b < H.next → H.t.get b = some (.ro x.cs) → Sl H a l.length cap (l.flatMap f) := by
  rcases g.v with ⟨rfl | ⟨a', rfl⟩, rfl⟩ | ⟨cap, rfl, hl⟩
  · exact ⟨none, 0, .nilSlice, fun y e => by (cases e), fun H _ _ => .inl ⟨.inl rfl, rfl, rfl, rfl⟩⟩
  · exact ⟨some ⟨0, 0, some 0⟩, 0, .weird, fun y e => by (cases e), fun H _ _ => .inl ⟨.inr rfl, rfl, rfl, rfl⟩⟩
  · refine ⟨some ⟨b, 0, none⟩, cap, ?_, fun y e => by (cases e; rfl), fun H hb hc => .inr ⟨b, rfl, ⟨hb, by unfold cellsOf; rw [hc, g.cs]⟩, hl⟩⟩
    have := VR.slice (o := 0) (n := l.length) (c := cap) hr rfl hl
    simpa using this
/-- A list of rows that point elsewhere, as it is given. -/
structure GivO {α : Type} (w : World) (v : Value) (f : α → List Value) (l : List α) (x : Imp) : Prop where
  cs : ∀ (i : Nat) u, (l.flatMap f)[i]? = some u → w.cell? ⟨x.blk, x.off + i, none⟩ = some u
  v : ((v = .slice none 0 0 ∨ ∃ a', v = .slice (some a') 0 0) ∧ l = []) ∨ ∃ cap, v = .slice (some ⟨x.blk, x.off, none⟩) l.length cap ∧ l.length ≤ cap
theorem givO_of {w : World} {α : Type} {f : α → List Value} {Q : α → Prop} {v : Value} {l : List α} (h : ((v = .slice none 0 0 ∨ ∃ a', v = .slice (some a') 0 0) ∧ l = []) ∨ ∃ blk off cap, v = .slice (some ⟨blk, off, none⟩) l.length cap ∧ l.length ≤ cap ∧ ∀ (i : Nat) u, (l.flatMap f)[i]? = some u → w.cell? ⟨blk, off + i, none⟩ = some u) : ∃ x : Imp, GivO w v f l x := by
  rcases h with ⟨h1, rfl⟩ | ⟨blk, off, cap, h1, h2, h3⟩
  · exact ⟨⟨0, 0, []⟩, fun i u e => by simp at e, .inl ⟨h1, rfl⟩⟩
  · exact ⟨⟨blk, off, []⟩, h3, .inr ⟨cap, h1, h2⟩⟩
structure RV where
  rv : Value
  l : List Int
  x : Imp
def RV.f (r : RV) : List Value := [r.rv]
def RV.Q (w : World) (r : RV) : Prop := GivI w r.rv (fun n : Int => [iv n]) r.l r.x
end Go.Ax

/-! Machines and what is flat as arguments. -/
namespace Go.Ax
open Go Go.RowKit Go.Proofs Go.ChangeShapes Go.WideShapes Go.Deep

/-- A machine, as it is given. -/
structure MV where
  rv : Value
  l : List Ou
  x : Imp
def MV.f (r : MV) : List Value := [r.rv]
def MV.Q (w : World) (r : MV) : Prop := GivI w r.rv Ou.f r.l r.x
theorem rows_abs {w : World} {imps : List Imp} : ∀ (L : List MV) (pre post : List Imp), imps = pre ++ L.map MV.x ++ post → (∀ b ∈ L, b.Q w) → ∃ bs : List Mc, bs.length = L.length ∧ LR (renOf imps) (mcc bs) (L.flatMap MV.f) ∧
    ∀ (H : Hp) (f : Nat), imps.length ≤ f → (∀ (b : Nat) x, imps[b]? = some x → b < H.next ∧ H.t.get b = some (.ro x.cs)) → ∀ b ∈ bs, Sl H b.ra b.n b.cap (ouc b.l) ∧ b.l.length = b.n ∧ ∀ x, b.ra = some ⟨x, 0, none⟩ → x < f ∧ Fy H x (ouc b.l)
  | [], _, _, _, _ => ⟨[], rfl, .nil, fun _ _ _ _ b hb => by simp at hb⟩
  | b :: L, pre, post, he, hq => by
    obtain ⟨bs, e1, e2, e3⟩ := rows_abs (imps := imps) L (pre ++ [b.x]) post (by rw [he]; simp) (fun x hx => hq x (List.mem_cons_of_mem _ hx))
    have q := hq b (List.mem_cons_self ..)
    have i1 : imps[pre.length]? = some b.x := by rw [he]; simp
    obtain ⟨a1, c1, r1, y1, l1⟩ := GivI.rel q (r := renOf imps) (b := pre.length) (by unfold renOf; rw [i1]; rfl)
    refine ⟨⟨a1, b.l.length, c1, b.l⟩ :: bs, by simp [e1], ?_, fun H f hf hH x hx => ?_⟩
    · show LR (renOf imps) (.slice a1 b.l.length c1 :: mcc bs) (b.rv :: L.flatMap MV.f)
      exact .cons r1 e2
    · simp only [List.mem_cons] at hx
      rcases hx with rfl | hx
      · obtain ⟨b1, d1⟩ := hH _ _ i1
        exact ⟨l1 H b1 d1, rfl, fun x e => by
          have e2 := y1 x e; have := get_lt i1; subst e2
          exact ⟨by omega, b1, .inl (by rw [d1, q.cs]; rfl)⟩⟩
      · exact e3 H f hf hH x hx
/-- Some plain lists, and a list of rows. -/
theorem imports_rows {P : Program} (pre : List Imp) {w : World} {s2 : Value} {L2 : List MV} {x2 : Imp} (g2 : GivO w s2 MV.f L2 x2) (q2 : ∀ b ∈ L2, b.Q w) (h : ∀ x ∈ pre, ∀ (i : Nat) v, x.cs[i]? = some v → w.cell? ⟨x.blk, x.off + i, none⟩ = some v ∧ flat1 v = true) :
    ∃ (r : Ren) (H : Hp) (ra : Option Addr) (rn rcap : Nat) (rs : List Mc), Rel P r w.heap.size H w ∧ (∀ b loc, r b = some loc → b < H.next) ∧ (∀ (b : Nat) x, pre[b]? = some x → b < H.next ∧ r b = some ⟨x.blk, x.off, none⟩ ∧ H.t.get b = some (.ro x.cs)) ∧ Mcs H H.next ra rn rcap rs ∧
      VR r (.slice ra rn rcap) s2 ∧ (rn = 0 ∨ ∃ x, ra = some ⟨x, 0, none⟩ ∧ x < H.next ∧ H.t.get x = some (.ro (mcc rs))) := by
  obtain ⟨rs, r1, r2, r3⟩ := rows_abs (w := w) (imps := pre ++ L2.map MV.x) L2 pre [] (by simp) q2
  obtain ⟨imps, himps⟩ : ∃ imps, imps = pre ++ L2.map MV.x := ⟨_, rfl⟩
  rw [← himps] at r2 r3
  have himp : ∀ x ∈ imps, ∀ (i : Nat) v, x.cs[i]? = some v → w.cell? ⟨x.blk, x.off + i, none⟩ = some v ∧ flat1 v = true := by
    intro x hx
    rw [himps] at hx
    simp only [List.mem_append, List.mem_map] at hx
    rcases hx with hx | ⟨y, hy, rfl⟩
    · exact h x hx
    · exact (q2 y hy).ok
  obtain ⟨r, H, h1, h2, h3, h4, h5⟩ := imports3 (P := P) imps [⟨x2.blk, x2.off, mcc rs⟩] w himp (by
    intro x hx i u hu
    simp only [List.mem_cons, List.not_mem_nil, or_false] at hx
    subst hx
    have hlt := get_lt hu
    have hlt2 : i < (L2.flatMap MV.f).length := by rw [← r2.1]; exact hlt
    have hu2 := List.getElem?_eq_getElem hlt2
    exact ⟨_, g2.cs i _ hu2, r2.2 i u _ hu hu2⟩)
  have hnx : H.next = imps.length + 1 := by rw [h2]; simp
  have hg5 : ∀ (b : Nat) x, imps[b]? = some x → r b = some ⟨x.blk, x.off, none⟩ ∧ H.t.get b = some (.ro x.cs) := fun b x hx => h5 b x (by rw [List.getElem?_append_left (get_lt hx)]; exact hx)
  have hH : ∀ (b : Nat) x, imps[b]? = some x → b < H.next ∧ H.t.get b = some (.ro x.cs) := fun b x hx => ⟨by have := get_lt hx; omega, (hg5 b x hx).2⟩
  obtain ⟨o1, p1⟩ := h5 imps.length ⟨x2.blk, x2.off, mcc rs⟩ (by simp)
  refine ⟨r, H, ?_⟩
  have hlen : L2.length = rs.length := r1.symm
  have rows := r3 H H.next (by omega) hH
  have pres : ∀ (b : Nat) x, pre[b]? = some x → b < H.next ∧ r b = some ⟨x.blk, x.off, none⟩ ∧ H.t.get b = some (.ro x.cs) := fun b x hx => by
    have hx2 : imps[b]? = some x := by rw [himps, List.getElem?_append_left (get_lt hx)]; exact hx
    exact ⟨(hH b x hx2).1, hg5 b x hx2⟩
  rcases g2.v with ⟨rfl | ⟨a', rfl⟩, e⟩ | ⟨cap, rfl, hl⟩
  · have e2 : rs = [] := List.eq_nil_of_length_eq_zero (by rw [r1, e]; rfl)
    subst e2
    exact ⟨none, 0, 0, [], h1, h3, pres, ⟨.inl ⟨.inl rfl, rfl, rfl⟩, rfl, fun r hr => by simp at hr⟩, .nilSlice, .inl rfl⟩
  · have e2 : rs = [] := List.eq_nil_of_length_eq_zero (by rw [r1, e]; rfl)
    subst e2
    exact ⟨some ⟨0, 0, some 0⟩, 0, 0, [], h1, h3, pres, ⟨.inl ⟨.inr rfl, rfl, rfl⟩, rfl, fun r hr => by simp at hr⟩, .weird, .inl rfl⟩
  · have hb : imps.length < H.next := by omega
    refine ⟨some ⟨imps.length, 0, none⟩, rs.length, cap, rs, h1, h3, pres, ⟨.inr ⟨imps.length, 0, mcc rs, rfl, ⟨hb, by unfold cellsOf; rw [p1]⟩, hb, by omega, fun i r hr => by have := mcc_row hr; simpa using this⟩, rfl, rows⟩, ?_, .inr ⟨_, rfl, hb, p1⟩⟩
    have := VR.slice (o := 0) (n := L2.length) (c := cap) o1 rfl hl
    rw [hlen] at this
    simpa [hlen] using this
end Go.Ax


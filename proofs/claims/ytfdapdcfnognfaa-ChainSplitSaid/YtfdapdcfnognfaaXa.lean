import Derived.Test.YtfdapdcfnognfaaAxR
import Derived.Test.YtfdapdcfnognfaaAxW5
set_option linter.all false
namespace Go.Ax
open Go Go.RowKit Go.Proofs

/-- The course of a chain, as its block has it. -/
structure Co where
  bd : Value
  pd : Value
  gt : Value
  wb : Nat
  n : Nat
  cap : Nat
  strict : Bool
  came : Int
  seeped : Int
  river : Int
  taken : Int
def Co.cells (C : Co) : List Value := [C.bd, C.pd, C.gt, .slice (some ⟨C.wb, 0, none⟩) C.n C.cap, .bool C.strict, .int .i64 C.came, .int .i64 C.seeped, .int .i64 C.river, .int .i64 C.taken]
abbrev pt (b : Nat) : Value := .pointer (some ⟨b, 0, none⟩)
abbrev iv (x : Int) : Value := .int .i64 x
abbrev unit : Value := .tuple #[]
def mvW (ws : List Int) (fr to : Nat) (l : Int) : List Int := let u := ws.set fr (ws.getD fr 0 - l); u.set to (u.getD to 0 + l)

theorem move_river {kn : FuncId → Option Bool} {lo : Nat} {H : Hp} {c : Nat} {C : Co} {ws : List Int} {fr : Nat} {l : Int}
    (hc : Cl H c C.cells) (hw : Cl H C.wb (ints ws)) (hne : c ≠ C.wb) (hlc : lo ≤ c) (hlw : lo ≤ C.wb) (hn : ws.length = C.n) (h2 : fr < C.n)
    (b1 : InR (ws.getD fr 0 - l)) (b2 : InR (C.river + l)) :
    ∃ H', FnX Try.prog kn lo 78 [pt c, iv fr, iv (-1), iv l] H unit H' ∧ Cl H' c { C with river := C.river + l }.cells ∧ Cl H' C.wb (ints (ws.set fr (ws.getD fr 0 - l))) ∧ Keep H H' [c, C.wb] := by
  have key := fnX_low (kn := kn) (lo := lo) (H := H) (args := [pt c, iv fr, iv (-1), iv l]) (Q := fun v H' => v = unit ∧ Cl H' c { C with river := C.river + l }.cells ∧ Cl H' C.wb (ints (ws.set fr (ws.getD fr 0 - l))) ∧ Keep H H' [c, C.wb]) Try.func78 B78 N78 Z78 L78 (by simp) ?_
  · obtain ⟨v, H', h, rfl, q⟩ := key; exact ⟨H', h, q⟩
  refine Exists.intro _ (Exists.intro _ (And.intro hc.of (And.intro rfl ?_)))
  refine Exists.intro fr (And.intro rfl (And.intro h2 ?_))
  refine Exists.intro _ (Exists.intro _ (And.intro hw.of (And.intro (by rw [Nat.zero_add, Nat.mul_one]; exact ints_get (by omega)) ?_)))
  refine And.intro b1 ?_
  refine Exists.intro fr (And.intro rfl (And.intro h2 ?_))
  obtain ⟨hwl, ew, lw, hwg⟩ := id hw
  refine Exists.intro _ (Exists.intro _ (Exists.intro _ (And.intro hwg (And.intro hlw (And.intro rfl (And.intro rfl (And.intro (by rw [ints_len]; omega) ?_)))))))
  intro H1 hH1
  rw [Nat.zero_add, Nat.mul_one, ints_set] at hH1
  obtain ⟨k1, n1, hw1⟩ := up_facts hw hH1
  have hc1 := k1.cl hc (by simpa using hne)
  refine And.intro (fun _ => ?_) (fun hb => by cases hb)
  refine Exists.intro _ (Exists.intro _ (And.intro hc1.of (And.intro rfl ?_)))
  refine And.intro b2 ?_
  obtain ⟨hcl, ec, lc, hcg⟩ := id hc1
  refine Exists.intro _ (Exists.intro _ (Exists.intro _ (And.intro hcg (And.intro hlc (And.intro rfl (And.intro rfl (And.intro (by simp [Co.cells]) ?_)))))))
  intro H2 hH2
  obtain ⟨k2, n2, hc2⟩ := up_facts hc1 hH2
  refine And.intro trivial (Exists.intro _ (And.intro rfl ⟨rfl, hc2, k2.cl hw1 (by simp; omega), (k1.mono (by simp)).trans (k2.mono (by simp))⟩))
end Go.Ax
namespace Go.Ax
open Go Go.RowKit Go.Proofs
abbrev sp (a b : Int) : Value := .agg #[iv a, iv b]

section
variable {kn : FuncId → Option Bool} {lo : Nat} {H : Hp}
theorem lseep_ok {v a b : Int} (h1 : 0 ≤ v) (h2 : v ≤ 4398046511104) (h3 : 0 ≤ a) (h4 : a ≤ 1000000) :
    ∃ H', FnX Try.prog kn lo 109 [iv v, sp a b] H (iv (v * a / 1000000)) H' ∧ Keep H H' [] := by
  have hm : 0 ≤ v * a := Int.mul_nonneg h1 h3
  have hm2 : v * a ≤ 4398046511104 * 1000000 := Int.mul_le_mul h2 h4 h3 (by omega)
  have hb : InR (v * a) := ⟨by omega, by omega⟩
  have key := fnX_low (kn := kn) (lo := lo) (H := H) (args := [iv v, sp a b]) (Q := fun u H' => u = iv (v * a / 1000000) ∧ Keep H H' []) Try.func109 B109 N109 Z109 L109 (by simp) ?_
  · obtain ⟨u, H', h, rfl, q⟩ := key; exact ⟨H', h, q⟩
  intro H1 hH1
  obtain ⟨k1, n1, c1⟩ := new_facts hH1
  refine Exists.intro _ (Exists.intro _ (And.intro c1.of (And.intro rfl ?_)))
  refine And.intro hb ?_
  refine And.intro hm (And.intro (by decide) (And.intro hb ?_))
  exact And.intro trivial (Exists.intro _ (And.intro rfl ⟨rfl, k1⟩))
theorem mseep_ok {v a b : Int} (h1 : 0 ≤ v) (h2 : v ≤ 4398046511104) (h3 : 0 ≤ b) (h4 : b ≤ 1000000) :
    ∃ H', FnX Try.prog kn lo 108 [iv v, sp a b] H (iv ((v * b + 1000000 - 1) / 1000000)) H' ∧ Keep H H' [] := by
  have hm : 0 ≤ v * b := Int.mul_nonneg h1 h3
  have hm2 : v * b ≤ 4398046511104 * 1000000 := Int.mul_le_mul h2 h4 h3 (by omega)
  have key := fnX_low (kn := kn) (lo := lo) (H := H) (args := [iv v, sp a b]) (Q := fun u H' => u = iv ((v * b + 1000000 - 1) / 1000000) ∧ Keep H H' []) Try.func108 B108 N108 Z108 L108 (by simp) ?_
  · obtain ⟨u, H', h, rfl, q⟩ := key; exact ⟨H', h, q⟩
  intro H1 hH1
  obtain ⟨k1, n1, c1⟩ := new_facts hH1
  refine Exists.intro _ (Exists.intro _ (And.intro c1.of (And.intro rfl ?_)))
  refine And.intro ⟨by omega, by omega⟩ ?_
  refine And.intro ⟨by omega, by omega⟩ ?_
  refine And.intro ⟨by omega, by omega⟩ ?_
  refine And.intro (by omega) (And.intro (by decide) (And.intro ⟨by omega, by omega⟩ ?_))
  exact And.intro trivial (Exists.intro _ (And.intro rfl ⟨rfl, k1⟩))

abbrev ex (g : Bool) : Value := .agg #[.bool g]
abbrev bdv (g : Bool) : Value := .iface 101 (ex g)
def endV (g : Bool) (a b : Int) : Int := if g = true then b else a
def seepV (g : Bool) (v a b : Int) : Int := if g = true then (v * b + 1000000 - 1) / 1000000 else v * a / 1000000
def stayV (g : Bool) (v a b : Int) : Int := if g = true then v - v * a / 1000000 else v - (v * b + 1000000 - 1) / 1000000

theorem end_ok {g : Bool} {a b : Int} : ∃ H', FnX Try.prog kn lo 105 [ex g, sp a b] H (iv (endV g a b)) H' ∧ Keep H H' [] := by
  have key := fnX_low (kn := kn) (lo := lo) (H := H) (args := [ex g, sp a b]) (Q := fun u H' => u = iv (endV g a b) ∧ Keep H H' []) Try.func105 B105 N105 Z105 L105 (by simp) ?_
  · obtain ⟨u, H', h, rfl, q⟩ := key; exact ⟨H', h, q⟩
  intro H1 hH1
  obtain ⟨k1, n1, c1⟩ := new_facts hH1
  intro H2 hH2
  obtain ⟨k2, n2, c2⟩ := new_facts hH2
  have k := k1.trans k2
  refine Exists.intro _ (Exists.intro _ (And.intro (k2.cl c1 (by simp)).of (And.intro rfl ?_)))
  refine And.intro (fun hg => ?_) (fun hg => ?_)
  · refine Exists.intro _ (Exists.intro _ (And.intro c2.of (And.intro rfl ?_)))
    exact And.intro trivial (Exists.intro _ (And.intro rfl ⟨by subst hg; rfl, k⟩))
  · refine Exists.intro _ (Exists.intro _ (And.intro c2.of (And.intro rfl ?_)))
    exact And.intro trivial (Exists.intro _ (And.intro rfl ⟨by subst hg; rfl, k⟩))
theorem endM (g : Bool) : methodV Try.prog 101 (ex g) "fenberry/chain.end" = some (105, ex g) := by kernel_rfl
theorem seepsM (g : Bool) : methodV Try.prog 101 (ex g) "fenberry/chain.seeps" = some (106, ex g) := by kernel_rfl
theorem staysM (g : Bool) : methodV Try.prog 101 (ex g) "fenberry/chain.stays" = some (107, ex g) := by kernel_rfl

theorem seeps_ok {g : Bool} {v a b : Int} (h1 : 0 ≤ v) (h2 : v ≤ 4398046511104) (h3 : 0 ≤ a) (h4 : a ≤ 1000000) (h5 : 0 ≤ b) (h6 : b ≤ 1000000) : ∃ H', FnX Try.prog kn lo 106 [ex g, iv v, sp a b] H (iv (seepV g v a b)) H' ∧ Keep H H' [] := by
  have key := fnX_low (kn := kn) (lo := lo) (H := H) (args := [ex g, iv v, sp a b]) (Q := fun u H' => u = iv (seepV g v a b) ∧ Keep H H' []) Try.func106 B106 N106 Z106 L106 (by simp) ?_
  · obtain ⟨u, H', h, rfl, q⟩ := key; exact ⟨H', h, q⟩
  intro H1 hH1
  obtain ⟨k1, n1, c1⟩ := new_facts hH1
  intro H2 hH2
  obtain ⟨k2, n2, c2⟩ := new_facts hH2
  have k := k1.trans k2
  refine Exists.intro _ (Exists.intro _ (And.intro (k2.cl c1 (by simp)).of (And.intro rfl ?_)))
  refine And.intro (fun hg => ?_) (fun hg => ?_)
  · refine Exists.intro _ (Exists.intro _ (And.intro c2.of (And.intro rfl ?_)))
    obtain ⟨H3, h3, k3⟩ := mseep_ok (kn := kn) (lo := lo) (H := H2) (a := a) (b := b) h1 h2 h5 h6
    refine Exists.intro _ (Exists.intro _ (And.intro (callX_args h3) ?_))
    exact And.intro trivial (Exists.intro _ (And.intro rfl ⟨by subst hg; rfl, k.trans k3⟩))
  · refine Exists.intro _ (Exists.intro _ (And.intro c2.of (And.intro rfl ?_)))
    obtain ⟨H3, h3, k3⟩ := lseep_ok (kn := kn) (lo := lo) (H := H2) (a := a) (b := b) h1 h2 h3 h4
    refine Exists.intro _ (Exists.intro _ (And.intro (callX_args h3) ?_))
    exact And.intro trivial (Exists.intro _ (And.intro rfl ⟨by subst hg; rfl, k.trans k3⟩))
theorem stays_ok {g : Bool} {v a b : Int} (h1 : 0 ≤ v) (h2 : v ≤ 4398046511104) (h3 : 0 ≤ a) (h4 : a ≤ 1000000) (h5 : 0 ≤ b) (h6 : b ≤ 1000000) : ∃ H', FnX Try.prog kn lo 107 [ex g, iv v, sp a b] H (iv (stayV g v a b)) H' ∧ Keep H H' [] := by
  have key := fnX_low (kn := kn) (lo := lo) (H := H) (args := [ex g, iv v, sp a b]) (Q := fun u H' => u = iv (stayV g v a b) ∧ Keep H H' []) Try.func107 B107 N107 Z107 L107 (by simp) ?_
  · obtain ⟨u, H', h, rfl, q⟩ := key; exact ⟨H', h, q⟩
  have ma : 0 ≤ v * a := Int.mul_nonneg h1 h3
  have mb : 0 ≤ v * b := Int.mul_nonneg h1 h5
  have ma2 : v * a ≤ 4398046511104 * 1000000 := Int.mul_le_mul h2 h4 h3 (by omega)
  have mb2 : v * b ≤ 4398046511104 * 1000000 := Int.mul_le_mul h2 h6 h5 (by omega)
  intro H1 hH1
  obtain ⟨k1, n1, c1⟩ := new_facts hH1
  intro H2 hH2
  obtain ⟨k2, n2, c2⟩ := new_facts hH2
  have k := k1.trans k2
  refine Exists.intro _ (Exists.intro _ (And.intro (k2.cl c1 (by simp)).of (And.intro rfl ?_)))
  refine And.intro (fun hg => ?_) (fun hg => ?_)
  · refine Exists.intro _ (Exists.intro _ (And.intro c2.of (And.intro rfl ?_)))
    obtain ⟨H3, h3, k3⟩ := lseep_ok (kn := kn) (lo := lo) (H := H2) (a := a) (b := b) h1 h2 h3 h4
    refine Exists.intro _ (Exists.intro _ (And.intro (callX_args h3) ?_))
    refine And.intro ⟨by omega, by omega⟩ ?_
    exact And.intro trivial (Exists.intro _ (And.intro rfl ⟨by subst hg; rfl, k.trans k3⟩))
  · refine Exists.intro _ (Exists.intro _ (And.intro c2.of (And.intro rfl ?_)))
    obtain ⟨H3, h3, k3⟩ := mseep_ok (kn := kn) (lo := lo) (H := H2) (a := a) (b := b) h1 h2 h5 h6
    refine Exists.intro _ (Exists.intro _ (And.intro (callX_args h3) ?_))
    refine And.intro ⟨by omega, by omega⟩ ?_
    exact And.intro trivial (Exists.intro _ (And.intro rfl ⟨by subst hg; rfl, k.trans k3⟩))
end
end Go.Ax
namespace Go.Ax
open Go Go.RowKit Go.Proofs

def moveW (ws : List Int) (fr : Nat) (to : Int) (l : Int) : List Int := let u := ws.set fr (ws.getD fr 0 - l); if to = -1 then u else u.set to.toNat (u.getD to.toNat 0 + l)
def moveR (river : Int) (to : Int) (l : Int) : Int := if to = -1 then river + l else river
theorem moveW_len (ws : List Int) (fr : Nat) (to : Int) (l : Int) : (moveW ws fr to l).length = ws.length := by
  unfold moveW; simp only; split <;> simp

section
variable {kn : FuncId → Option Bool} {lo : Nat} {H : Hp}
theorem move_ok {c : Nat} {C : Co} {ws : List Int} {fr : Nat} {to l : Int}
    (hc : Cl H c C.cells) (hw : Cl H C.wb (ints ws)) (hne : c ≠ C.wb) (hlc : lo ≤ c) (hlw : lo ≤ C.wb) (hn : ws.length = C.n) (h2 : fr < C.n) (ht : to = -1 ∨ 0 ≤ to ∧ to < C.n)
    (b1 : InR (ws.getD fr 0 - l)) (b2 : InR (C.river + l)) (b3 : InR ((ws.set fr (ws.getD fr 0 - l)).getD to.toNat 0 + l)) :
    ∃ H', FnX Try.prog kn lo 78 [pt c, iv fr, iv to, iv l] H unit H' ∧ Cl H' c { C with river := moveR C.river to l }.cells ∧ Cl H' C.wb (ints (moveW ws fr to l)) ∧ Keep H H' [c, C.wb] := by
  by_cases hto : to = -1
  · subst hto
    exact move_river hc hw hne hlc hlw hn h2 b1 b2
  obtain ⟨t, rfl⟩ : ∃ t : Nat, to = t := ⟨to.toNat, by omega⟩
  have ht' : t < C.n := by omega
  have e1 : moveR C.river t l = C.river := by unfold moveR; rw [if_neg hto]
  have e2 : moveW ws fr t l = (ws.set fr (ws.getD fr 0 - l)).set t ((ws.set fr (ws.getD fr 0 - l)).getD t 0 + l) := by unfold moveW; simp only; rw [if_neg hto]; rfl
  rw [e1, e2]
  simp only [Int.toNat_natCast] at b3
  have key := fnX_low (kn := kn) (lo := lo) (H := H) (args := [pt c, iv fr, iv t, iv l]) (Q := fun v H' => v = unit ∧ Cl H' c C.cells ∧ Cl H' C.wb (ints ((ws.set fr (ws.getD fr 0 - l)).set t ((ws.set fr (ws.getD fr 0 - l)).getD t 0 + l))) ∧ Keep H H' [c, C.wb]) Try.func78 B78 N78 Z78 L78 (by simp) ?_
  · obtain ⟨v, H', h, rfl, q⟩ := key; exact ⟨H', h, q⟩
  refine Exists.intro _ (Exists.intro _ (And.intro hc.of (And.intro rfl ?_)))
  refine Exists.intro fr (And.intro rfl (And.intro h2 ?_))
  refine Exists.intro _ (Exists.intro _ (And.intro hw.of (And.intro (by rw [Nat.zero_add, Nat.mul_one]; exact ints_get (by omega)) ?_)))
  refine And.intro b1 ?_
  refine Exists.intro fr (And.intro rfl (And.intro h2 ?_))
  obtain ⟨hwl, ew, lw, hwg⟩ := id hw
  refine Exists.intro _ (Exists.intro _ (Exists.intro _ (And.intro hwg (And.intro hlw (And.intro rfl (And.intro rfl (And.intro (by rw [ints_len]; omega) ?_)))))))
  intro H1 hH1
  rw [Nat.zero_add, Nat.mul_one, ints_set] at hH1
  obtain ⟨k1, n1, hw1⟩ := up_facts hw hH1
  have hc1 := k1.cl hc (by simpa using hne)
  generalize hu : ws.set fr (ws.getD fr 0 - l) = u at *
  have hul : u.length = C.n := by rw [← hu]; simpa using hn
  refine And.intro (fun hb => by simp at hb) (fun _ => ?_)
  refine Exists.intro _ (Exists.intro _ (And.intro hc1.of (And.intro rfl ?_)))
  refine Exists.intro t (And.intro rfl (And.intro ht' ?_))
  refine Exists.intro _ (Exists.intro _ (And.intro hw1.of (And.intro (by rw [Nat.zero_add, Nat.mul_one]; exact ints_get (by omega)) ?_)))
  refine And.intro b3 ?_
  refine Exists.intro t (And.intro rfl (And.intro ht' ?_))
  obtain ⟨hwl, ew, lw, hwg⟩ := id hw1
  refine Exists.intro _ (Exists.intro _ (Exists.intro _ (And.intro hwg (And.intro hlw (And.intro rfl (And.intro rfl (And.intro (by rw [ints_len]; omega) ?_)))))))
  intro H2 hH2
  rw [Nat.zero_add, Nat.mul_one, ints_set] at hH2
  obtain ⟨k2, n2, hw2⟩ := up_facts hw1 hH2
  exact And.intro trivial (Exists.intro _ (And.intro rfl ⟨rfl, k2.cl hc1 (by simpa using hne), hw2, (k1.mono (by simp)).trans (k2.mono (by simp))⟩))

/-- A gate. -/
structure Gt where
  fr : Int
  to : Int
  sill : Int
  step : Int
  boards : Int
  most : Int
def Gt.v (g : Gt) : List Value := [iv g.fr, iv g.to, iv g.sill, iv g.step, iv g.boards, iv g.most]
def flowL (ws : List Int) (g : Gt) : Int := min g.most (max 0 (ws.getD g.fr.toNat 0 - (g.sill + g.boards * g.step)))

theorem flow_ok {c : Nat} {C : Co} {ws : List Int} {g : Gt}
    (hc : Cl H c C.cells) (hw : Cl H C.wb (ints ws)) (hne : c ≠ C.wb) (hlc : lo ≤ c) (hlw : lo ≤ C.wb) (hlo : lo ≤ H.next) (hn : ws.length = C.n) (h1 : 0 ≤ g.fr) (h2 : g.fr < C.n) (ht : g.to = -1 ∨ 0 ≤ g.to ∧ g.to < C.n)
    (b0 : InR (g.boards * g.step)) (b01 : InR (g.sill + g.boards * g.step)) (b02 : InR (ws.getD g.fr.toNat 0 - (g.sill + g.boards * g.step)))
    (b1 : InR (ws.getD g.fr.toNat 0 - flowL ws g)) (b2 : InR (C.river + flowL ws g)) (b3 : InR ((ws.set g.fr.toNat (ws.getD g.fr.toNat 0 - flowL ws g)).getD g.to.toNat 0 + flowL ws g)) :
    ∃ H', FnX Try.prog kn lo 76 [pt c, .agg g.v.toArray] H unit H' ∧ Cl H' c { C with river := moveR C.river g.to (flowL ws g) }.cells ∧ Cl H' C.wb (ints (moveW ws g.fr.toNat g.to (flowL ws g))) ∧ Keep H H' [c, C.wb] := by
  have h2' : g.fr.toNat < C.n := by omega
  have key := fnX_low (kn := kn) (lo := lo) (H := H) (args := [pt c, .agg g.v.toArray]) (Q := fun v H' => v = unit ∧ Cl H' c { C with river := moveR C.river g.to (flowL ws g) }.cells ∧ Cl H' C.wb (ints (moveW ws g.fr.toNat g.to (flowL ws g))) ∧ Keep H H' [c, C.wb]) Try.func76 B76 N76 Z76 L76 (by simp) ?_
  · obtain ⟨v, H', h, rfl, q⟩ := key; exact ⟨H', h, q⟩
  intro H1 hH1
  obtain ⟨k1, n1, c1⟩ := new_facts hH1
  have hc1 := k1.cl hc (by simp)
  have hw1 := k1.cl hw (by simp)
  refine Exists.intro _ (Exists.intro _ (And.intro c1.of (And.intro rfl ?_)))
  refine Exists.intro _ (Exists.intro _ (And.intro c1.of (And.intro rfl ?_)))
  refine Exists.intro _ (Exists.intro _ (And.intro c1.of (And.intro rfl ?_)))
  refine And.intro b0 (And.intro b01 ?_)
  refine Exists.intro _ (Exists.intro _ (And.intro c1.of (And.intro rfl (And.intro c1.lt ?_))))
  refine Exists.intro _ (Exists.intro _ (And.intro c1.of (And.intro rfl (And.intro c1.lt ?_))))
  refine Exists.intro _ (Exists.intro _ (And.intro c1.of (And.intro rfl (And.intro c1.lt ?_))))
  refine Exists.intro _ (Exists.intro _ (And.intro hc1.of (And.intro rfl (And.intro hc1.lt ?_))))
  refine Exists.intro _ (Exists.intro _ (And.intro c1.of (And.intro rfl (And.intro c1.lt ?_))))
  refine Exists.intro g.fr.toNat (And.intro (by omega) (And.intro h2' ?_))
  refine Exists.intro _ (Exists.intro _ (And.intro hw1.of (And.intro (by rw [Nat.zero_add, Nat.mul_one]; exact ints_get (by omega)) (And.intro hw1.lt ?_))))
  refine And.intro b02 ?_
  obtain ⟨H2, h2, hc2, hw2, k2⟩ := move_ok (kn := kn) (lo := lo) (l := flowL ws g) hc1 hw1 hne hlc hlw hn h2' ht b1 b2 b3
  rw [show ((g.fr.toNat : Nat) : Int) = g.fr by omega] at h2
  refine Exists.intro _ (Exists.intro _ (And.intro (callX_args h2) ?_))
  refine And.intro (by repeat' first | exact True.intro | exact (fun h => h) | refine And.intro ?_ ?_) ?_
  exact And.intro trivial (Exists.intro _ (And.intro rfl ⟨rfl, hc2, hw2, (k1.mono (by simp)).trans k2⟩))
end
end Go.Ax
namespace Go.Ax
open Go Go.RowKit Go.Proofs

structure Tk where
  pond : Int
  amount : Int
def Tk.v (t : Tk) : List Value := [iv t.pond, iv t.amount]
def takeL (ws : List Int) (t : Tk) : Int := min t.amount (ws.getD t.pond.toNat 0)

section
variable {kn : FuncId → Option Bool} {lo : Nat} {H : Hp}
theorem take_ok {c : Nat} {C : Co} {ws : List Int} {t : Tk} (hs : C.strict = false)
    (hc : Cl H c C.cells) (hw : Cl H C.wb (ints ws)) (hne : c ≠ C.wb) (hlc : lo ≤ c) (hlw : lo ≤ C.wb) (hn : ws.length = C.n) (h1 : 0 ≤ t.pond) (h2 : t.pond < C.n)
    (b1 : InR (ws.getD t.pond.toNat 0 - takeL ws t)) (b2 : InR (C.taken + takeL ws t)) :
    ∃ H', FnX Try.prog kn lo 77 [pt c, .agg t.v.toArray] H unit H' ∧ Cl H' c { C with taken := C.taken + takeL ws t }.cells ∧ Cl H' C.wb (ints (ws.set t.pond.toNat (ws.getD t.pond.toNat 0 - takeL ws t))) ∧ Keep H H' [c, C.wb] := by
  obtain ⟨bd, pd, gt, wb, n, cap, strict, came, seeped, river, taken⟩ := C
  simp only at hs hw hne hlw hn h2 b2 ⊢
  subst hs
  have h2' : t.pond.toNat < n := by omega
  have key := fnX_low (kn := kn) (lo := lo) (H := H) (args := [pt c, .agg t.v.toArray]) (Q := fun v H' => v = unit ∧ Cl H' c (Co.mk bd pd gt wb n cap false came seeped river (taken + takeL ws t)).cells ∧ Cl H' wb (ints (ws.set t.pond.toNat (ws.getD t.pond.toNat 0 - takeL ws t))) ∧ Keep H H' [c, wb]) Try.func77 B77 N77 Z77 L77 (by simp) ?_
  · obtain ⟨v, H', h, rfl, q⟩ := key; exact ⟨H', h, q⟩
  intro H1 hH1
  obtain ⟨k1, n1, c1⟩ := new_facts hH1
  have hc1 := k1.cl hc (by simp)
  have hw1 := k1.cl hw (by simp)
  refine Exists.intro _ (Exists.intro _ (And.intro c1.of (And.intro rfl (And.intro c1.lt ?_))))
  refine Exists.intro _ (Exists.intro _ (And.intro hc1.of (And.intro rfl (And.intro hc1.lt ?_))))
  refine Exists.intro _ (Exists.intro _ (And.intro c1.of (And.intro rfl (And.intro c1.lt ?_))))
  refine Exists.intro t.pond.toNat (And.intro (by omega) (And.intro h2' ?_))
  refine Exists.intro _ (Exists.intro _ (And.intro hw1.of (And.intro (by rw [Nat.zero_add, Nat.mul_one]; exact ints_get (by omega)) (And.intro hw1.lt ?_))))
  refine And.intro (by repeat' first | exact True.intro | exact (fun h => h) | refine And.intro ?_ ?_) ?_
  refine Exists.intro _ (Exists.intro _ (And.intro hc1.of (And.intro rfl ?_)))
  refine And.intro rfl (Exists.intro _ (And.intro rfl ?_))
  refine And.intro (fun h => by cases h) (fun _ => ?_)
  refine Exists.intro _ (Exists.intro _ (And.intro hc1.of (And.intro rfl (And.intro hc1.lt ?_))))
  refine Exists.intro _ (Exists.intro _ (And.intro c1.of (And.intro rfl (And.intro c1.lt ?_))))
  refine Exists.intro t.pond.toNat (And.intro (by omega) (And.intro h2' ?_))
  refine Exists.intro _ (Exists.intro _ (And.intro hw1.of (And.intro (by rw [Nat.zero_add, Nat.mul_one]; exact ints_get (by omega)) (And.intro hw1.lt ?_))))
  refine And.intro b1 ?_
  refine Exists.intro t.pond.toNat (And.intro (by omega) (And.intro h2' ?_))
  obtain ⟨hwl, ew, lw, hwg⟩ := id hw1
  refine Exists.intro _ (Exists.intro _ (Exists.intro _ (And.intro hwg (And.intro hlw (And.intro rfl (And.intro rfl (And.intro (by rw [ints_len]; omega) ?_)))))))
  intro H2 hH2
  rw [Nat.zero_add, Nat.mul_one] at hH2
  obtain ⟨k2, n2, hw2⟩ := up_facts hw1 hH2
  have hc2 := k2.cl hc1 (by simpa using hne)
  refine And.intro (by repeat' first | exact True.intro | exact (fun h => h) | refine And.intro ?_ ?_) ?_
  refine Exists.intro _ (Exists.intro _ (And.intro hc2.of (And.intro rfl ?_)))
  refine And.intro b2 ?_
  obtain ⟨hcl, ec, lc, hcg⟩ := id hc2
  refine Exists.intro _ (Exists.intro _ (Exists.intro _ (And.intro hcg (And.intro hlc (And.intro rfl (And.intro rfl (And.intro (by simp [Co.cells]) ?_)))))))
  intro H3 hH3
  obtain ⟨k3, n3, hc3⟩ := up_facts hc2 hH3
  refine And.intro trivial (Exists.intro _ (And.intro rfl ⟨rfl, hc3, ?_, (k1.mono (by simp)).trans ((k2.mono (by simp)).trans (k3.mono (by simp)))⟩))
  rw [← ints_set]
  exact k3.cl hw2 (by simp; omega)

def firstB : List Int → List Int → Nat → Option Nat
  | [], _, _ => none
  | v :: vs, ms, i => if v < ms.headD 0 then some i else firstB vs ms.tail (i + 1)
/-- firstBelow's answer -/
def fbV (ws ms : List Int) : Value := match firstB ws ms 0 with | some i => .tuple #[iv i, .bool true] | none => .tuple #[iv 0, .bool false]
abbrev slv (b n cap : Nat) : Value := .slice (some ⟨b, 0, none⟩) n cap
theorem firstB_drop (ws ms : List Int) : ∀ i, i < ws.length → firstB (ws.drop i) (ms.drop i) i = if ws.getD i 0 < ms.getD i 0 then some i else firstB (ws.drop (i + 1)) (ms.drop (i + 1)) (i + 1) := by
  intro i hi
  rw [List.drop_eq_getElem_cons hi, firstB]
  have h1 : ws.getD i 0 = ws[i] := by simp [List.getD, hi]
  have h2 : (ms.drop i).headD 0 = ms.getD i 0 := by simp [List.headD_eq_head?_getD, List.head?_drop, List.getD]
  rw [h1, h2, List.tail_drop]
theorem fb_rd {wb mb n cap cap2 : Nat} {ws ms : List Int} (hw : Rd H wb (ints ws)) (hm : Rd H mb (ints ms)) (hn : ws.length = n) (hn2 : ms.length = n) (hb : n < 1000000) :
    ∃ H', FnX Try.prog kn lo 54 [slv wb n cap, slv mb n cap2] H (fbV ws ms) H' ∧ Keep H H' [] := by
  have key := fnX_low (kn := kn) (lo := lo) (H := H) (args := [slv wb n cap, slv mb n cap2]) (Q := fun v H' => v = fbV ws ms ∧ Keep H H' []) Try.func54 B54 N54 Z54 L54 (by simp) ?_
  · obtain ⟨v, H', h, rfl, q⟩ := key; exact ⟨H', h, q⟩
  refine loop_low (fn := Try.f54) E54_1 N54 L54x1 (fun i : Nat => [(8, slv wb n cap), (9, iv n), (10, iv i), (0, slv wb n cap), (1, slv mb n cap2)]) (fun k i H' => i + k = n ∧ H' = H ∧ fbV ws ms = (match firstB (ws.drop i) (ms.drop i) i with | some i => .tuple #[iv i, .bool true] | none => .tuple #[iv 0, .bool false])) n 0 ⟨by omega, rfl, rfl⟩ ⟨rfl, by rw [← hn]; rfl, rfl, rfl, rfl, trivial⟩ ?_
  rintro k i H' ⟨hik, rfl, hv⟩
  refine And.intro (fun hlt => ?_) (fun hge => ?_)
  · have hi : i < n := by simpa using hlt
    refine Exists.intro i (And.intro rfl (And.intro hi ?_))
    refine Exists.intro _ (Exists.intro _ (And.intro hw.of (And.intro (by rw [Nat.zero_add, Nat.mul_one]; exact ints_get (by omega)) ?_)))
    refine Exists.intro i (And.intro rfl (And.intro hi ?_))
    refine Exists.intro _ (Exists.intro _ (And.intro hm.of (And.intro (by rw [Nat.zero_add, Nat.mul_one]; exact ints_get (by omega)) ?_)))
    rw [firstB_drop ws ms i (by omega)] at hv
    refine And.intro (fun hb1 => ?_) (fun hb1 => ?_)
    · rw [if_pos (by simpa using hb1)] at hv
      exact And.intro trivial (Exists.intro _ (And.intro rfl ⟨hv.symm, Keep.refl _ _⟩))
    · rw [if_neg (by simpa using hb1)] at hv
      refine And.intro ⟨by omega, by omega⟩ ?_
      exact ⟨k - 1, i + 1, by omega, ⟨by omega, rfl, hv⟩, rfl, rfl, rfl, rfl, rfl, trivial⟩
  · have hi : ¬ i < n := by simpa using hge
    have e1 : ws.drop i = [] := List.drop_eq_nil_of_le (by omega)
    rw [e1] at hv
    exact And.intro trivial (Exists.intro _ (And.intro rfl ⟨hv.symm, Keep.refl _ _⟩))
theorem fb_ok {wb mb n cap cap2 : Nat} {ws ms : List Int} (hw : Cl H wb (ints ws)) (hm : Cl H mb (ints ms)) (hn : ws.length = n) (hn2 : ms.length = n) (hb : n < 1000000) :
    ∃ H', FnX Try.prog kn lo 54 [slv wb n cap, slv mb n cap2] H (fbV ws ms) H' ∧ Keep H H' [] := fb_rd hw.rd hm.rd hn hn2 hb
end
end Go.Ax
namespace Go.Ax
open Go Go.RowKit Go.Proofs

theorem fill_set {α : Type} {g : α → Int} {l : List α} {i : Nat} {x : α} (h : l[i]? = some x) : ((l.take i).map g ++ List.replicate (l.length - i) 0).set i (g x) = (l.take (i + 1)).map g ++ List.replicate (l.length - (i + 1)) 0 := by
  have hi : i < l.length := by
    rcases Nat.lt_or_ge i l.length with q | q
    · exact q
    · rw [List.getElem?_eq_none q] at h; cases h
  have hx : l[i] = x := by rw [List.getElem?_eq_getElem hi] at h; exact Option.some.inj h
  have e1 : ((l.take i).map g).length = i := by simp; omega
  rw [List.set_append_right _ _ (by omega), e1, Nat.sub_self, show l.length - i = (l.length - (i + 1)) + 1 by omega, List.replicate_succ, List.set_cons_zero, List.take_succ_eq_append_getElem hi, hx]
  simp

/-- Spans, as their slice has them. -/
def spc (ss : List (Int × Int)) : List Value := ss.flatMap fun s => [iv s.1, iv s.2]
theorem spc_row {ss : List (Int × Int)} {i : Nat} {x : Int × Int} (h : ss[i]? = some x) : row 2 (spc ss) (0 + i * 2) = some [iv x.1, iv x.2] := row_flat (f := fun s => [iv s.1, iv s.2]) (fun _ _ => rfl) h
theorem get_some {α : Type} {l : List α} {i : Nat} (h : i < l.length) : ∃ x, l[i]? = some x := ⟨l[i], List.getElem?_eq_getElem h⟩

theorem se33 : sliceElem Try.prog 33 = some (3, 1) := by kernel_rfl
theorem z3 : zeroOf Try.prog 3 = some (.int .i64 0) := by kernel_rfl
theorem i3 : ∃ i, Try.prog.info? 3 = some i ∧ i.bytes ≤ 8 := by
  have h : (Try.prog.info? 3).map (fun i => i.bytes) = some 8 := by kernel_rfl
  cases e : Try.prog.info? 3 with
  | none => rw [e] at h; cases h
  | some i => rw [e] at h; simp at h; exact ⟨i, rfl, by omega⟩
abbrev endF (g : Bool) : Value := .func (.method "fenberry/chain.end") #[bdv g] #[]
def endS (g : Bool) (ss : List (Int × Int)) : List Int := ss.map fun s => endV g s.1 s.2

section
variable {kn : FuncId → Option Bool} {lo : Nat} {H : Hp}
theorem ends_ok {g : Bool} {a : Option Addr} {n cap : Nat} {ss : List (Int × Int)} (hs : Sl H a n cap (spc ss)) (hn : ss.length = n) (hb : n ≤ 1000) (hlo : lo ≤ H.next) :
    ∃ wb H', FnX Try.prog kn lo 52 [endF g, .slice a n cap] H (slv wb n n) H' ∧ Keep H H' [] ∧ H.next ≤ wb ∧ Cl H' wb (ints (endS g ss)) := by
  have key := fnX_low (kn := kn) (lo := lo) (H := H) (args := [endF g, .slice a n cap]) (Q := fun v H' => ∃ wb, v = slv wb n n ∧ Keep H H' [] ∧ H.next ≤ wb ∧ Cl H' wb (ints (endS g ss))) Try.func52 B52 N52 Z52 L52 (by simp) ?_
  · obtain ⟨v, H', h, wb, rfl, q⟩ := key; exact ⟨wb, H', h, q⟩
  obtain ⟨i0, hi0, hby⟩ := i3
  obtain ⟨H1, hH1⟩ : ∃ H1, H.new (.cells (ints (List.replicate n 0)) 3 false) = H1 := ⟨_, rfl⟩
  refine And.intro rfl (Or.inr (And.intro rfl (Exists.intro _ (Exists.intro H1 (Exists.intro _ (And.intro ((heap_makeInts (m := n) se33 z3 hi0 hby rfl rfl (by omega)).trans (by rw [hH1])) (And.intro (fun b e => by cases e) ?_)))))))
  obtain ⟨k1, n1, c1⟩ := new_facts hH1
  refine loop_low (fn := Try.f52) E52_1 N52 L52x1 (fun i : Nat => [(0, endF g), (5, slv H.next n n), (11, .slice a n cap), (12, iv n), (13, iv i)]) (fun k i H' => i + k = n ∧ Keep H H' [] ∧ Cl H' H.next (ints ((ss.take i).map (fun s => endV g s.1 s.2) ++ List.replicate (ss.length - i) 0))) n 0 ⟨by omega, k1, by simpa [hn] using c1⟩ ⟨rfl, rfl, rfl, rfl, rfl, trivial⟩ ?_
  rintro k i H' ⟨hik, hk, hc⟩
  refine And.intro (fun hlt => ?_) (fun hge => ?_)
  · have hi : i < n := by simpa using hlt
    rcases hs with ⟨_, h0, _⟩ | ⟨b, rfl, hr, _⟩
    · omega
    obtain ⟨x, hx⟩ := get_some (l := ss) (i := i) (by omega)
    refine Exists.intro i (And.intro rfl (And.intro hi ?_))
    refine Exists.intro _ (Exists.intro _ (And.intro (hk.rd hr (by simp)).of (And.intro (spc_row hx) ?_)))
    intro H2 hH2
    obtain ⟨k2, n2, c2⟩ := new_facts hH2
    obtain ⟨_, e2, l2, g2⟩ := id c2
    have hkn := hk.1
    refine Exists.intro _ (Exists.intro _ (Exists.intro _ (And.intro g2 (And.intro (by omega) (And.intro rfl (And.intro rfl (And.intro (by simp) ?_)))))))
    intro H3 hH3
    obtain ⟨k3, n3, c3⟩ := up_facts c2 hH3
    refine Exists.intro _ (Exists.intro _ (And.intro c3.of (And.intro rfl ?_)))
    obtain ⟨H4, h4, k4⟩ := end_ok (kn := kn) (lo := lo) (H := H3) (g := g) (a := x.1) (b := x.2)
    refine Exists.intro _ (Exists.intro _ (And.intro (callX_method (endM g) h4) ?_))
    refine Exists.intro i (And.intro rfl (And.intro hi ?_))
    have hlt2 := hc.lt
    have hc4 := k4.cl (k3.cl (k2.cl hc (by simp)) (by simp; omega)) (by simp)
    obtain ⟨_, e4, l4, g4⟩ := id hc4
    refine Exists.intro _ (Exists.intro _ (Exists.intro _ (And.intro g4 (And.intro (by omega) (And.intro rfl (And.intro rfl (And.intro (by rw [ints_len]; simp; omega) ?_)))))))
    intro H5 hH5
    rw [Nat.zero_add, Nat.mul_one, ints_set, fill_set (g := fun s : Int × Int => endV g s.1 s.2) hx] at hH5
    obtain ⟨k5, n5, c5⟩ := up_facts hc4 hH5
    refine And.intro ⟨by omega, by omega⟩ ?_
    refine ⟨k - 1, i + 1, by omega, ⟨by omega, ?_, c5⟩, rfl, rfl, rfl, rfl, rfl, trivial⟩
    exact (((hk.trans k2).new k3 (by simp; omega)).trans k4).new k5 (by simp)
  · have hi : ¬ i < n := by simpa using hge
    have e1 : ss.take i = ss := List.take_of_length_le (by omega)
    have e2 : ss.length - i = 0 := by omega
    rw [e1, e2] at hc
    exact And.intro trivial (Exists.intro _ (And.intro rfl ⟨H.next, rfl, hk, Nat.le_refl _, by simpa [endS] using hc⟩))
end
end Go.Ax
namespace Go.Ax
open Go Go.RowKit Go.Proofs

def gtc (gs : List Gt) : List Value := gs.flatMap Gt.v
theorem Gt.v_len (g : Gt) : g.v.length = 6 := rfl
theorem gtc_len (gs : List Gt) : (gtc gs).length = gs.length * 6 := flat_len fun g _ => g.v_len
theorem se23 : sliceElem Try.prog 23 = some (81, 6) := by kernel_rfl
theorem z81 : zeroOf Try.prog 81 = some (.agg #[.int .i64 0, .int .i64 0, .int .i64 0, .int .i64 0, .int .i64 0, .int .i64 0]) := by kernel_rfl
theorem u23 : Try.prog.underlying 23 = some (.slice 81) := by kernel_rfl

/-- A slice of the call's own. -/
def Own (lo : Nat) (H : Hp) (a : Option Addr) (n : Nat) (cs : List Value) : Prop := (a = none ∧ n = 0 ∧ cs = []) ∨ ∃ b, a = some ⟨b, 0, none⟩ ∧ lo ≤ b ∧ Cl H b cs
theorem Own.mono {lo lo' : Nat} {H : Hp} {a : Option Addr} {n : Nat} {cs : List Value} (h : Own lo H a n cs) (k : lo' ≤ lo) : Own lo' H a n cs := h.imp id fun ⟨b, e, l, c⟩ => ⟨b, e, Nat.le_trans k l, c⟩

section
variable {kn : FuncId → Option Bool} {lo : Nat} {H : Hp}
theorem clone_ok {a : Option Addr} {n cap : Nat} {gs : List Gt} (hs : Sl H a n cap (gtc gs)) (hn : gs.length = n) (hb : n ≤ 1000) :
    ∃ a' cap' H', FnX Try.prog kn lo 75 [.slice a n cap] H (.slice a' n cap') H' ∧ Keep H H' [] ∧ Own H.next H' a' n (gtc gs) := by
  have key := fnX_low (kn := kn) (lo := lo) (H := H) (args := [.slice a n cap]) (Q := fun v H' => ∃ a' cap', v = .slice a' n cap' ∧ Keep H H' [] ∧ Own H.next H' a' n (gtc gs)) Try.func75 B75 N75 Z75 L75 (by simp) ?_
  · obtain ⟨v, H', h, a', cap', rfl, q⟩ := key; exact ⟨a', cap', H', h, q⟩
  have hs' := hs
  rcases hs with ⟨rfl | rfl, rfl, rfl, hcs⟩ | ⟨b, rfl, hr, hcap⟩
  · refine And.intro rfl (Exists.intro (.bool true) (And.intro (by kernel_rfl) ?_))
    refine And.intro (fun _ => ?_) (fun h => by cases h)
    exact And.intro trivial (Exists.intro _ (And.intro rfl ⟨none, 0, rfl, Keep.refl _ _, .inl ⟨rfl, rfl, hcs⟩⟩))
  · have hcs := hcs
    refine And.intro rfl (Exists.intro (.bool false) (And.intro (by kernel_rfl) ?_))
    refine And.intro (fun h => by cases h) (fun _ => ?_)
    obtain ⟨H1, hH1⟩ : ∃ H1, H.new (.cells [] 81 false) = H1 := ⟨_, rfl⟩
    refine And.intro rfl (Or.inr (And.intro rfl (Exists.intro _ (Exists.intro H1 (Exists.intro _ (And.intro ((heap_build0 se23 z81).trans (by rw [hH1])) (And.intro (fun b e => by cases e) ?_)))))))
    obtain ⟨k1, n1, c1⟩ := new_facts hH1
    have hs1 := k1.sl0 hs'
    refine And.intro rfl (Or.inr (And.intro rfl (Exists.intro _ (Exists.intro H1 (Exists.intro _ (And.intro (heap_append_none se23 u23 rfl rfl hs1 (by rw [gtc_len]; omega)) (And.intro (fun b e => by cases e) ?_)))))))
    refine And.intro trivial (Exists.intro _ (And.intro rfl ⟨_, _, rfl, k1, .inr ⟨H.next, rfl, Nat.le_refl _, ?_⟩⟩))
    rw [hcs]; exact c1
  · refine And.intro rfl (Exists.intro (.bool false) (And.intro (by kernel_rfl) ?_))
    refine And.intro (fun h => by cases h) (fun _ => ?_)
    obtain ⟨H1, hH1⟩ : ∃ H1, H.new (.cells [] 81 false) = H1 := ⟨_, rfl⟩
    refine And.intro rfl (Or.inr (And.intro rfl (Exists.intro _ (Exists.intro H1 (Exists.intro _ (And.intro ((heap_build0 se23 z81).trans (by rw [hH1])) (And.intro (fun b e => by cases e) ?_)))))))
    obtain ⟨k1, n1, c1⟩ := new_facts hH1
    have hg0 : H1.t.get H.next = some (.cells [] 81 false) := by
      rw [← hH1]
      show (H.t.set H.next _).get H.next = _
      rw [Tr.get_set, if_pos rfl]
    have hs1 := k1.sl0 hs'
    rcases Nat.eq_zero_or_pos n with h0 | h0
    · subst h0
      refine And.intro rfl (Or.inr (And.intro rfl (Exists.intro _ (Exists.intro H1 (Exists.intro _ (And.intro (heap_append_none se23 u23 rfl rfl hs1 (by rw [gtc_len]; omega)) (And.intro (fun b e => by cases e) ?_)))))))
      refine And.intro trivial (Exists.intro _ (And.intro rfl ⟨_, _, rfl, k1, .inr ⟨H.next, rfl, Nat.le_refl _, ?_⟩⟩))
      have : gtc gs = [] := List.eq_nil_of_length_eq_zero (by rw [gtc_len]; omega)
      rw [this]; exact c1
    · obtain ⟨H2, hH2⟩ : ∃ H2, H1.new (.cells (gtc gs) 81 true) = H2 := ⟨_, rfl⟩
      refine And.intro rfl (Or.inr (And.intro rfl (Exists.intro _ (Exists.intro H2 (Exists.intro _ (And.intro ((heap_append_empty se23 u23 hg0 rfl rfl hs1 (by rw [gtc_len]; omega) (by omega) h0).trans (by rw [hH2])) (And.intro (fun b e => by cases e) ?_)))))))
      obtain ⟨k2, n2, c2⟩ := new_facts hH2
      exact And.intro trivial (Exists.intro _ (And.intro rfl ⟨_, _, rfl, k1.trans k2, .inr ⟨H1.next, rfl, by omega, c2⟩⟩))

/-- The course at its start. -/
theorem start_ok {g : Bool} {pa : Option Addr} {pn pcap : Nat} {ga wa : Option Addr} {gn gcap wn wcap : Nat} {gs : List Gt} {ss : List (Int × Int)} (hg : Sl H ga gn gcap (gtc gs)) (hgn : gs.length = gn) (hgb : gn ≤ 1000) (hw : Sl H wa wn wcap (spc ss)) (hwn : ss.length = wn) (hwb : wn ≤ 1000) :
    ∃ c wb ga' gcap' H', FnX Try.prog kn lo 51 [.agg #[.slice pa pn pcap, .slice ga gn gcap], .slice wa wn wcap, bdv g] H (pt c) H' ∧ Keep H H' [] ∧ H.next ≤ c ∧ H.next ≤ wb ∧ c ≠ wb ∧
      Cl H' c (Co.mk (bdv g) (.slice pa pn pcap) (.slice ga' gn gcap') wb wn wn false 0 0 0 0).cells ∧ Cl H' wb (ints (endS g ss)) ∧ Own H.next H' ga' gn (gtc gs) ∧ ga' ≠ some ⟨c, 0, none⟩ ∧ ga' ≠ some ⟨wb, 0, none⟩ := by
  have key := fnX_low (kn := kn) (lo := lo) (H := H) (args := [.agg #[.slice pa pn pcap, .slice ga gn gcap], .slice wa wn wcap, bdv g]) (Q := fun v H' => ∃ c wb ga' gcap', v = pt c ∧ Keep H H' [] ∧ H.next ≤ c ∧ H.next ≤ wb ∧ c ≠ wb ∧
      Cl H' c (Co.mk (bdv g) (.slice pa pn pcap) (.slice ga' gn gcap') wb wn wn false 0 0 0 0).cells ∧ Cl H' wb (ints (endS g ss)) ∧ Own H.next H' ga' gn (gtc gs) ∧ ga' ≠ some ⟨c, 0, none⟩ ∧ ga' ≠ some ⟨wb, 0, none⟩) Try.func51 B51 N51 Z51 L51 (by simp) ?_
  · obtain ⟨v, H', h, c, wb, ga', gcap', rfl, q⟩ := key; exact ⟨c, wb, ga', gcap', H', h, q⟩
  intro H1 hH1
  obtain ⟨k1, n1, c1⟩ := new_facts hH1
  refine Exists.intro _ (Exists.intro _ (And.intro c1.of (And.intro rfl (And.intro c1.lt ?_))))
  refine Exists.intro _ (Exists.intro _ (And.intro c1.of (And.intro rfl (And.intro c1.lt ?_))))
  obtain ⟨ga', gcap', H2, h2, k2, o2⟩ := clone_ok (kn := kn) (lo := H1.next) (k1.sl0 hg) hgn hgb
  refine Exists.intro _ (Exists.intro _ (And.intro (callX_args h2) ?_))
  refine And.intro rfl (Exists.intro _ (And.intro rfl ?_))
  obtain ⟨wb, H3, h3, k3, hwb3, c3⟩ := ends_ok (kn := kn) (lo := H2.next) (H := H2) (g := g) (k2.sl0 (k1.sl0 hw)) hwn hwb (Nat.le_refl _)
  refine Exists.intro _ (Exists.intro _ (And.intro (callX_args h3) ?_))
  refine And.intro rfl (Exists.intro (.agg #[bdv g, .slice pa pn pcap, .slice ga' gn gcap', slv wb wn wn, .bool false, iv 0, iv 0, iv 0, iv 0]) (And.intro (by kernel_rfl) ?_))
  intro H4 hH4
  obtain ⟨k4, n4, c4⟩ := new_facts hH4
  refine And.intro trivial ?_
  have hn12 : H.next ≤ H1.next := k1.1
  have hn23 := k2.1
  have hn34 := k3.1
  have hk : Keep H H4 [] := k1.trans (k2.trans (k3.trans k4))
  have hwl := c3.lt
  refine And.intro trivial (Exists.intro _ (And.intro rfl ⟨H3.next, wb, ga', gcap', rfl, hk, by omega, by omega, by omega, c4, k4.cl c3 (by simp), ?_, ?_, ?_⟩))
  · rcases o2 with o2 | ⟨b, e, hb1, hb2⟩
    · exact .inl o2
    · exact .inr ⟨b, e, by omega, k4.cl (k3.cl hb2 (by simp)) (by simp)⟩
  · rcases o2 with ⟨e, _⟩ | ⟨b, e, hb1, hb2⟩
    · rw [e]; simp
    · rw [e]; have := hb2.lt; simp; omega
  · rcases o2 with ⟨e, _⟩ | ⟨b, e, hb1, hb2⟩
    · rw [e]; simp
    · rw [e]; have := hb2.lt; simp; omega
end
end Go.Ax
namespace Go.Ax
open Go Go.RowKit Go.Proofs

structure Bd where
  gate : Int
  boards : Int
def Bd.v (b : Bd) : List Value := [iv b.gate, iv b.boards]
structure Pd where
  full : Int
  lo : Int
  hi : Int
  spill : Int
def Pd.v (p : Pd) : List Value := [iv p.full, iv p.lo, iv p.hi, iv p.spill]
structure St where
  ws : List Int
  came : Int
  seeped : Int
  river : Int
  taken : Int
def bdc (l : List Bd) : List Value := l.flatMap Bd.v
def pdc (l : List Pd) : List Value := l.flatMap Pd.v
def tkc (l : List Tk) : List Value := l.flatMap Tk.v

def gt0 : Gt := ⟨0, 0, 0, 0, 0, 0⟩
def boardS (gs : List Gt) (b : Bd) : List Gt := gs.set b.gate.toNat { gs.getD b.gate.toNat gt0 with boards := b.boards }
def comeS (s : St) (p : Int × Nat) : St := { s with ws := s.ws.set p.2 (s.ws.getD p.2 0 + p.1), came := s.came + p.1 }
def flowS (s : St) (g : Gt) : St := { s with ws := moveW s.ws g.fr.toNat g.to (flowL s.ws g), river := moveR s.river g.to (flowL s.ws g) }
def takeS (s : St) (t : Tk) : St := { s with ws := s.ws.set t.pond.toNat (s.ws.getD t.pond.toNat 0 - takeL s.ws t), taken := s.taken + takeL s.ws t }
def seepS (g : Bool) (s : St) (p : Pd × Nat) : St := { s with ws := s.ws.set p.2 (stayV g (s.ws.getD p.2 0) p.1.lo p.1.hi), seeped := s.seeped + seepV g (s.ws.getD p.2 0) p.1.lo p.1.hi }
def spillL (s : St) (p : Pd × Nat) : Int := max 0 (s.ws.getD p.2 0 - p.1.full)
def spillS (s : St) (p : Pd × Nat) : St := { s with ws := moveW s.ws p.2 p.1.spill (spillL s p), river := moveR s.river p.1.spill (spillL s p) }

/-- What stays as it is while an hour passes. -/
structure PX where
  c : Nat
  hb : Nat
  wb : Nat
  n : Nat
  g : Bool
  pa : Option Addr
  pn : Nat
  pcap : Nat
  ga : Option Addr
  gn : Nat
  gcap : Nat
  ba : Option Addr
  bn : Nat
  bcap : Nat
  ca : Option Addr
  cn : Nat
  ccap : Nat
  ta : Option Addr
  tn : Nat
  tcap : Nat
  ponds : List Pd
  bs : List Bd
  cs : List (Int × Int)
  ts : List Tk
  strict : Bool := false
def PX.co (X : PX) (s : St) : Co := ⟨bdv X.g, .slice X.pa X.pn X.pcap, .slice X.ga X.gn X.gcap, X.wb, X.n, X.n, X.strict, s.came, s.seeped, s.river, s.taken⟩
def PX.hour (X : PX) : List Value := [.slice X.ba X.bn X.bcap, .slice X.ca X.cn X.ccap, .slice X.ta X.tn X.tcap]
def gl : Option Addr → List Nat
  | some a => [a.block]
  | none => []
/-- The blocks that an hour writes. -/
def PX.W (X : PX) : List Nat := X.c :: X.wb :: gl X.ga
def Off (W : List Nat) (a : Option Addr) : Prop := ∀ b, a = some ⟨b, 0, none⟩ → b ∉ W
structure PX.Ok (X : PX) (lo : Nat) : Prop where
  ne : X.c ≠ X.wb
  gc : X.c ∉ gl X.ga
  gw : X.wb ∉ gl X.ga
  hb : X.hb ∉ X.W
  lc : lo ≤ X.c
  lw : lo ≤ X.wb
  op : Off X.W X.pa
  ob : Off X.W X.ba
  oc : Off X.W X.ca
  ot : Off X.W X.ta
  lp : X.ponds.length = X.pn
  lb : X.bs.length = X.bn
  lcs : X.cs.length = X.cn
  lt : X.ts.length = X.tn
  nn : X.n ≤ 1000
  np : X.pn ≤ 1000
  ng : X.gn ≤ 1000
  nb : X.bn ≤ 1000
  nc : X.cn ≤ 1000
  nt : X.tn ≤ 1000
structure PX.At (X : PX) (lo : Nat) (H : Hp) (gs : List Gt) (s : St) : Prop where
  hc : Cl H X.c (X.co s).cells
  hh : Rd H X.hb X.hour
  hw : Cl H X.wb (ints s.ws)
  hg : Own lo H X.ga X.gn (gtc gs)
  hp : Sl H X.pa X.pn X.pcap (pdc X.ponds)
  hbs : Sl H X.ba X.bn X.bcap (bdc X.bs)
  hcs : Sl H X.ca X.cn X.ccap (spc X.cs)
  hts : Sl H X.ta X.tn X.tcap (tkc X.ts)
  lg : gs.length = X.gn
  lws : s.ws.length = X.n

theorem Own.keep {lo : Nat} {H H1 : Hp} {a : Option Addr} {n : Nat} {cs : List Value} {l : List Nat} (h : Own lo H a n cs) (k : Keep H H1 l) (hl : ∀ b, a = some ⟨b, 0, none⟩ → b ∉ l) : Own lo H1 a n cs :=
  h.imp id fun ⟨b, e, x, c⟩ => ⟨b, e, x, k.cl c (hl b e)⟩
theorem mem_gl {a : Option Addr} {b : Nat} (h : a = some ⟨b, 0, none⟩) : gl a = [b] := by rw [h]; rfl

section
variable {X : PX} {lo : Nat} {H H1 : Hp} {gs : List Gt} {s : St}
theorem PX.At.keep0 (h : X.At lo H gs s) (k : Keep H H1 []) : X.At lo H1 gs s :=
  ⟨k.cl h.hc (by simp), k.rd h.hh (by simp), k.cl h.hw (by simp), h.hg.keep k (fun _ _ => by simp), k.sl0 h.hp, k.sl0 h.hbs, k.sl0 h.hcs, k.sl0 h.hts, h.lg, h.lws⟩
/-- the course and its water have changed -/
theorem PX.At.step (h : X.At lo H gs s) (o : X.Ok lo) {s' : St} (k : Keep H H1 [X.c, X.wb]) (hc : Cl H1 X.c (X.co s').cells) (hw : Cl H1 X.wb (ints s'.ws)) (hl : s'.ws.length = X.n) : X.At lo H1 gs s' := by
  have sub : ∀ b, b ∉ X.W → b ∉ [X.c, X.wb] := fun b q r => q (by simp [PX.W] at r ⊢; omega)
  refine ⟨hc, k.rd h.hh (sub _ o.hb), hw, h.hg.keep k (fun b e => ?_), k.sl h.hp fun b e => sub _ (o.op b e), k.sl h.hbs fun b e => sub _ (o.ob b e), k.sl h.hcs fun b e => sub _ (o.oc b e), k.sl h.hts fun b e => sub _ (o.ot b e), h.lg, hl⟩
  have h1 := o.gc; have h2 := o.gw
  rw [mem_gl e] at h1 h2
  simp at h1 h2 ⊢; omega
/-- the gates have changed -/
theorem PX.At.gates (h : X.At lo H gs s) (o : X.Ok lo) {gs' : List Gt} (k : Keep H H1 (gl X.ga)) (hg : Own lo H1 X.ga X.gn (gtc gs')) (hl : gs'.length = X.gn) : X.At lo H1 gs' s := by
  have sub : ∀ b, b ∉ X.W → b ∉ gl X.ga := fun b q r => q (by simp [PX.W]; exact .inr (.inr r))
  exact ⟨k.cl h.hc o.gc, k.rd h.hh (sub _ o.hb), k.cl h.hw o.gw, hg, k.sl h.hp fun b e => sub _ (o.op b e), k.sl h.hbs fun b e => sub _ (o.ob b e), k.sl h.hcs fun b e => sub _ (o.oc b e), k.sl h.hts fun b e => sub _ (o.ot b e), hl, h.lws⟩
end

theorem take_step {α β : Type} {f : β → α → β} {l : List α} {i : Nat} {x : α} {b : β} (h : l[i]? = some x) : (l.take (i + 1)).foldl f b = f ((l.take i).foldl f b) x := by
  have hi : i < l.length := by
    rcases Nat.lt_or_ge i l.length with q | q
    · exact q
    · rw [List.getElem?_eq_none q] at h; cases h
  rw [List.take_succ_eq_append_getElem hi, List.foldl_append]
  rw [List.getElem?_eq_getElem hi] at h
  cases h; rfl

section
variable {kn : FuncId → Option Bool} {lo : Nat} {X : PX}
theorem pass_boards (o : X.Ok lo) {H : Hp} {gs : List Gt} {s : St} {S : Rg} {K : Exit → Rg → Hp → Prop} (h : X.At lo H gs s) (hlo : lo ≤ H.next)
    (hv : ∀ b ∈ X.bs, 0 ≤ b.gate ∧ b.gate < X.gn)
    (hS : Subs [(0, pt X.c), (3, pt X.hb), (18, .slice X.ba X.bn X.bcap), (19, iv X.bn), (20, iv 0)] S)
    (hK : ∀ H1, X.At lo H1 (X.bs.foldl boardS gs) s → Keep H H1 X.W → K (.exit 0) [(21, .bool (decide ((X.bn : Int) < X.bn))), (0, pt X.c), (3, pt X.hb), (18, .slice X.ba X.bn X.bcap), (19, iv X.bn), (20, iv X.bn)] H1) :
    Tri Try.prog kn lo 167 false (at_ Try.f53 [1, 0, 1, 0]) S H K := by
  refine loop_low (fn := Try.f53) E53_1 N53 L53x1 (fun i : Nat => [(0, pt X.c), (3, pt X.hb), (18, .slice X.ba X.bn X.bcap), (19, iv X.bn), (20, iv i)])
    (fun k i H1 => i + k = X.bn ∧ X.At lo H1 ((X.bs.take i).foldl boardS gs) s ∧ Keep H H1 X.W) X.bn 0 ⟨by omega, by simpa using h, Keep.refl _ _⟩ hS ?_
  rintro k i H1 ⟨hik, ha, hk⟩
  have := o.nb
  refine And.intro (fun hlt => ?_) (fun hge => ?_)
  · have hi : i < X.bn := by simpa using hlt
    have hba := ha.hbs
    rcases hba with ⟨_, h0, _⟩ | ⟨bb, eba, hr, _⟩
    · omega
    obtain ⟨x, hx⟩ := get_some (l := X.bs) (i := i) (by rw [o.lb]; omega)
    obtain ⟨v1, v2⟩ := hv x (List.mem_of_getElem? hx)
    generalize hgs : (X.bs.take i).foldl boardS gs = gs1 at *
    rw [eba]
    refine Exists.intro i (And.intro rfl (And.intro hi ?_))
    refine Exists.intro _ (Exists.intro _ (And.intro hr.of (And.intro (row_flat (f := Bd.v) (fun _ _ => rfl) hx) ?_)))
    intro H2 hH2
    obtain ⟨k2, n2, c2⟩ := new_facts hH2
    obtain ⟨_, e2, l2, g2⟩ := id c2
    have hkn := hk.1
    refine Exists.intro _ (Exists.intro _ (Exists.intro _ (And.intro g2 (And.intro (by omega) (And.intro rfl (And.intro rfl (And.intro (by simp) ?_)))))))
    intro H3 hH3
    obtain ⟨k3, n3, c3⟩ := up_facts c2 hH3
    have k13 : Keep H1 H3 [] := k2.new k3 (by simp)
    have ha3 := ha.keep0 k13
    refine Exists.intro _ (Exists.intro _ (And.intro ha3.hc.of (And.intro rfl (And.intro ha3.hc.lt ?_))))
    refine Exists.intro _ (Exists.intro _ (And.intro c3.of (And.intro rfl (And.intro c3.lt ?_))))
    refine Exists.intro _ (Exists.intro _ (And.intro c3.of (And.intro rfl (And.intro c3.lt ?_))))
    have hg3 := ha3.hg
    have hgn : (gs1[x.gate.toNat]?) = some (gs1.getD x.gate.toNat gt0) := by
      have hl : x.gate.toNat < gs1.length := by rw [ha.lg]; omega
      simp [List.getD, hl]
    rcases hg3 with ⟨_, h0, _⟩ | ⟨gb, ega, hgl, hgc⟩
    · omega
    rw [show (X.co s).gt = .slice (some ⟨gb, 0, none⟩) X.gn X.gcap by show Value.slice X.ga _ _ = _; rw [ega]]
    refine Exists.intro x.gate.toNat (And.intro (by omega) (And.intro (by omega) ?_))
    obtain ⟨_, eg, lg, gg⟩ := id hgc
    refine Exists.intro _ (Exists.intro _ (Exists.intro _ (And.intro gg (And.intro hgl (And.intro rfl (And.intro rfl (And.intro (by rw [gtc_len, ha.lg]; omega) ?_)))))))
    intro H4 hH4
    rw [gtc, flat_set (f := Gt.v) (fun _ _ => rfl) (k := 4) (y := { gs1.getD x.gate.toNat gt0 with boards := x.boards }) hgn (by decide) rfl] at hH4
    obtain ⟨k4, n4, c4⟩ := up_facts hgc hH4
    refine And.intro (by repeat' first | exact True.intro | exact (fun h => h) | refine And.intro ?_ ?_) ?_
    refine And.intro ⟨by omega, by omega⟩ ?_
    have hW : ∀ b, b ∈ [gb] → b ∈ X.W := fun b q => by simp [PX.W, mem_gl ega] at q ⊢; exact .inr (.inr q)
    have hat : X.At lo H4 (boardS gs1 x) s := ha3.gates o (by rw [mem_gl ega]; exact k4) (.inr ⟨gb, ega, hgl, c4⟩) (by simp [boardS, ha.lg])
    refine ⟨k - 1, i + 1, by omega, ⟨by omega, ?_, ?_⟩, rfl, rfl, rfl, rfl, rfl, trivial⟩
    · rw [take_step hx, hgs]; exact hat
    · exact (hk.trans (k13.mono (by simp))).trans (k4.mono hW)
  · have hi : ¬ i < X.bn := by simpa using hge
    have hin : i = X.bn := by omega
    subst hin
    rw [List.take_of_length_le (by rw [o.lb]; omega)] at ha
    exact hK H1 ha hk
end
end Go.Ax
namespace Go.Ax
open Go Go.RowKit Go.Proofs

def ComeOk (s : St) (p : Int × Nat) : Prop := InR (s.ws.getD p.2 0 + p.1) ∧ InR (s.came + p.1)
def FlowOk (s : St) (g : Gt) : Prop := InR (g.boards * g.step) ∧ InR (g.sill + g.boards * g.step) ∧ InR (s.ws.getD g.fr.toNat 0 - (g.sill + g.boards * g.step)) ∧
  InR (s.ws.getD g.fr.toNat 0 - flowL s.ws g) ∧ InR (s.river + flowL s.ws g) ∧ InR ((s.ws.set g.fr.toNat (s.ws.getD g.fr.toNat 0 - flowL s.ws g)).getD g.to.toNat 0 + flowL s.ws g)
def TakeOk (s : St) (t : Tk) : Prop := InR (s.ws.getD t.pond.toNat 0 - takeL s.ws t) ∧ InR (s.taken + takeL s.ws t)

theorem zip_get {l : List Int} {i : Nat} {x : Int} (h : l[i]? = some x) : l.zipIdx[i]? = some (x, i) := by simp [h]
theorem getD_of {l : List Int} {i : Nat} {x : Int} (h : l[i]? = some x) : l.getD i 0 = x := by simp [List.getD, h]

section
variable {kn : FuncId → Option Bool} {lo : Nat} {X : PX}
theorem pass_comes (o : X.Ok lo) {H : Hp} {gs : List Gt} {s : St} {S : Rg} {K : Exit → Rg → Hp → Prop} {cb : Nat} {ls : List Int} (h : X.At lo H gs s) (hlo : lo ≤ H.next)
    (hcb : Cl H cb (ints ls)) (hoff : cb ∉ X.W) (hls : ls.length = X.cn) (hcn : X.cn ≤ X.n)
    (hv : ∀ i x, ls.zipIdx[i]? = some x → ComeOk ((ls.zipIdx.take i).foldl comeS s) x)
    (hS : Subs [(0, pt X.c), (3, pt X.hb), (43, slv cb X.cn X.cn), (44, iv X.cn), (45, iv 0)] S)
    (hK : ∀ H1, X.At lo H1 gs (ls.zipIdx.foldl comeS s) → Keep H H1 X.W → K (.exit 2) [(46, .bool (decide ((X.cn : Int) < X.cn))), (0, pt X.c), (3, pt X.hb), (43, slv cb X.cn X.cn), (44, iv X.cn), (45, iv X.cn)] H1) :
    Tri Try.prog kn lo 167 false (at_ Try.f53 [1, 1, 0, 1, 0]) S H K := by
  refine loop_low (fn := Try.f53) E53_2 N53 L53x2 (fun i : Nat => [(0, pt X.c), (3, pt X.hb), (43, slv cb X.cn X.cn), (44, iv X.cn), (45, iv i)])
    (fun k i H1 => i + k = X.cn ∧ X.At lo H1 gs ((ls.zipIdx.take i).foldl comeS s) ∧ Cl H1 cb (ints ls) ∧ Keep H H1 X.W) X.cn 0 ⟨by omega, by simpa using h, hcb, Keep.refl _ _⟩ hS ?_
  rintro k i H1 ⟨hik, ha, hc, hk⟩
  have := o.nc
  refine And.intro (fun hlt => ?_) (fun hge => ?_)
  · have hi : i < X.cn := by simpa using hlt
    obtain ⟨x, hx⟩ := get_some (l := ls) (i := i) (by omega)
    have hz := zip_get hx
    obtain ⟨b1, b2⟩ := hv i _ hz
    generalize hs1 : (ls.zipIdx.take i).foldl comeS s = s1 at *
    simp only at b1 b2
    have hlw := ha.lws
    refine Exists.intro i (And.intro rfl (And.intro hi ?_))
    refine Exists.intro _ (Exists.intro (iv x) (And.intro hc.of (And.intro (by rw [Nat.zero_add, Nat.mul_one, ints_get (by omega), getD_of hx]) ?_)))
    refine Exists.intro _ (Exists.intro _ (And.intro ha.hc.of (And.intro rfl ?_)))
    refine Exists.intro i (And.intro rfl (And.intro (show i < X.n by omega) ?_))
    refine Exists.intro _ (Exists.intro _ (And.intro ha.hw.of (And.intro (by rw [Nat.zero_add, Nat.mul_one]; exact ints_get (by omega)) ?_)))
    refine And.intro b1 ?_
    refine Exists.intro i (And.intro rfl (And.intro (show i < X.n by omega) ?_))
    obtain ⟨_, e1, l1, g1⟩ := id ha.hw
    refine Exists.intro _ (Exists.intro _ (Exists.intro _ (And.intro g1 (And.intro o.lw (And.intro rfl (And.intro rfl (And.intro (by rw [ints_len]; omega) ?_)))))))
    intro H2 hH2
    rw [Nat.zero_add, Nat.mul_one, ints_set] at hH2
    obtain ⟨k2, n2, c2⟩ := up_facts ha.hw hH2
    have hc2 := k2.cl ha.hc (by simpa using o.ne)
    refine Exists.intro _ (Exists.intro _ (And.intro hc2.of (And.intro rfl ?_)))
    refine And.intro b2 ?_
    obtain ⟨_, e3, l3, g3⟩ := id hc2
    refine Exists.intro _ (Exists.intro _ (Exists.intro _ (And.intro g3 (And.intro o.lc (And.intro rfl (And.intro rfl (And.intro (by simp [Co.cells]) ?_)))))))
    intro H3 hH3
    obtain ⟨k3, n3, c3⟩ := up_facts hc2 hH3
    refine And.intro ⟨by omega, by omega⟩ ?_
    have kk : Keep H1 H3 [X.c, X.wb] := (k2.mono (by simp)).trans (k3.mono (by simp))
    have hat : X.At lo H3 gs (comeS s1 (x, i)) := ha.step o kk c3 (k3.cl c2 (by simpa using o.ne.symm)) (by simp [comeS, hlw])
    refine ⟨k - 1, i + 1, by omega, ⟨by omega, ?_, ?_, ?_⟩, rfl, rfl, rfl, rfl, rfl, trivial⟩
    · rw [take_step hz, hs1]; exact hat
    · exact kk.cl hc fun q => hoff (by simp [PX.W] at q ⊢; omega)
    · exact hk.trans (kk.mono fun b q => by simp [PX.W] at q ⊢; omega)
  · have hi : ¬ i < X.cn := by simpa using hge
    have hin : i = X.cn := by omega
    subst hin
    rw [List.take_of_length_le (by simp; omega)] at ha
    exact hK H1 ha hk

theorem pass_gates (o : X.Ok lo) {H : Hp} {gs : List Gt} {s : St} {S : Rg} {K : Exit → Rg → Hp → Prop} (h : X.At lo H gs s) (hlo : lo ≤ H.next)
    (hv : ∀ g ∈ gs, 0 ≤ g.fr ∧ g.fr < X.n ∧ (g.to = -1 ∨ 0 ≤ g.to ∧ g.to < X.n))
    (hv2 : ∀ i g, gs[i]? = some g → FlowOk ((gs.take i).foldl flowS s) g)
    (hS : Subs [(0, pt X.c), (3, pt X.hb), (72, .slice X.ga X.gn X.gcap), (73, iv X.gn), (74, iv 0)] S)
    (hK : ∀ H1, X.At lo H1 gs (gs.foldl flowS s) → Keep H H1 X.W → K (.exit 4) [(75, .bool (decide ((X.gn : Int) < X.gn))), (0, pt X.c), (3, pt X.hb), (72, .slice X.ga X.gn X.gcap), (73, iv X.gn), (74, iv X.gn)] H1) :
    Tri Try.prog kn lo 167 false (at_ Try.f53 [1, 1, 1, 0, 1, 0]) S H K := by
  refine loop_low (fn := Try.f53) E53_3 N53 L53x3 (fun i : Nat => [(0, pt X.c), (3, pt X.hb), (72, .slice X.ga X.gn X.gcap), (73, iv X.gn), (74, iv i)])
    (fun k i H1 => i + k = X.gn ∧ X.At lo H1 gs ((gs.take i).foldl flowS s) ∧ Keep H H1 X.W) X.gn 0 ⟨by omega, by simpa using h, Keep.refl _ _⟩ hS ?_
  rintro k i H1 ⟨hik, ha, hk⟩
  have := o.ng
  have hlg := ha.lg
  refine And.intro (fun hlt => ?_) (fun hge => ?_)
  · have hi : i < X.gn := by simpa using hlt
    have hga := ha.hg
    rcases hga with ⟨_, h0, _⟩ | ⟨gb, ega, hgl, hgc⟩
    · omega
    obtain ⟨x, hx⟩ := get_some (l := gs) (i := i) (by omega)
    obtain ⟨v1, v2, v3⟩ := hv x (List.mem_of_getElem? hx)
    obtain ⟨b0, b01, b02, b1, b2, b3⟩ := hv2 i x hx
    generalize hs1 : (gs.take i).foldl flowS s = s1 at *
    have hlw := ha.lws
    rw [ega]
    refine Exists.intro i (And.intro rfl (And.intro hi ?_))
    refine Exists.intro _ (Exists.intro _ (And.intro hgc.of (And.intro (row_flat (f := Gt.v) (fun _ _ => rfl) hx) ?_)))
    intro H2 hH2
    obtain ⟨k2, n2, c2⟩ := new_facts hH2
    obtain ⟨_, e2, l2, g2⟩ := id c2
    have hkn := hk.1
    refine Exists.intro _ (Exists.intro _ (Exists.intro _ (And.intro g2 (And.intro (by omega) (And.intro rfl (And.intro rfl (And.intro (by simp) ?_)))))))
    intro H3 hH3
    obtain ⟨k3, n3, c3⟩ := up_facts c2 hH3
    have k13 : Keep H1 H3 [] := k2.new k3 (by simp)
    have ha3 := ha.keep0 k13
    refine Exists.intro _ (Exists.intro _ (And.intro c3.of (And.intro (show row 6 _ _ = some x.v from rfl) ?_)))
    have hn13 := k13.1
    obtain ⟨H4, h4, hc4, hw4, k4⟩ := flow_ok (kn := kn) (lo := lo) (C := X.co s1) ha3.hc ha3.hw o.ne o.lc o.lw (by omega) hlw v1 v2 v3 b0 b01 b02 b1 b2 b3
    refine Exists.intro _ (Exists.intro _ (And.intro (callX_args h4) ?_))
    refine And.intro ⟨by omega, by omega⟩ ?_
    have hat : X.At lo H4 gs (flowS s1 x) := ha3.step o k4 hc4 hw4 (by simp [flowS, moveW_len, hlw])
    refine ⟨k - 1, i + 1, by omega, ⟨by omega, ?_, ?_⟩, rfl, rfl, rfl, rfl, rfl, trivial⟩
    · rw [take_step hx, hs1]; exact hat
    · exact (hk.trans (k13.mono (by simp))).trans (k4.mono fun b q => by simp [PX.W, PX.co] at q ⊢; omega)
  · have hi : ¬ i < X.gn := by simpa using hge
    have hin : i = X.gn := by omega
    subst hin
    rw [List.take_of_length_le (by omega)] at ha
    exact hK H1 ha hk

theorem pass_takes (o : X.Ok lo) (hst : X.strict = false) {H : Hp} {gs : List Gt} {s : St} {S : Rg} {K : Exit → Rg → Hp → Prop} (h : X.At lo H gs s) (hlo : lo ≤ H.next)
    (hv : ∀ t ∈ X.ts, 0 ≤ t.pond ∧ t.pond < X.n)
    (hv2 : ∀ i t, X.ts[i]? = some t → TakeOk ((X.ts.take i).foldl takeS s) t)
    (hS : Subs [(0, pt X.c), (3, pt X.hb), (83, .slice X.ta X.tn X.tcap), (84, iv X.tn), (85, iv 0)] S)
    (hK : ∀ H1, X.At lo H1 gs (X.ts.foldl takeS s) → Keep H H1 X.W → K (.exit 6) [(86, .bool (decide ((X.tn : Int) < X.tn))), (0, pt X.c), (3, pt X.hb), (83, .slice X.ta X.tn X.tcap), (84, iv X.tn), (85, iv X.tn)] H1) :
    Tri Try.prog kn lo 167 false (at_ Try.f53 [1, 1, 1, 1, 0, 1, 0]) S H K := by
  refine loop_low (fn := Try.f53) E53_4 N53 L53x4 (fun i : Nat => [(0, pt X.c), (3, pt X.hb), (83, .slice X.ta X.tn X.tcap), (84, iv X.tn), (85, iv i)])
    (fun k i H1 => i + k = X.tn ∧ X.At lo H1 gs ((X.ts.take i).foldl takeS s) ∧ Keep H H1 X.W) X.tn 0 ⟨by omega, by simpa using h, Keep.refl _ _⟩ hS ?_
  rintro k i H1 ⟨hik, ha, hk⟩
  have := o.nt
  have hlt2 := o.lt
  refine And.intro (fun hlt => ?_) (fun hge => ?_)
  · have hi : i < X.tn := by simpa using hlt
    have hta := ha.hts
    rcases hta with ⟨_, h0, _⟩ | ⟨tb, eta, htc, _⟩
    · omega
    obtain ⟨x, hx⟩ := get_some (l := X.ts) (i := i) (by omega)
    obtain ⟨v1, v2⟩ := hv x (List.mem_of_getElem? hx)
    obtain ⟨b1, b2⟩ := hv2 i x hx
    generalize hs1 : (X.ts.take i).foldl takeS s = s1 at *
    have hlw := ha.lws
    rw [eta]
    refine Exists.intro i (And.intro rfl (And.intro hi ?_))
    refine Exists.intro _ (Exists.intro _ (And.intro htc.of (And.intro (row_flat (f := Tk.v) (fun _ _ => rfl) hx) ?_)))
    intro H2 hH2
    obtain ⟨k2, n2, c2⟩ := new_facts hH2
    obtain ⟨_, e2, l2, g2⟩ := id c2
    have hkn := hk.1
    refine Exists.intro _ (Exists.intro _ (Exists.intro _ (And.intro g2 (And.intro (by omega) (And.intro rfl (And.intro rfl (And.intro (by simp) ?_)))))))
    intro H3 hH3
    obtain ⟨k3, n3, c3⟩ := up_facts c2 hH3
    have k13 : Keep H1 H3 [] := k2.new k3 (by simp)
    have ha3 := ha.keep0 k13
    refine Exists.intro _ (Exists.intro _ (And.intro c3.of (And.intro (show row 2 _ _ = some x.v from rfl) ?_)))
    have hn13 := k13.1
    obtain ⟨H4, h4, hc4, hw4, k4⟩ := take_ok (kn := kn) (lo := lo) (C := X.co s1) (t := x) hst ha3.hc ha3.hw o.ne o.lc o.lw hlw v1 v2 b1 b2
    refine Exists.intro _ (Exists.intro _ (And.intro (callX_args h4) ?_))
    refine And.intro ⟨by omega, by omega⟩ ?_
    have hat : X.At lo H4 gs (takeS s1 x) := ha3.step o k4 hc4 hw4 (by simp [takeS, hlw])
    refine ⟨k - 1, i + 1, by omega, ⟨by omega, ?_, ?_⟩, rfl, rfl, rfl, rfl, rfl, trivial⟩
    · rw [take_step hx, hs1]; exact hat
    · exact (hk.trans (k13.mono (by simp))).trans (k4.mono fun b q => by simp [PX.W, PX.co] at q ⊢; omega)
  · have hi : ¬ i < X.tn := by simpa using hge
    have hin : i = X.tn := by omega
    subst hin
    rw [List.take_of_length_le (by omega)] at ha
    exact hK H1 ha hk
end
end Go.Ax
namespace Go.Ax
open Go Go.RowKit Go.Proofs

def SeepOk (g : Bool) (s : St) (p : Pd × Nat) : Prop := 0 ≤ s.ws.getD p.2 0 ∧ s.ws.getD p.2 0 ≤ 4398046511104 ∧ 0 ≤ p.1.lo ∧ p.1.lo ≤ 1000000 ∧ 0 ≤ p.1.hi ∧ p.1.hi ≤ 1000000 ∧ InR (s.seeped + seepV g (s.ws.getD p.2 0) p.1.lo p.1.hi)
def SpillOk (s : St) (p : Pd × Nat) : Prop := InR (s.ws.getD p.2 0 - p.1.full) ∧ InR (s.ws.getD p.2 0 - spillL s p) ∧ InR (s.river + spillL s p) ∧ InR ((s.ws.set p.2 (s.ws.getD p.2 0 - spillL s p)).getD p.1.spill.toNat 0 + spillL s p)
theorem zip_getP {l : List Pd} {i : Nat} {x : Pd} (h : l[i]? = some x) : l.zipIdx[i]? = some (x, i) := by simp [h]

section
variable {kn : FuncId → Option Bool} {lo : Nat} {X : PX}
theorem pass_seeps (o : X.Ok lo) {H : Hp} {gs : List Gt} {s : St} {S : Rg} {K : Exit → Rg → Hp → Prop} (h : X.At lo H gs s) (hlo : lo ≤ H.next) (hpn : X.pn ≤ X.n)
    (hv : ∀ i p, X.ponds.zipIdx[i]? = some p → SeepOk X.g ((X.ponds.zipIdx.take i).foldl (seepS X.g) s) p)
    (hS : Subs [(0, pt X.c), (96, .slice X.pa X.pn X.pcap), (97, iv X.pn), (98, iv 0)] S)
    (hK : ∀ H1, X.At lo H1 gs (X.ponds.zipIdx.foldl (seepS X.g) s) → Keep H H1 X.W → K (.exit 8) [(99, .bool (decide ((X.pn : Int) < X.pn))), (0, pt X.c), (96, .slice X.pa X.pn X.pcap), (97, iv X.pn), (98, iv X.pn)] H1) :
    Tri Try.prog kn lo 167 false (at_ Try.f53 [1, 1, 1, 1, 1, 0, 1, 0]) S H K := by
  refine loop_low (fn := Try.f53) E53_5 N53 L53x5 (fun i : Nat => [(0, pt X.c), (96, .slice X.pa X.pn X.pcap), (97, iv X.pn), (98, iv i)])
    (fun k i H1 => i + k = X.pn ∧ X.At lo H1 gs ((X.ponds.zipIdx.take i).foldl (seepS X.g) s) ∧ Keep H H1 X.W) X.pn 0 ⟨by omega, by simpa using h, Keep.refl _ _⟩ hS ?_
  rintro k i H1 ⟨hik, ha, hk⟩
  have := o.np
  have hlp := o.lp
  refine And.intro (fun hlt => ?_) (fun hge => ?_)
  · have hi : i < X.pn := by simpa using hlt
    have hin : i < X.n := by omega
    have hpa := ha.hp
    rcases hpa with ⟨_, h0, _⟩ | ⟨pb, epa, hpc, _⟩
    · omega
    obtain ⟨x, hx⟩ := get_some (l := X.ponds) (i := i) (by omega)
    have hz := zip_getP hx
    obtain ⟨a1, a2, a3, a4, a5, a6, a7⟩ := hv i _ hz
    generalize hs1 : (X.ponds.zipIdx.take i).foldl (seepS X.g) s = s1 at *
    simp only at a1 a2 a3 a4 a5 a6 a7
    have hlw := ha.lws
    rw [epa]
    refine Exists.intro i (And.intro rfl (And.intro hi ?_))
    refine Exists.intro _ (Exists.intro _ (And.intro hpc.of (And.intro (row_flat (f := Pd.v) (fun _ _ => rfl) hx) ?_)))
    intro H2 hH2
    obtain ⟨k2, n2, c2⟩ := new_facts hH2
    obtain ⟨_, e2, l2, g2⟩ := id c2
    have hkn := hk.1
    refine Exists.intro _ (Exists.intro _ (Exists.intro _ (And.intro g2 (And.intro (by omega) (And.intro rfl (And.intro rfl (And.intro (by simp) ?_)))))))
    intro H3 hH3
    obtain ⟨k3, n3, c3⟩ := up_facts c2 hH3
    have k13 : Keep H1 H3 [] := k2.new k3 (by simp)
    have ha3 := ha.keep0 k13
    have hn13 := k13.1
    refine Exists.intro _ (Exists.intro _ (And.intro ha3.hc.of (And.intro rfl ?_)))
    refine Exists.intro i (And.intro rfl (And.intro hin ?_))
    refine Exists.intro _ (Exists.intro (iv (s1.ws.getD i 0)) (And.intro ha3.hw.of (And.intro (by rw [Nat.zero_add, Nat.mul_one]; exact ints_get (by omega)) ?_)))
    -- what stays
    refine Exists.intro _ (Exists.intro _ (And.intro ha3.hc.of (And.intro rfl (And.intro ha3.hc.lt ?_))))
    refine Exists.intro _ (Exists.intro _ (And.intro ha3.hc.of (And.intro rfl (And.intro ha3.hc.lt ?_))))
    refine Exists.intro _ (Exists.intro _ (And.intro c3.of (And.intro (show row 2 [iv x.full, iv x.lo, iv x.hi, iv x.spill] _ = some [iv x.lo, iv x.hi] from rfl) (And.intro c3.lt ?_))))
    obtain ⟨H4, h4, k4⟩ := stays_ok (kn := kn) (lo := H3.next) (H := H3) (g := X.g) a1 a2 a3 a4 a5 a6
    refine Exists.intro _ (Exists.intro _ (And.intro (callX_method (staysM X.g) h4) ?_))
    refine Exists.intro i (And.intro rfl (And.intro hin ?_))
    have ha4 := ha3.keep0 k4
    obtain ⟨_, e5, l5, g5⟩ := id ha4.hw
    refine Exists.intro _ (Exists.intro _ (Exists.intro _ (And.intro g5 (And.intro o.lw (And.intro rfl (And.intro rfl (And.intro (by rw [ints_len]; omega) ?_)))))))
    intro H5 hH5
    rw [Nat.zero_add, Nat.mul_one, ints_set] at hH5
    obtain ⟨k5, n5, c5⟩ := up_facts ha4.hw hH5
    have hc5 := k5.cl ha4.hc (by simpa using o.ne)
    refine And.intro (by repeat' first | exact True.intro | exact (fun h => h) | refine And.intro ?_ ?_) ?_
    -- what seeps
    refine Exists.intro _ (Exists.intro _ (And.intro hc5.of (And.intro rfl (And.intro hc5.lt ?_))))
    refine Exists.intro _ (Exists.intro _ (And.intro hc5.of (And.intro rfl (And.intro hc5.lt ?_))))
    have hlt5 := ha.hw.lt
    have c35 := k5.cl (k4.cl c3 (by simp)) (by simp; omega)
    refine Exists.intro _ (Exists.intro _ (And.intro c35.of (And.intro (show row 2 [iv x.full, iv x.lo, iv x.hi, iv x.spill] _ = some [iv x.lo, iv x.hi] from rfl) (And.intro c35.lt ?_))))
    obtain ⟨H6, h6, k6⟩ := seeps_ok (kn := kn) (lo := H5.next) (H := H5) (g := X.g) a1 a2 a3 a4 a5 a6
    refine Exists.intro _ (Exists.intro _ (And.intro (callX_method (seepsM X.g) h6) ?_))
    refine And.intro a7 ?_
    have hc6 := k6.cl hc5 (by simp)
    obtain ⟨_, e7, l7, g7⟩ := id hc6
    refine Exists.intro _ (Exists.intro _ (Exists.intro _ (And.intro g7 (And.intro o.lc (And.intro rfl (And.intro rfl (And.intro (by simp [Co.cells]) ?_)))))))
    intro H7 hH7
    obtain ⟨k7, n7, c7⟩ := up_facts hc6 hH7
    refine And.intro (by repeat' first | exact True.intro | exact (fun h => h) | refine And.intro ?_ ?_) ?_
    refine And.intro ⟨by omega, by omega⟩ ?_
    have kk : Keep H4 H7 [X.c, X.wb] := (k5.mono (by simp)).trans ((k6.mono (by simp)).trans (k7.mono (by simp)))
    have hat : X.At lo H7 gs (seepS X.g s1 (x, i)) := ha4.step o kk c7 (k7.cl (k6.cl c5 (by simp)) (by simpa using o.ne.symm)) (by simp [seepS, hlw])
    refine ⟨k - 1, i + 1, by omega, ⟨by omega, ?_, ?_⟩, rfl, rfl, rfl, rfl, trivial⟩
    · rw [take_step hz, hs1]; exact hat
    · exact ((hk.trans (k13.mono (by simp))).trans (k4.mono (by simp))).trans (kk.mono fun b q => by simp [PX.W] at q ⊢; omega)
  · have hi : ¬ i < X.pn := by simpa using hge
    have hin : i = X.pn := by omega
    subst hin
    rw [List.take_of_length_le (by simp; omega)] at ha
    exact hK H1 ha hk

theorem pass_spills (o : X.Ok lo) {H : Hp} {gs : List Gt} {s : St} {S : Rg} {K : Exit → Rg → Hp → Prop} (h : X.At lo H gs s) (hlo : lo ≤ H.next) (hpn : X.pn ≤ X.n)
    (hv : ∀ p ∈ X.ponds, p.spill = -1 ∨ 0 ≤ p.spill ∧ p.spill < X.n)
    (hv2 : ∀ i p, X.ponds.zipIdx[i]? = some p → SpillOk ((X.ponds.zipIdx.take i).foldl spillS s) p)
    (hS : Subs [(0, pt X.c), (143, .slice X.pa X.pn X.pcap), (144, iv X.pn), (145, iv 0)] S)
    (hK : ∀ H1, X.At lo H1 gs (X.ponds.zipIdx.foldl spillS s) → Keep H H1 X.W → K (.exit 10) [(146, .bool (decide ((X.pn : Int) < X.pn))), (0, pt X.c), (143, .slice X.pa X.pn X.pcap), (144, iv X.pn), (145, iv X.pn)] H1) :
    Tri Try.prog kn lo 167 false (at_ Try.f53 [1, 1, 1, 1, 1, 1, 1, 0]) S H K := by
  refine loop_low (fn := Try.f53) E53_6 N53 L53x6 (fun i : Nat => [(0, pt X.c), (143, .slice X.pa X.pn X.pcap), (144, iv X.pn), (145, iv i)])
    (fun k i H1 => i + k = X.pn ∧ X.At lo H1 gs ((X.ponds.zipIdx.take i).foldl spillS s) ∧ Keep H H1 X.W) X.pn 0 ⟨by omega, by simpa using h, Keep.refl _ _⟩ hS ?_
  rintro k i H1 ⟨hik, ha, hk⟩
  have := o.np
  have hlp := o.lp
  refine And.intro (fun hlt => ?_) (fun hge => ?_)
  · have hi : i < X.pn := by simpa using hlt
    have hin : i < X.n := by omega
    have hpa := ha.hp
    rcases hpa with ⟨_, h0, _⟩ | ⟨pb, epa, hpc, _⟩
    · omega
    obtain ⟨x, hx⟩ := get_some (l := X.ponds) (i := i) (by omega)
    have hz := zip_getP hx
    have v3 := hv x (List.mem_of_getElem? hx)
    obtain ⟨b0, b1, b2, b3⟩ := hv2 i _ hz
    generalize hs1 : (X.ponds.zipIdx.take i).foldl spillS s = s1 at *
    simp only at b0 b1 b2 b3
    have hlw := ha.lws
    rw [epa]
    refine Exists.intro i (And.intro rfl (And.intro hi ?_))
    refine Exists.intro _ (Exists.intro _ (And.intro hpc.of (And.intro (row_flat (f := Pd.v) (fun _ _ => rfl) hx) ?_)))
    intro H2 hH2
    obtain ⟨k2, n2, c2⟩ := new_facts hH2
    obtain ⟨_, e2, l2, g2⟩ := id c2
    have hkn := hk.1
    refine Exists.intro _ (Exists.intro _ (Exists.intro _ (And.intro g2 (And.intro (by omega) (And.intro rfl (And.intro rfl (And.intro (by simp) ?_)))))))
    intro H3 hH3
    obtain ⟨k3, n3, c3⟩ := up_facts c2 hH3
    have k13 : Keep H1 H3 [] := k2.new k3 (by simp)
    have ha3 := ha.keep0 k13
    have hn13 := k13.1
    refine Exists.intro _ (Exists.intro _ (And.intro c3.of (And.intro rfl (And.intro c3.lt ?_))))
    refine Exists.intro _ (Exists.intro _ (And.intro ha3.hc.of (And.intro rfl (And.intro ha3.hc.lt ?_))))
    refine Exists.intro i (And.intro rfl (And.intro hin ?_))
    refine Exists.intro _ (Exists.intro (iv (s1.ws.getD i 0)) (And.intro ha3.hw.of (And.intro (by rw [Nat.zero_add, Nat.mul_one]; exact ints_get (by omega)) (And.intro ha3.hw.lt ?_))))
    refine Exists.intro _ (Exists.intro _ (And.intro c3.of (And.intro rfl (And.intro c3.lt ?_))))
    refine And.intro b0 ?_
    obtain ⟨H4, h4, hc4, hw4, k4⟩ := move_ok (kn := kn) (lo := lo) (C := X.co s1) (fr := i) (to := x.spill) (l := spillL s1 (x, i)) ha3.hc ha3.hw o.ne o.lc o.lw hlw hin v3 b1 b2 b3
    refine Exists.intro _ (Exists.intro _ (And.intro (callX_args h4) ?_))
    refine And.intro (by repeat' first | exact True.intro | exact (fun h => h) | refine And.intro ?_ ?_) ?_
    refine And.intro ⟨by omega, by omega⟩ ?_
    have hat : X.At lo H4 gs (spillS s1 (x, i)) := ha3.step o k4 hc4 hw4 (by simp [spillS, moveW_len, hlw])
    refine ⟨k - 1, i + 1, by omega, ⟨by omega, ?_, ?_⟩, rfl, rfl, rfl, rfl, trivial⟩
    · rw [take_step hz, hs1]; exact hat
    · exact (hk.trans (k13.mono (by simp))).trans (k4.mono fun b q => by simp [PX.W, PX.co] at q ⊢; omega)
  · have hi : ¬ i < X.pn := by simpa using hge
    have hin : i = X.pn := by omega
    subst hin
    rw [List.take_of_length_le (by simp; omega)] at ha
    exact hK H1 ha hk
end
end Go.Ax
namespace Go.Ax
open Go Go.RowKit Go.Proofs

structure PX.At0 (X : PX) (lo : Nat) (H : Hp) (gs : List Gt) (s : St) : Prop where
  hc : Cl H X.c (X.co s).cells
  hw : Cl H X.wb (ints s.ws)
  hg : Own lo H X.ga X.gn (gtc gs)
  hp : Sl H X.pa X.pn X.pcap (pdc X.ponds)
  hbs : Sl H X.ba X.bn X.bcap (bdc X.bs)
  hcs : Sl H X.ca X.cn X.ccap (spc X.cs)
  hts : Sl H X.ta X.tn X.tcap (tkc X.ts)
  lg : gs.length = X.gn
  lws : s.ws.length = X.n
theorem PX.At0.at {X : PX} {lo : Nat} {H H1 : Hp} {gs : List Gt} {s : St} (h : X.At0 lo H gs s) (k : Keep H H1 []) (hh : Rd H1 X.hb X.hour) : X.At lo H1 gs s :=
  ⟨k.cl h.hc (by simp), hh, k.cl h.hw (by simp), h.hg.keep k (fun _ _ => by simp), k.sl0 h.hp, k.sl0 h.hbs, k.sl0 h.hcs, k.sl0 h.hts, h.lg, h.lws⟩
theorem PX.At.at0 {X : PX} {lo : Nat} {H : Hp} {gs : List Gt} {s : St} (h : X.At lo H gs s) : X.At0 lo H gs s := ⟨h.hc, h.hw, h.hg, h.hp, h.hbs, h.hcs, h.hts, h.lg, h.lws⟩

/-- The hour, step by step. -/
def comesS (X : PX) (s : St) : St := (endS X.g X.cs).zipIdx.foldl comeS s
def gatesS (gs : List Gt) (s : St) : St := gs.foldl flowS s
def takesS (X : PX) (s : St) : St := X.ts.foldl takeS s
def seepsS (X : PX) (s : St) : St := X.ponds.zipIdx.foldl (seepS X.g) s
def spillsS (X : PX) (s : St) : St := X.ponds.zipIdx.foldl spillS s
def boardsS (X : PX) (gs : List Gt) : List Gt := X.bs.foldl boardS gs
/-- What makes an hour safe: places are there, and no number grows too great. -/
structure PX.Safe (X : PX) (gs : List Gt) (s : St) : Prop where
  vb : ∀ b ∈ X.bs, 0 ≤ b.gate ∧ b.gate < X.gn
  vg : ∀ g ∈ boardsS X gs, 0 ≤ g.fr ∧ g.fr < X.n ∧ (g.to = -1 ∨ 0 ≤ g.to ∧ g.to < X.n)
  vt : ∀ t ∈ X.ts, 0 ≤ t.pond ∧ t.pond < X.n
  vp : ∀ p ∈ X.ponds, p.spill = -1 ∨ 0 ≤ p.spill ∧ p.spill < X.n
  cn : X.cn ≤ X.n
  pn : X.pn ≤ X.n
  s1 : ∀ i x, (endS X.g X.cs).zipIdx[i]? = some x → ComeOk (((endS X.g X.cs).zipIdx.take i).foldl comeS s) x
  s2 : ∀ i g, (boardsS X gs)[i]? = some g → FlowOk (((boardsS X gs).take i).foldl flowS (comesS X s)) g
  s3 : ∀ i t, X.ts[i]? = some t → TakeOk ((X.ts.take i).foldl takeS (gatesS (boardsS X gs) (comesS X s))) t
  s4 : ∀ i p, X.ponds.zipIdx[i]? = some p → SeepOk X.g ((X.ponds.zipIdx.take i).foldl (seepS X.g) (takesS X (gatesS (boardsS X gs) (comesS X s)))) p
  s5 : ∀ i p, X.ponds.zipIdx[i]? = some p → SpillOk ((X.ponds.zipIdx.take i).foldl spillS (seepsS X (takesS X (gatesS (boardsS X gs) (comesS X s))))) p
def hourS (X : PX) (gs : List Gt) (s : St) : St := spillsS X (seepsS X (takesS X (gatesS (boardsS X gs) (comesS X s))))

section
variable {kn : FuncId → Option Bool} {lo : Nat} {X : PX} {H : Hp}
theorem pass_ok (o : X.Ok lo) (hst : X.strict = false) {gs : List Gt} {s : St} (h : X.At0 lo H gs s) (hlo : lo ≤ H.next) (hhb : X.hb = H.next) (sf : X.Safe gs s) :
    ∃ H', FnX Try.prog kn lo 53 [pt X.c, .agg X.hour.toArray] H unit H' ∧ X.At0 lo H' (boardsS X gs) (hourS X gs s) ∧ Keep H H' X.W := by
  have key := fnX_low (kn := kn) (lo := lo) (H := H) (args := [pt X.c, .agg X.hour.toArray]) (Q := fun v H' => v = unit ∧ X.At0 lo H' (boardsS X gs) (hourS X gs s) ∧ Keep H H' X.W) Try.func53 B53 N53 Z53 L53 (by simp) ?_
  · obtain ⟨v, H', h, rfl, q⟩ := key; exact ⟨H', h, q⟩
  intro H1 hH1
  obtain ⟨k1, n1, c1⟩ := new_facts hH1
  rw [← hhb] at c1
  have at1 : X.At lo H1 gs s := h.at k1 c1.rd
  rw [← hhb]
  refine Exists.intro _ (Exists.intro _ (And.intro at1.hh.of (And.intro rfl ?_)))
  refine pass_boards o at1 (by omega) sf.vb ⟨rfl, rfl, rfl, rfl, rfl, trivial⟩ ?_
  intro H2 at2 k2
  -- what comes
  refine Exists.intro _ (Exists.intro _ (And.intro at2.hc.of (And.intro rfl (And.intro at2.hc.lt ?_))))
  refine And.intro rfl (Exists.intro _ (And.intro rfl ?_))
  refine Exists.intro _ (Exists.intro _ (And.intro at2.hh.of (And.intro rfl (And.intro at2.hh.lt ?_))))
  have hn2 := k2.1
  obtain ⟨cb, H3, h3, k3, hcb, c3⟩ := ends_ok (kn := kn) (lo := lo) (H := H2) (g := X.g) at2.hcs o.lcs o.nc (by omega)
  refine Exists.intro _ (Exists.intro _ (And.intro (callX_args h3) ?_))
  refine And.intro (by repeat' first | exact True.intro | exact (fun h => h) | refine And.intro ?_ ?_) ?_
  have at3 := at2.keep0 k3
  have hn3 := k3.1
  have hcW : cb ∉ X.W := by
    have h1 := at2.hc.lt
    have h2 := at2.hw.lt
    intro q
    simp only [PX.W, List.mem_cons] at q
    rcases q with q | q | q
    · omega
    · omega
    · rcases at2.hg with ⟨e, _⟩ | ⟨gb, e, _, hc⟩
      · rw [e] at q; simp [gl] at q
      · rw [mem_gl e] at q; have := hc.lt; simp at q; omega
  have hlE : (endS X.g X.cs).length = X.cn := by simp [endS, o.lcs]
  refine pass_comes o at3 (by omega) c3 hcW hlE sf.cn sf.s1 ⟨rfl, rfl, rfl, rfl, rfl, trivial⟩ ?_
  intro H4 at4 k4
  refine Exists.intro _ (Exists.intro _ (And.intro at4.hc.of (And.intro rfl ?_)))
  have hn4 := k4.1
  refine pass_gates o at4 (by omega) sf.vg sf.s2 ⟨rfl, rfl, rfl, rfl, rfl, trivial⟩ ?_
  intro H5 at5 k5
  refine Exists.intro _ (Exists.intro _ (And.intro at5.hh.of (And.intro rfl ?_)))
  have hn5 := k5.1
  refine pass_takes o hst at5 (by omega) sf.vt sf.s3 ⟨rfl, rfl, rfl, rfl, rfl, trivial⟩ ?_
  intro H6 at6 k6
  refine Exists.intro _ (Exists.intro _ (And.intro at6.hc.of (And.intro rfl ?_)))
  have hn6 := k6.1
  refine pass_seeps o at6 (by omega) sf.pn sf.s4 ⟨rfl, rfl, rfl, rfl, trivial⟩ ?_
  intro H7 at7 k7
  refine Exists.intro _ (Exists.intro _ (And.intro at7.hc.of (And.intro rfl ?_)))
  have hn7 := k7.1
  refine pass_spills o at7 (by omega) sf.pn sf.vp sf.s5 ⟨rfl, rfl, rfl, rfl, trivial⟩ ?_
  intro H8 at8 k8
  refine And.intro trivial (Exists.intro _ (And.intro rfl ⟨rfl, at8.at0, ?_⟩))
  exact (k1.mono (by simp)).trans (k2.trans ((k3.mono (by simp)).trans (k4.trans (k5.trans (k6.trans (k7.trans k8))))))
end
end Go.Ax
namespace Go.Ax
open Go Go.RowKit Go.Proofs

def withinB (a b m : Int) : Bool := decide (a ≥ 0) && decide (a ≤ b) && decide (b ≤ m)
def boardsB (x : Int) : Bool := decide (x ≥ 0) && decide (x ≤ 16)
def waterB (x : Int) : Bool := decide (x ≥ 0) && decide (x ≤ 68719476736)
def indexB (i n : Int) : Bool := decide (i ≥ 0) && decide (i < n)
def pondB (p : Pd) (i n : Int) : Bool := decide (p.full ≥ 1) && decide (p.full ≤ 68719476736) && withinB p.lo p.hi 1000000 && (p.spill == -1 || (decide (p.spill > i) && decide (p.spill < n)))
def gateB (g : Gt) (n : Int) : Bool := (indexB g.fr n && (g.to == -1 || (indexB g.to n && g.to != g.fr))) && waterB g.sill && waterB g.step && waterB g.most && boardsB g.boards

section
variable {kn : FuncId → Option Bool} {lo : Nat} {H : Hp}
theorem within_ok {a b m : Int} : ∃ H', FnX Try.prog kn lo 84 [sp a b, iv m] H (.bool (withinB a b m)) H' ∧ Keep H H' [] := by
  have key := fnX_low (kn := kn) (lo := lo) (H := H) (args := [sp a b, iv m]) (Q := fun v H' => v = .bool (withinB a b m) ∧ Keep H H' []) Try.func84 B84 N84 Z84 L84 (by simp) ?_
  · obtain ⟨v, H', h, rfl, q⟩ := key; exact ⟨H', h, q⟩
  intro H1 hH1
  obtain ⟨k1, n1, c1⟩ := new_facts hH1
  repeat' first
    | refine Exists.intro _ (Exists.intro _ (And.intro c1.of (And.intro rfl ?_)))
    | (intro t ht; cases t)
    | exact And.intro trivial (Exists.intro _ (And.intro rfl ⟨by simp_all [retV, withinB] <;> (intros; omega), k1⟩))
    | refine And.intro rfl (Exists.intro _ (And.intro rfl ?_))
theorem boards_ok {x : Int} : ∃ H', FnX Try.prog kn lo 85 [iv x] H (.bool (boardsB x)) H' ∧ Keep H H' [] := by
  have key := fnX_low (kn := kn) (lo := lo) (H := H) (args := [iv x]) (Q := fun v H' => v = .bool (boardsB x) ∧ Keep H H' []) Try.func85 B85 N85 Z85 L85 (by simp) ?_
  · obtain ⟨v, H', h, rfl, q⟩ := key; exact ⟨H', h, q⟩
  repeat' first
    | (intro t ht; cases t)
    | exact And.intro trivial (Exists.intro _ (And.intro rfl ⟨by simp_all [retV, boardsB] <;> (intros; omega), Keep.refl _ _⟩))
    | refine And.intro rfl (Exists.intro _ (And.intro rfl ?_))
theorem water_ok {x : Int} : ∃ H', FnX Try.prog kn lo 86 [iv x] H (.bool (waterB x)) H' ∧ Keep H H' [] := by
  have key := fnX_low (kn := kn) (lo := lo) (H := H) (args := [iv x]) (Q := fun v H' => v = .bool (waterB x) ∧ Keep H H' []) Try.func86 B86 N86 Z86 L86 (by simp) ?_
  · obtain ⟨v, H', h, rfl, q⟩ := key; exact ⟨H', h, q⟩
  repeat' first
    | (intro t ht; cases t)
    | exact And.intro trivial (Exists.intro _ (And.intro rfl ⟨by simp_all [retV, waterB] <;> (intros; omega), Keep.refl _ _⟩))
    | refine And.intro rfl (Exists.intro _ (And.intro rfl ?_))
theorem index_ok {x n : Int} : ∃ H', FnX Try.prog kn lo 61 [iv x, iv n] H (.bool (indexB x n)) H' ∧ Keep H H' [] := by
  have key := fnX_low (kn := kn) (lo := lo) (H := H) (args := [iv x, iv n]) (Q := fun v H' => v = .bool (indexB x n) ∧ Keep H H' []) Try.func61 B61 N61 Z61 L61 (by simp) ?_
  · obtain ⟨v, H', h, rfl, q⟩ := key; exact ⟨H', h, q⟩
  repeat' first
    | (intro t ht; cases t)
    | exact And.intro trivial (Exists.intro _ (And.intro rfl ⟨by simp_all [retV, indexB] <;> (intros; omega), Keep.refl _ _⟩))
    | refine And.intro rfl (Exists.intro _ (And.intro rfl ?_))
theorem pond_ok {p : Pd} {i n : Int} : ∃ H', FnX Try.prog kn lo 79 [.agg p.v.toArray, iv i, iv n] H (.bool (pondB p i n)) H' ∧ Keep H H' [] := by
  have key := fnX_low (kn := kn) (lo := lo) (H := H) (args := [.agg p.v.toArray, iv i, iv n]) (Q := fun v H' => v = .bool (pondB p i n) ∧ Keep H H' []) Try.func79 B79 N79 Z79 L79 (by simp) ?_
  · obtain ⟨v, H', h, rfl, q⟩ := key; exact ⟨H', h, q⟩
  intro H1 hH1
  obtain ⟨k1, n1, c1⟩ := new_facts hH1
  obtain ⟨H2, h2, k2⟩ := within_ok (kn := kn) (lo := lo) (H := H1) (a := p.lo) (b := p.hi) (m := 1000000)
  have k := k1.trans k2
  have c2 := k2.cl c1 (by simp)
  cases hw : withinB p.lo p.hi 1000000
  all_goals
    rw [hw] at h2
    repeat' first
      | refine Exists.intro _ (Exists.intro _ (And.intro c1.of (And.intro rfl ?_)))
      | refine Exists.intro _ (Exists.intro _ (And.intro c2.of (And.intro rfl ?_)))
      | refine Exists.intro _ (Exists.intro _ (And.intro (callX_args h2) ?_))
      | (intro t ht; cases t)
      | exact And.intro trivial (Exists.intro _ (And.intro rfl ⟨by simp_all [retV, pondB] <;> (intros; omega), k⟩))
      | exact And.intro trivial (Exists.intro _ (And.intro rfl ⟨by simp_all [retV, pondB] <;> (intros; omega), k1⟩))
      | refine And.intro rfl (Exists.intro _ (And.intro rfl ?_))
end
end Go.Ax
namespace Go.Ax
open Go Go.RowKit Go.Proofs

section
variable {kn : FuncId → Option Bool} {lo : Nat} {H : Hp}
theorem gate_ok {g : Gt} {n : Int} : ∃ H', FnX Try.prog kn lo 80 [.agg g.v.toArray, iv n] H (.bool (gateB g n)) H' ∧ Keep H H' [] := by
  have key := fnX_low (kn := kn) (lo := lo) (H := H) (args := [.agg g.v.toArray, iv n]) (Q := fun v H' => v = .bool (gateB g n) ∧ Keep H H' []) Try.func80 B80 N80 Z80 L80 (by simp) ?_
  · obtain ⟨v, H', h, rfl, q⟩ := key; exact ⟨H', h, q⟩
  intro H1 hH1
  obtain ⟨k1, n1, c1⟩ := new_facts hH1
  clear hH1 n1
  repeat' first
    | refine Exists.intro _ (Exists.intro _ (And.intro c1.of (And.intro rfl ?_)))
    | (refine callB index_ok ?_; intro t H2 ht hk; have c1 := hk.cl c1 (by simp); have k1 := k1.trans hk; clear hk; cases t)
    | (refine callB water_ok ?_; intro t H2 ht hk; have c1 := hk.cl c1 (by simp); have k1 := k1.trans hk; clear hk; cases t)
    | (refine callB boards_ok ?_; intro t H2 ht hk; have c1 := hk.cl c1 (by simp); have k1 := k1.trans hk; clear hk; cases t)
    | (intro t ht; cases t)
    | exact And.intro trivial (Exists.intro _ (And.intro rfl ⟨by simp_all [retV, gateB], k1⟩))
    | refine And.intro rfl (Exists.intro _ (And.intro rfl ?_))
end
end Go.Ax
namespace Go.Ax
open Go Go.RowKit Go.Proofs

theorem pdc_len (l : List Pd) : (pdc l).length = l.length * 4 := flat_len fun _ _ => rfl
def sizesB (pn gn : Nat) : Bool := !(decide ((pn : Int) < 1)) && !(decide ((pn : Int) > 16)) && !(decide ((gn : Int) > 32))
def chainB (ponds : List Pd) (gs : List Gt) (pn gn : Nat) : Bool := sizesB pn gn && (ponds.zipIdx.all fun p => pondB p.1 p.2 pn) && gs.all fun g => gateB g pn
theorem all_step {α : Type} {f : α → Bool} {l : List α} {i : Nat} {x : α} (h : l[i]? = some x) : (l.take (i + 1)).all f = ((l.take i).all f && f x) := by
  have hi : i < l.length := by
    rcases Nat.lt_or_ge i l.length with q | q
    · exact q
    · rw [List.getElem?_eq_none q] at h; cases h
  rw [List.take_succ_eq_append_getElem hi, List.all_append]
  rw [List.getElem?_eq_getElem hi] at h
  cases h; simp
theorem all_fail {α : Type} {f : α → Bool} {l : List α} {i : Nat} {x : α} (h : l[i]? = some x) (hx : f x = false) : l.all f = false := by
  rw [List.all_eq_false]
  exact ⟨x, List.mem_of_getElem? h, by simp [hx]⟩

section
variable {kn : FuncId → Option Bool} {lo : Nat} {H : Hp}
theorem chain_ok {pa ga : Option Addr} {pn pcap gn gcap : Nat} {ponds : List Pd} {gs : List Gt} (hp : Sl H pa pn pcap (pdc ponds)) (hpn : ponds.length = pn) (hg : Sl H ga gn gcap (gtc gs)) (hgn : gs.length = gn) (hlo : lo ≤ H.next) :
    ∃ H', FnX Try.prog kn lo 55 [.agg #[.slice pa pn pcap, .slice ga gn gcap]] H (.bool (chainB ponds gs pn gn)) H' ∧ Keep H H' [] := by
  have key := fnX_low (kn := kn) (lo := lo) (H := H) (args := [.agg #[.slice pa pn pcap, .slice ga gn gcap]]) (Q := fun v H' => v = .bool (chainB ponds gs pn gn) ∧ Keep H H' []) Try.func55 B55 N55 Z55 L55 (by simp) ?_
  · obtain ⟨v, H', h, rfl, q⟩ := key; exact ⟨H', h, q⟩
  intro H1 hH1
  obtain ⟨k1, n1, c1⟩ := new_facts hH1
  clear hH1
  have fin : sizesB pn gn = false → chainB ponds gs pn gn = false := fun h => by simp [chainB, h]
  refine Exists.intro _ (Exists.intro _ (And.intro c1.of (And.intro rfl ?_)))
  intro t1 h1
  cases t1
  · refine Exists.intro _ (Exists.intro _ (And.intro c1.of (And.intro rfl ?_)))
    intro t2 h2
    refine And.intro rfl (Exists.intro _ (And.intro rfl ?_))
    cases t2
    · refine Exists.intro _ (Exists.intro _ (And.intro c1.of (And.intro rfl ?_)))
      intro t3 h3
      refine And.intro rfl (Exists.intro _ (And.intro rfl ?_))
      cases t3
      · refine And.intro (fun h => by cases h) (fun _ => ?_)
        have hsz : sizesB pn gn = true := by simp [sizesB]; simp at h1 h2 h3; omega
        have hb : pn ≤ 16 ∧ gn ≤ 32 := by simp at h2 h3; omega
        obtain ⟨hb1, hb2⟩ := hb
        refine Exists.intro _ (Exists.intro _ (And.intro c1.of (And.intro rfl ?_)))
        -- the ponds
        refine loop_low (fn := Try.f55) E55_1 N55 L55x1 (fun i : Nat => [(1, pt H.next), (24, .slice pa pn pcap), (25, iv pn), (26, iv i)])
          (fun k i H2 => i + k = pn ∧ Keep H1 H2 [] ∧ (ponds.zipIdx.take i).all (fun p => pondB p.1 p.2 pn) = true) pn 0 ⟨by omega, Keep.refl _ _, rfl⟩ ⟨rfl, rfl, rfl, rfl, trivial⟩ ?_
        rintro k i H2 ⟨hik, hk, hall⟩
        refine And.intro (fun hlt => ?_) (fun hge => ?_)
        · have hi : i < pn := by simpa using hlt
          have hp2 := hk.sl0 (k1.sl0 hp)
          rcases hp2 with ⟨_, h0, _⟩ | ⟨pb, rfl, hpc, _⟩
          · omega
          obtain ⟨x, hx⟩ := get_some (l := ponds) (i := i) (by omega)
          have hz := zip_getP hx
          refine Exists.intro i (And.intro rfl (And.intro hi ?_))
          refine Exists.intro _ (Exists.intro _ (And.intro hpc.of (And.intro (row_flat (f := Pd.v) (fun _ _ => rfl) hx) ?_)))
          intro H3 hH3
          obtain ⟨k3, n3, c3⟩ := new_facts hH3
          obtain ⟨_, e3, l3, g3⟩ := id c3
          have hkn := hk.1
          refine Exists.intro _ (Exists.intro _ (Exists.intro _ (And.intro g3 (And.intro (by omega) (And.intro rfl (And.intro rfl (And.intro (by simp) ?_)))))))
          intro H4 hH4
          obtain ⟨k4, n4, c4⟩ := up_facts c3 hH4
          have k24 : Keep H2 H4 [] := k3.new k4 (by simp)
          refine Exists.intro _ (Exists.intro _ (And.intro c4.of (And.intro (show row 4 _ _ = some x.v from rfl) ?_)))
          refine Exists.intro _ (Exists.intro _ (And.intro (k24.cl (hk.cl c1 (by simp)) (by simp)).of (And.intro rfl ?_)))
          refine callB pond_ok ?_
          intro t H5 ht k5
          refine And.intro rfl (Exists.intro _ (And.intro rfl ?_))
          cases t
          · refine And.intro (fun _ => ?_) (fun h => by cases h)
            refine And.intro trivial (Exists.intro _ (And.intro rfl ⟨?_, k1.trans (hk.trans (k24.trans k5))⟩))
            have := all_fail (f := fun p : Pd × Nat => pondB p.1 p.2 pn) hz ht
            simp [chainB, this, retV]
          · refine And.intro (fun h => by cases h) (fun _ => ?_)
            refine And.intro ⟨by omega, by omega⟩ ?_
            refine ⟨k - 1, i + 1, by omega, ⟨by omega, hk.trans (k24.trans k5), ?_⟩, rfl, rfl, rfl, rfl, trivial⟩
            rw [all_step hz, hall]; simpa using ht
        · have hi : ¬ i < pn := by simpa using hge
          rw [List.take_of_length_le (by simp; omega)] at hall
          refine Exists.intro _ (Exists.intro _ (And.intro (hk.cl c1 (by simp)).of (And.intro rfl ?_)))
          -- the gates
          refine loop_low (fn := Try.f55) E55_2 N55 L55x2 (fun i : Nat => [(1, pt H.next), (40, .slice ga gn gcap), (41, iv gn), (42, iv i)])
            (fun k i H3 => i + k = gn ∧ Keep H1 H3 [] ∧ (gs.take i).all (fun g => gateB g pn) = true) gn 0 ⟨by omega, hk, rfl⟩ ⟨rfl, rfl, rfl, rfl, trivial⟩ ?_
          clear hk hik hi hge
          rintro k i H2 ⟨hik, hk, hall2⟩
          refine And.intro (fun hlt => ?_) (fun hge => ?_)
          · have hi : i < gn := by simpa using hlt
            have hg2 := hk.sl0 (k1.sl0 hg)
            rcases hg2 with ⟨_, h0, _⟩ | ⟨gb, rfl, hgc, _⟩
            · omega
            obtain ⟨x, hx⟩ := get_some (l := gs) (i := i) (by omega)
            refine Exists.intro i (And.intro rfl (And.intro hi ?_))
            refine Exists.intro _ (Exists.intro _ (And.intro hgc.of (And.intro (row_flat (f := Gt.v) (fun _ _ => rfl) hx) ?_)))
            intro H3 hH3
            obtain ⟨k3, n3, c3⟩ := new_facts hH3
            obtain ⟨_, e3, l3, g3⟩ := id c3
            have hkn := hk.1
            refine Exists.intro _ (Exists.intro _ (Exists.intro _ (And.intro g3 (And.intro (by omega) (And.intro rfl (And.intro rfl (And.intro (by simp) ?_)))))))
            intro H4 hH4
            obtain ⟨k4, n4, c4⟩ := up_facts c3 hH4
            have k24 : Keep H2 H4 [] := k3.new k4 (by simp)
            refine Exists.intro _ (Exists.intro _ (And.intro c4.of (And.intro (show row 6 _ _ = some x.v from rfl) ?_)))
            refine Exists.intro _ (Exists.intro _ (And.intro (k24.cl (hk.cl c1 (by simp)) (by simp)).of (And.intro rfl ?_)))
            refine callB gate_ok ?_
            intro t H5 ht k5
            refine And.intro rfl (Exists.intro _ (And.intro rfl ?_))
            cases t
            · refine And.intro (fun _ => ?_) (fun h => by cases h)
              refine And.intro trivial (Exists.intro _ (And.intro rfl ⟨?_, k1.trans (hk.trans (k24.trans k5))⟩))
              have := all_fail (f := fun g : Gt => gateB g pn) hx ht
              simp [chainB, this, retV]
            · refine And.intro (fun h => by cases h) (fun _ => ?_)
              refine And.intro ⟨by omega, by omega⟩ ?_
              refine ⟨k - 1, i + 1, by omega, ⟨by omega, hk.trans (k24.trans k5), ?_⟩, rfl, rfl, rfl, rfl, trivial⟩
              rw [all_step hx, hall2]; simpa using ht
          · have hi : ¬ i < gn := by simpa using hge
            rw [List.take_of_length_le (by omega)] at hall2
            refine And.intro trivial (Exists.intro _ (And.intro rfl ⟨?_, k1.trans hk⟩))
            simp [chainB, hsz, hall, hall2, retV]
      · refine And.intro (fun _ => ?_) (fun h => by cases h)
        exact And.intro trivial (Exists.intro _ (And.intro rfl ⟨by rw [fin (by simp [sizesB]; simp at h3; omega)]; rfl, k1⟩))
    · refine And.intro rfl (Exists.intro _ (And.intro rfl ?_))
      refine And.intro (fun _ => ?_) (fun h => by cases h)
      exact And.intro trivial (Exists.intro _ (And.intro rfl ⟨by rw [fin (by simp [sizesB]; simp at h2; omega)]; rfl, k1⟩))
  · refine And.intro rfl (Exists.intro _ (And.intro rfl ?_))
    refine And.intro rfl (Exists.intro _ (And.intro rfl ?_))
    refine And.intro (fun _ => ?_) (fun h => by cases h)
    exact And.intro trivial (Exists.intro _ (And.intro rfl ⟨by rw [fin (by simp [sizesB]; simp at h1; omega)]; rfl, k1⟩))
end
end Go.Ax
namespace Go.Ax
open Go Go.RowKit Go.Proofs

def waterOkB (ponds : List Pd) (ss : List (Int × Int)) (pn wn : Nat) : Bool := !((wn : Int) != (pn : Int)) && (ponds.zip ss).all fun p => withinB p.2.1 p.2.2 p.1.full
theorem zip2_get {α β : Type} {l : List α} {m : List β} {i : Nat} {x : α} {y : β} (h : l[i]? = some x) (k : m[i]? = some y) : (l.zip m)[i]? = some (x, y) := by
  rw [List.getElem?_zip_eq_some]; exact ⟨h, k⟩
abbrev chv (pa : Option Addr) (pn pcap : Nat) (ga : Option Addr) (gn gcap : Nat) : Value := .agg #[.slice pa pn pcap, .slice ga gn gcap]

section
variable {kn : FuncId → Option Bool} {lo : Nat} {H : Hp}
theorem wat_ok {pa ga wa : Option Addr} {pn pcap gn gcap wn wcap : Nat} {ponds : List Pd} {ss : List (Int × Int)} (hp : Sl H pa pn pcap (pdc ponds)) (hpn : ponds.length = pn) (hw : Sl H wa wn wcap (spc ss)) (hwn : ss.length = wn) (hb : pn ≤ 1000) (hlo : lo ≤ H.next) :
    ∃ H', FnX Try.prog kn lo 70 [chv pa pn pcap ga gn gcap, .slice wa wn wcap] H (.bool (waterOkB ponds ss pn wn)) H' ∧ Keep H H' [] := by
  have key := fnX_low (kn := kn) (lo := lo) (H := H) (args := [chv pa pn pcap ga gn gcap, .slice wa wn wcap]) (Q := fun v H' => v = .bool (waterOkB ponds ss pn wn) ∧ Keep H H' []) Try.func70 B70 N70 Z70 L70 (by simp) ?_
  · obtain ⟨v, H', h, rfl, q⟩ := key; exact ⟨H', h, q⟩
  intro H1 hH1
  obtain ⟨k1, n1, c1⟩ := new_facts hH1
  clear hH1
  refine Exists.intro _ (Exists.intro _ (And.intro c1.of (And.intro rfl ?_)))
  refine And.intro (fun hne => ?_) (fun heq => ?_)
  · exact And.intro trivial (Exists.intro _ (And.intro rfl ⟨by simp only [waterOkB, hne]; rfl, k1⟩))
  · have hwp : wn = pn := by simp at heq; omega
    refine Exists.intro _ (Exists.intro _ (And.intro c1.of (And.intro rfl ?_)))
    refine loop_low (fn := Try.f70) E70_1 N70 L70x1 (fun i : Nat => [(1, .slice wa wn wcap), (14, .slice pa pn pcap), (15, iv pn), (16, iv i)])
      (fun k i H2 => i + k = pn ∧ Keep H1 H2 [] ∧ ((ponds.zip ss).take i).all (fun p => withinB p.2.1 p.2.2 p.1.full) = true) pn 0 ⟨by omega, Keep.refl _ _, rfl⟩ ⟨rfl, rfl, rfl, rfl, trivial⟩ ?_
    rintro k i H2 ⟨hik, hk, hall⟩
    refine And.intro (fun hlt => ?_) (fun hge => ?_)
    · have hi : i < pn := by simpa using hlt
      have hp2 := hk.sl0 (k1.sl0 hp)
      have hw2 := hk.sl0 (k1.sl0 hw)
      rcases hp2 with ⟨_, h0, _⟩ | ⟨pb, rfl, hpc, _⟩
      · omega
      rcases hw2 with ⟨_, h0, _⟩ | ⟨wb, rfl, hwc, _⟩
      · omega
      obtain ⟨x, hx⟩ := get_some (l := ponds) (i := i) (by omega)
      obtain ⟨y, hy⟩ := get_some (l := ss) (i := i) (by omega)
      have hz := zip2_get hx hy
      refine Exists.intro i (And.intro rfl (And.intro hi ?_))
      refine Exists.intro _ (Exists.intro _ (And.intro hpc.of (And.intro (row_flat (f := Pd.v) (fun _ _ => rfl) hx) ?_)))
      intro H3 hH3
      obtain ⟨k3, n3, c3⟩ := new_facts hH3
      obtain ⟨_, e3, l3, g3⟩ := id c3
      have hkn := hk.1
      refine Exists.intro _ (Exists.intro _ (Exists.intro _ (And.intro g3 (And.intro (by omega) (And.intro rfl (And.intro rfl (And.intro (by simp) ?_)))))))
      intro H4 hH4
      obtain ⟨k4, n4, c4⟩ := up_facts c3 hH4
      have k24 : Keep H2 H4 [] := k3.new k4 (by simp)
      have hwc4 := k24.rd hwc (by simp)
      refine Exists.intro i (And.intro rfl (And.intro (by omega) ?_))
      refine Exists.intro _ (Exists.intro _ (And.intro hwc4.of (And.intro (spc_row hy) (And.intro hwc4.lt ?_))))
      refine Exists.intro _ (Exists.intro _ (And.intro c4.of (And.intro rfl (And.intro c4.lt ?_))))
      refine callB within_ok ?_
      intro t H5 ht k5
      refine And.intro rfl (Exists.intro _ (And.intro rfl ?_))
      refine And.intro (by repeat' first | exact True.intro | exact (fun h => h) | refine And.intro ?_ ?_) ?_
      cases t
      · refine And.intro (fun _ => ?_) (fun h => by cases h)
        refine And.intro trivial (Exists.intro _ (And.intro rfl ⟨?_, k1.trans (hk.trans (k24.trans k5))⟩))
        have := all_fail (f := fun p : Pd × Int × Int => withinB p.2.1 p.2.2 p.1.full) hz ht
        simp [waterOkB, this, retV]
      · refine And.intro (fun h => by cases h) (fun _ => ?_)
        refine And.intro ⟨by omega, by omega⟩ ?_
        refine ⟨k - 1, i + 1, by omega, ⟨by omega, hk.trans (k24.trans k5), ?_⟩, rfl, rfl, rfl, rfl, trivial⟩
        rw [all_step hz, hall]; simpa using ht
    · have hi : ¬ i < pn := by simpa using hge
      rw [List.take_of_length_le (by simp; omega)] at hall
      refine And.intro trivial (Exists.intro _ (And.intro rfl ⟨?_, k1.trans hk⟩))
      simp [waterOkB, hall, hwp, retV]

/-- An hour, as its cells have it. -/
structure Hr where
  ba : Option Addr
  bn : Nat
  bcap : Nat
  ca : Option Addr
  cn : Nat
  ccap : Nat
  ta : Option Addr
  tn : Nat
  tcap : Nat
  bs : List Bd
  cs : List (Int × Int)
  ts : List Tk
def Hr.v (h : Hr) : List Value := [.slice h.ba h.bn h.bcap, .slice h.ca h.cn h.ccap, .slice h.ta h.tn h.tcap]
structure Hr.At (h : Hr) (H : Hp) : Prop where
  b : Sl H h.ba h.bn h.bcap (bdc h.bs)
  c : Sl H h.ca h.cn h.ccap (spc h.cs)
  t : Sl H h.ta h.tn h.tcap (tkc h.ts)
  lb : h.bs.length = h.bn
  lc : h.cs.length = h.cn
  lt : h.ts.length = h.tn
theorem Hr.At.keep {h : Hr} {H H1 : Hp} (a : h.At H) (k : Keep H H1 []) : h.At H1 := ⟨k.sl0 a.b, k.sl0 a.c, k.sl0 a.t, a.lb, a.lc, a.lt⟩
def hourB (h : Hr) (pn gn : Nat) : Bool := !(decide ((h.bn : Int) > 32)) && !((h.cn : Int) != (pn : Int)) && !(decide ((h.tn : Int) > 32)) &&
  (h.bs.all fun b => indexB b.gate gn && boardsB b.boards) && (h.cs.all fun s => withinB s.1 s.2 68719476736) && (h.ts.all fun t => indexB t.pond pn && waterB t.amount)

theorem hour_ok {pa ga : Option Addr} {pn pcap gn gcap : Nat} {h : Hr} (ha : h.At H) (hb : pn ≤ 1000) (hlo : lo ≤ H.next) :
    ∃ H', FnX Try.prog kn lo 71 [chv pa pn pcap ga gn gcap, .agg h.v.toArray] H (.bool (hourB h pn gn)) H' ∧ Keep H H' [] := by
  have key := fnX_low (kn := kn) (lo := lo) (H := H) (args := [chv pa pn pcap ga gn gcap, .agg h.v.toArray]) (Q := fun v H' => v = .bool (hourB h pn gn) ∧ Keep H H' []) Try.func71 B71 N71 Z71 L71 (by simp) ?_
  · obtain ⟨v, H', h, rfl, q⟩ := key; exact ⟨H', h, q⟩
  intro H1 hH1
  obtain ⟨k1, n1, c1⟩ := new_facts hH1
  clear hH1
  intro H2 hH2
  obtain ⟨k2, n2, c2⟩ := new_facts hH2
  clear hH2
  have c1 := k2.cl c1 (by simp)
  have k := k1.trans k2
  have ha := ha.keep k
  refine Exists.intro _ (Exists.intro _ (And.intro c2.of (And.intro rfl ?_)))
  intro t1 h1
  cases t1
  rotate_left
  · repeat' first
      | (intro t ht; cases t)
      | refine And.intro rfl (Exists.intro _ (And.intro rfl ?_))
      | refine And.intro (fun _ => ?_) (fun h => by cases h)
      | exact And.intro trivial (Exists.intro _ (And.intro rfl ⟨by simp only [hourB, h1]; rfl, k⟩))
  refine Exists.intro _ (Exists.intro _ (And.intro c2.of (And.intro rfl ?_)))
  refine Exists.intro _ (Exists.intro _ (And.intro c1.of (And.intro rfl ?_)))
  intro t2 h2
  cases t2
  rotate_left
  · repeat' first
      | (intro t ht; cases t)
      | refine And.intro rfl (Exists.intro _ (And.intro rfl ?_))
      | refine And.intro (fun _ => ?_) (fun h => by cases h)
      | exact And.intro trivial (Exists.intro _ (And.intro rfl ⟨by simp only [hourB, h2]; simp [retV], k⟩))
  refine And.intro rfl (Exists.intro _ (And.intro rfl ?_))
  refine Exists.intro _ (Exists.intro _ (And.intro c2.of (And.intro rfl ?_)))
  intro t3 h3
  cases t3
  rotate_left
  · repeat' first
      | (intro t ht; cases t)
      | refine And.intro rfl (Exists.intro _ (And.intro rfl ?_))
      | refine And.intro (fun _ => ?_) (fun h => by cases h)
      | exact And.intro trivial (Exists.intro _ (And.intro rfl ⟨by simp only [hourB, h3]; simp [retV], k⟩))
  refine And.intro rfl (Exists.intro _ (And.intro rfl ?_))
  refine And.intro (fun h => by cases h) (fun _ => ?_)
  have hbn : h.bn ≤ 32 := by simp at h1; omega
  have hcn : h.cn = pn := by simp at h2; omega
  have htn : h.tn ≤ 32 := by simp at h3; omega
  have hsz : (!(decide ((h.bn : Int) > 32)) && !((h.cn : Int) != (pn : Int)) && !(decide ((h.tn : Int) > 32))) = true := by rw [h1, h2, h3]; rfl
  refine Exists.intro _ (Exists.intro _ (And.intro c2.of (And.intro rfl ?_)))
  -- the boards
  refine loop_low (fn := Try.f71) E71_1 N71 L71x1 (fun i : Nat => [(2, pt H.next), (3, pt H1.next), (31, .slice h.ba h.bn h.bcap), (32, iv h.bn), (33, iv i)])
    (fun k i H3 => i + k = h.bn ∧ Keep H2 H3 [] ∧ (h.bs.take i).all (fun b => indexB b.gate gn && boardsB b.boards) = true) h.bn 0 ⟨by omega, Keep.refl _ _, rfl⟩ ⟨rfl, rfl, rfl, rfl, rfl, trivial⟩ ?_
  rintro kk i H3 ⟨hik, hk, hall⟩
  refine And.intro (fun hlt => ?_) (fun hge => ?_)
  · have hi : i < h.bn := by simpa using hlt
    have hsl := hk.sl0 ha.b
    rcases hsl with ⟨_, h0, _⟩ | ⟨bb, eb, hbc, _⟩
    · omega
    obtain ⟨x, hx⟩ := get_some (l := h.bs) (i := i) (by rw [ha.lb]; omega)
    rw [eb]
    refine Exists.intro i (And.intro rfl (And.intro hi ?_))
    refine Exists.intro _ (Exists.intro _ (And.intro hbc.of (And.intro (row_flat (f := Bd.v) (fun _ _ => rfl) hx) ?_)))
    intro H4 hH4
    obtain ⟨k4, n4, c4⟩ := new_facts hH4
    obtain ⟨_, e4, l4, g4⟩ := id c4
    have hkn := hk.1
    refine Exists.intro _ (Exists.intro _ (Exists.intro _ (And.intro g4 (And.intro (by omega) (And.intro rfl (And.intro rfl (And.intro (by simp) ?_)))))))
    intro H5 hH5
    obtain ⟨k5, n5, c5⟩ := up_facts c4 hH5
    have k35 : Keep H3 H5 [] := k4.new k5 (by simp)
    have c15 := k35.cl (hk.cl c1 (by simp)) (by simp)
    refine Exists.intro _ (Exists.intro _ (And.intro c5.of (And.intro rfl ?_)))
    refine Exists.intro _ (Exists.intro _ (And.intro c15.of (And.intro rfl ?_)))
    refine callB index_ok ?_
    intro t H6 ht k6
    have bad : (indexB x.gate gn && boardsB x.boards) = false → hourB h pn gn = false := fun q => by
      have := all_fail (f := fun b : Bd => indexB b.gate gn && boardsB b.boards) hx q
      simp [hourB, this]
    refine And.intro rfl (Exists.intro _ (And.intro rfl ?_))
    cases t
    · refine And.intro rfl (Exists.intro _ (And.intro rfl ?_))
      refine And.intro (fun _ => ?_) (fun h => by cases h)
      exact And.intro trivial (Exists.intro _ (And.intro rfl ⟨by rw [bad (by rw [ht]; rfl)]; rfl, k.trans (hk.trans (k35.trans k6))⟩))
    · refine Exists.intro _ (Exists.intro _ (And.intro (k6.cl c5 (by simp)).of (And.intro rfl ?_)))
      refine callB boards_ok ?_
      intro t H7 ht2 k7
      refine And.intro rfl (Exists.intro _ (And.intro rfl ?_))
      refine And.intro rfl (Exists.intro _ (And.intro rfl ?_))
      cases t
      · refine And.intro (fun _ => ?_) (fun h => by cases h)
        exact And.intro trivial (Exists.intro _ (And.intro rfl ⟨by rw [bad (by rw [ht, ht2]; rfl)]; rfl, k.trans (hk.trans (k35.trans (k6.trans k7)))⟩))
      · refine And.intro (fun h => by cases h) (fun _ => ?_)
        refine And.intro ⟨by omega, by omega⟩ ?_
        refine ⟨kk - 1, i + 1, by omega, ⟨by omega, hk.trans (k35.trans (k6.trans k7)), ?_⟩, rfl, rfl, rfl, rfl, rfl, trivial⟩
        rw [all_step hx, hall, ht, ht2]; rfl
  have hi : ¬ i < h.bn := by simpa using hge
  rw [List.take_of_length_le (by rw [ha.lb]; omega)] at hall
  refine Exists.intro _ (Exists.intro _ (And.intro (hk.cl c2 (by simp)).of (And.intro rfl ?_)))
  -- what comes
  refine loop_low (fn := Try.f71) E71_2 N71 L71x2 (fun i : Nat => [(2, pt H.next), (3, pt H1.next), (52, .slice h.ca h.cn h.ccap), (53, iv h.cn), (54, iv i)])
    (fun k i H3 => i + k = h.cn ∧ Keep H2 H3 [] ∧ (h.cs.take i).all (fun s => withinB s.1 s.2 68719476736) = true) h.cn 0 ⟨by omega, hk, rfl⟩ ⟨rfl, rfl, rfl, rfl, rfl, trivial⟩ ?_
  clear hik hk hi hge
  rintro kk i H3 ⟨hik, hk, hall2⟩
  refine And.intro (fun hlt => ?_) (fun hge => ?_)
  · have hi : i < h.cn := by simpa using hlt
    have hsl := hk.sl0 ha.c
    rcases hsl with ⟨_, h0, _⟩ | ⟨bb, eb, hbc, _⟩
    · omega
    obtain ⟨x, hx⟩ := get_some (l := h.cs) (i := i) (by rw [ha.lc]; omega)
    rw [eb]
    refine Exists.intro i (And.intro rfl (And.intro hi ?_))
    refine Exists.intro _ (Exists.intro _ (And.intro hbc.of (And.intro (spc_row hx) ?_)))
    intro H4 hH4
    obtain ⟨k4, n4, c4⟩ := new_facts hH4
    obtain ⟨_, e4, l4, g4⟩ := id c4
    have hkn := hk.1
    refine Exists.intro _ (Exists.intro _ (Exists.intro _ (And.intro g4 (And.intro (by omega) (And.intro rfl (And.intro rfl (And.intro (by simp) ?_)))))))
    intro H5 hH5
    obtain ⟨k5, n5, c5⟩ := up_facts c4 hH5
    have k35 : Keep H3 H5 [] := k4.new k5 (by simp)
    refine Exists.intro _ (Exists.intro _ (And.intro c5.of (And.intro (show row 2 [iv x.1, iv x.2] _ = some [iv x.1, iv x.2] from rfl) ?_)))
    refine callB within_ok ?_
    intro t H6 ht k6
    refine And.intro rfl (Exists.intro _ (And.intro rfl ?_))
    cases t
    · refine And.intro (fun _ => ?_) (fun h => by cases h)
      refine And.intro trivial (Exists.intro _ (And.intro rfl ⟨?_, k.trans (hk.trans (k35.trans k6))⟩))
      have := all_fail (f := fun s : Int × Int => withinB s.1 s.2 68719476736) hx ht
      simp [hourB, this, retV]
    · refine And.intro (fun h => by cases h) (fun _ => ?_)
      refine And.intro ⟨by omega, by omega⟩ ?_
      refine ⟨kk - 1, i + 1, by omega, ⟨by omega, hk.trans (k35.trans k6), ?_⟩, rfl, rfl, rfl, rfl, rfl, trivial⟩
      rw [all_step hx, hall2, ht]; rfl
  have hi : ¬ i < h.cn := by simpa using hge
  rw [List.take_of_length_le (by rw [ha.lc]; omega)] at hall2
  refine Exists.intro _ (Exists.intro _ (And.intro (hk.cl c2 (by simp)).of (And.intro rfl ?_)))
  -- the takes
  refine loop_low (fn := Try.f71) E71_3 N71 L71x3 (fun i : Nat => [(2, pt H.next), (3, pt H1.next), (63, .slice h.ta h.tn h.tcap), (64, iv h.tn), (65, iv i)])
    (fun k i H3 => i + k = h.tn ∧ Keep H2 H3 [] ∧ (h.ts.take i).all (fun t => indexB t.pond pn && waterB t.amount) = true) h.tn 0 ⟨by omega, hk, rfl⟩ ⟨rfl, rfl, rfl, rfl, rfl, trivial⟩ ?_
  clear hik hk hi hge
  rintro kk i H3 ⟨hik, hk, hall3⟩
  refine And.intro (fun hlt => ?_) (fun hge => ?_)
  · have hi : i < h.tn := by simpa using hlt
    have hsl := hk.sl0 ha.t
    rcases hsl with ⟨_, h0, _⟩ | ⟨bb, eb, hbc, _⟩
    · omega
    obtain ⟨x, hx⟩ := get_some (l := h.ts) (i := i) (by rw [ha.lt]; omega)
    rw [eb]
    refine Exists.intro i (And.intro rfl (And.intro hi ?_))
    refine Exists.intro _ (Exists.intro _ (And.intro hbc.of (And.intro (row_flat (f := Tk.v) (fun _ _ => rfl) hx) ?_)))
    intro H4 hH4
    obtain ⟨k4, n4, c4⟩ := new_facts hH4
    obtain ⟨_, e4, l4, g4⟩ := id c4
    have hkn := hk.1
    refine Exists.intro _ (Exists.intro _ (Exists.intro _ (And.intro g4 (And.intro (by omega) (And.intro rfl (And.intro rfl (And.intro (by simp) ?_)))))))
    intro H5 hH5
    obtain ⟨k5, n5, c5⟩ := up_facts c4 hH5
    have k35 : Keep H3 H5 [] := k4.new k5 (by simp)
    have c15 := k35.cl (hk.cl c1 (by simp)) (by simp)
    refine Exists.intro _ (Exists.intro _ (And.intro c5.of (And.intro rfl ?_)))
    refine Exists.intro _ (Exists.intro _ (And.intro c15.of (And.intro rfl ?_)))
    refine callB index_ok ?_
    intro t H6 ht k6
    have bad : (indexB x.pond pn && waterB x.amount) = false → hourB h pn gn = false := fun q => by
      have := all_fail (f := fun t : Tk => indexB t.pond pn && waterB t.amount) hx q
      simp [hourB, this]
    refine And.intro rfl (Exists.intro _ (And.intro rfl ?_))
    cases t
    · refine And.intro rfl (Exists.intro _ (And.intro rfl ?_))
      refine And.intro (fun _ => ?_) (fun h => by cases h)
      exact And.intro trivial (Exists.intro _ (And.intro rfl ⟨by rw [bad (by rw [ht]; rfl)]; rfl, k.trans (hk.trans (k35.trans k6))⟩))
    · refine Exists.intro _ (Exists.intro _ (And.intro (k6.cl c5 (by simp)).of (And.intro rfl ?_)))
      refine callB water_ok ?_
      intro t H7 ht2 k7
      refine And.intro rfl (Exists.intro _ (And.intro rfl ?_))
      refine And.intro rfl (Exists.intro _ (And.intro rfl ?_))
      cases t
      · refine And.intro (fun _ => ?_) (fun h => by cases h)
        exact And.intro trivial (Exists.intro _ (And.intro rfl ⟨by rw [bad (by rw [ht, ht2]; rfl)]; rfl, k.trans (hk.trans (k35.trans (k6.trans k7)))⟩))
      · refine And.intro (fun h => by cases h) (fun _ => ?_)
        refine And.intro ⟨by omega, by omega⟩ ?_
        refine ⟨kk - 1, i + 1, by omega, ⟨by omega, hk.trans (k35.trans (k6.trans k7)), ?_⟩, rfl, rfl, rfl, rfl, rfl, trivial⟩
        rw [all_step hx, hall3, ht, ht2]; rfl
  have hi : ¬ i < h.tn := by simpa using hge
  rw [List.take_of_length_le (by rw [ha.lt]; omega)] at hall3
  refine And.intro trivial (Exists.intro _ (And.intro rfl ⟨?_, k.trans hk⟩))
  unfold hourB
  rw [hsz, hall, hall2, hall3]; rfl
end
end Go.Ax
namespace Go.Ax
open Go Go.RowKit Go.Proofs

def hrc (l : List Hr) : List Value := l.flatMap Hr.v
theorem hrc_len (l : List Hr) : (hrc l).length = l.length * 3 := flat_len fun _ _ => rfl
/-- What is given: the chain, and water. -/
structure Ch where
  pa : Option Addr
  pn : Nat
  pcap : Nat
  ga : Option Addr
  gn : Nat
  gcap : Nat
  wa : Option Addr
  wn : Nat
  wcap : Nat
  ponds : List Pd
  gs : List Gt
  ss : List (Int × Int)
structure Ch.At (c : Ch) (H : Hp) : Prop where
  p : Sl H c.pa c.pn c.pcap (pdc c.ponds)
  g : Sl H c.ga c.gn c.gcap (gtc c.gs)
  w : Sl H c.wa c.wn c.wcap (spc c.ss)
  lp : c.ponds.length = c.pn
  lg : c.gs.length = c.gn
  lw : c.ss.length = c.wn
theorem Ch.At.keep {c : Ch} {H H1 : Hp} (a : c.At H) (k : Keep H H1 []) : c.At H1 := ⟨k.sl0 a.p, k.sl0 a.g, k.sl0 a.w, a.lp, a.lg, a.lw⟩
abbrev Ch.cv (c : Ch) : Value := chv c.pa c.pn c.pcap c.ga c.gn c.gcap
abbrev Ch.wv (c : Ch) : Value := .slice c.wa c.wn c.wcap
def Ch.ok (c : Ch) : Bool := chainB c.ponds c.gs c.pn c.gn && waterOkB c.ponds c.ss c.pn c.wn
def checkE (c : Ch) (hs : List Hr) (ln : Nat) : Int := if (ln : Int) > 200 then 3 else if c.ok && hs.all (fun h => hourB h c.pn c.gn) then 0 else 1
theorem chain_sizes {ponds : List Pd} {gs : List Gt} {pn gn : Nat} (h : chainB ponds gs pn gn = true) : 1 ≤ pn ∧ pn ≤ 16 ∧ gn ≤ 32 := by
  simp [chainB, sizesB] at h; omega

section
variable {kn : FuncId → Option Bool} {lo : Nat} {H : Hp}
theorem check_ok {c : Ch} {la : Option Addr} {ln lcap : Nat} {hs : List Hr} (hc : c.At H) (hl : Sl H la ln lcap (hrc hs)) (hln : hs.length = ln) (hh : ∀ h ∈ hs, h.At H) (hlo : lo ≤ H.next) :
    ∃ H', FnX Try.prog kn lo 44 [c.cv, c.wv, .slice la ln lcap] H (iv (checkE c hs ln)) H' ∧ Keep H H' [] := by
  have key := fnX_low (kn := kn) (lo := lo) (H := H) (args := [c.cv, c.wv, .slice la ln lcap]) (Q := fun v H' => v = iv (checkE c hs ln) ∧ Keep H H' []) Try.func44 B44 N44 Z44 L44 (by simp) ?_
  · obtain ⟨v, H', h, rfl, q⟩ := key; exact ⟨H', h, q⟩
  intro H1 hH1
  obtain ⟨k1, n1, c1⟩ := new_facts hH1
  clear hH1
  refine And.intro (fun hgt => ?_) (fun hle => ?_)
  · exact And.intro trivial (Exists.intro _ (And.intro rfl ⟨by unfold checkE; rw [if_pos (by simpa using hgt)]; rfl, k1⟩))
  have hln2 : ¬ ((ln : Int) > 200) := by simp at hle ⊢; omega
  have hE : checkE c hs ln = if c.ok && hs.all (fun h => hourB h c.pn c.gn) then 0 else 1 := by unfold checkE; rw [if_neg hln2]
  have hc1 := hc.keep k1
  refine Exists.intro _ (Exists.intro _ (And.intro c1.of (And.intro (show row 2 [_, _] _ = some [.slice c.pa c.pn c.pcap, .slice c.ga c.gn c.gcap] from rfl) ?_)))
  refine callB (chain_ok (lo := lo) hc1.p hc1.lp hc1.g hc1.lg (by omega)) ?_
  intro t H2 ht k2
  have k12 := k1.trans k2
  have c2 := k2.cl c1 (by simp)
  have hc2 := hc1.keep k2
  refine And.intro rfl (Exists.intro _ (And.intro rfl ?_))
  cases t
  · refine And.intro rfl (Exists.intro _ (And.intro rfl ?_))
    refine And.intro (fun _ => ?_) (fun h => by cases h)
    exact And.intro trivial (Exists.intro _ (And.intro rfl ⟨by rw [hE]; simp [Ch.ok, ht, retV], k12⟩))
  obtain ⟨z1, z2, z3⟩ := chain_sizes ht
  refine Exists.intro _ (Exists.intro _ (And.intro c2.of (And.intro (show row 2 [_, _] _ = some [.slice c.pa c.pn c.pcap, .slice c.ga c.gn c.gcap] from rfl) ?_)))
  have hn12 := k12.1
  refine callB (wat_ok (lo := lo) hc2.p hc2.lp hc2.w hc2.lw (by omega) (by omega)) ?_
  intro t H3 ht2 k3
  have k13 := k12.trans k3
  have c3 := k3.cl c2 (by simp)
  refine And.intro rfl (Exists.intro _ (And.intro rfl ?_))
  refine And.intro rfl (Exists.intro _ (And.intro rfl ?_))
  cases t
  · refine And.intro (fun _ => ?_) (fun h => by cases h)
    exact And.intro trivial (Exists.intro _ (And.intro rfl ⟨by rw [hE]; simp [Ch.ok, ht2, retV], k13⟩))
  refine And.intro (fun h => by cases h) (fun _ => ?_)
  have hok : c.ok = true := by simp [Ch.ok, ht, ht2]
  have hn13 := k13.1
  refine loop_low (fn := Try.f44) E44_1 N44 L44x1 (fun i : Nat => [(3, pt H.next), (21, .slice la ln lcap), (22, iv ln), (23, iv i)])
    (fun k i H4 => i + k = ln ∧ Keep H3 H4 [] ∧ (hs.take i).all (fun h => hourB h c.pn c.gn) = true) ln 0 ⟨by omega, Keep.refl _ _, rfl⟩ ⟨rfl, rfl, rfl, rfl, trivial⟩ ?_
  rintro k i H4 ⟨hik, hk, hall⟩
  have hkn := hk.1
  refine And.intro (fun hlt => ?_) (fun hge => ?_)
  · have hi : i < ln := by simpa using hlt
    have hl4 := (k13.trans hk).sl0 hl
    rcases hl4 with ⟨_, h0, _⟩ | ⟨lb, rfl, hlc, _⟩
    · omega
    obtain ⟨x, hx⟩ := get_some (l := hs) (i := i) (by omega)
    refine Exists.intro i (And.intro rfl (And.intro hi ?_))
    refine Exists.intro _ (Exists.intro _ (And.intro hlc.of (And.intro (row_flat (f := Hr.v) (fun _ _ => rfl) hx) ?_)))
    intro H5 hH5
    obtain ⟨k5, n5, c5⟩ := new_facts hH5
    obtain ⟨_, e5, l5, g5⟩ := id c5
    refine Exists.intro _ (Exists.intro _ (Exists.intro _ (And.intro g5 (And.intro (by omega) (And.intro rfl (And.intro rfl (And.intro (by simp) ?_)))))))
    intro H6 hH6
    obtain ⟨k6, n6, c6⟩ := up_facts c5 hH6
    have k46 : Keep H4 H6 [] := k5.new k6 (by simp)
    have hx6 : x.At H6 := (hh x (List.mem_of_getElem? hx)).keep (k13.trans (hk.trans k46))
    refine Exists.intro _ (Exists.intro _ (And.intro (k46.cl (hk.cl c3 (by simp)) (by simp)).of (And.intro (show row 2 [_, _] _ = some [.slice c.pa c.pn c.pcap, .slice c.ga c.gn c.gcap] from rfl) ?_)))
    refine Exists.intro _ (Exists.intro _ (And.intro c6.of (And.intro (show row 3 _ _ = some x.v from rfl) ?_)))
    have hn46 := k46.1
    refine callB (hour_ok (lo := lo) hx6 (by omega) (by omega)) ?_
    intro t H7 ht3 k7
    refine And.intro rfl (Exists.intro _ (And.intro rfl ?_))
    cases t
    · refine And.intro (fun _ => ?_) (fun h => by cases h)
      refine And.intro trivial (Exists.intro _ (And.intro rfl ⟨?_, k13.trans (hk.trans (k46.trans k7))⟩))
      have := all_fail (f := fun h : Hr => hourB h c.pn c.gn) hx ht3
      rw [hE, this]; simp [retV]
    · refine And.intro (fun h => by cases h) (fun _ => ?_)
      refine And.intro ⟨by omega, by omega⟩ ?_
      refine ⟨k - 1, i + 1, by omega, ⟨by omega, hk.trans (k46.trans k7), ?_⟩, rfl, rfl, rfl, rfl, trivial⟩
      rw [all_step hx, hall, ht3]; rfl
  · have hi : ¬ i < ln := by simpa using hge
    rw [List.take_of_length_le (by omega)] at hall
    exact And.intro trivial (Exists.intro _ (And.intro rfl ⟨by rw [hE, hok, hall]; rfl, k13.trans hk⟩))
end
end Go.Ax
namespace Go.Ax
open Go Go.RowKit Go.Proofs

theorem condT {A B : Prop} (h : A) : (true = true → A) ∧ (true = false → B) := ⟨fun _ => h, fun q => Bool.noConfusion q⟩
theorem condF {A B : Prop} (h : B) : (false = true → A) ∧ (false = false → B) := ⟨fun q => Bool.noConfusion q, fun _ => h⟩
/-- fenberryref01.Within -/
def refWithinB (a b lo hi : Int) : Bool := decide (lo ≤ a) && decide (a ≤ b) && decide (b ≤ hi)
section
variable {kn : FuncId → Option Bool} {lo : Nat} {H : Hp}
theorem refwithin_ok {a b l m : Int} : ∃ H', FnX Try.prog kn lo 68 [sp a b, iv l, iv m] H (.bool (refWithinB a b l m)) H' ∧ Keep H H' [] := by
  have key := fnX_low (kn := kn) (lo := lo) (H := H) (args := [sp a b, iv l, iv m]) (Q := fun v H' => v = .bool (refWithinB a b l m) ∧ Keep H H' []) Try.func68 B68 N68 Z68 L68 (by simp) ?_
  · obtain ⟨v, H', h, rfl, q⟩ := key; exact ⟨H', h, q⟩
  intro H1 hH1
  obtain ⟨k1, n1, c1⟩ := new_facts hH1
  repeat' first
    | refine Exists.intro _ (Exists.intro _ (And.intro c1.of (And.intro rfl ?_)))
    | (intro t ht; cases t)
    | exact And.intro trivial (Exists.intro _ (And.intro rfl ⟨by simp_all [retV, refWithinB] <;> (intros; omega), k1⟩))
    | refine And.intro rfl (Exists.intro _ (And.intro rfl ?_))
def refWaterB (ponds : List Pd) (ss : List (Int × Int)) (pn wn : Nat) : Bool := !((wn : Int) != (pn : Int)) && (ponds.zip ss).all fun p => refWithinB p.2.1 p.2.2 0 p.1.full
theorem refwat_ok {pa ga wa : Option Addr} {pn pcap gn gcap wn wcap : Nat} {ponds : List Pd} {ss : List (Int × Int)} (hp : Sl H pa pn pcap (pdc ponds)) (hpn : ponds.length = pn) (hw : Sl H wa wn wcap (spc ss)) (hwn : ss.length = wn) (hb : pn ≤ 1000) (hlo : lo ≤ H.next) :
    ∃ H', FnX Try.prog kn lo 33 [chv pa pn pcap ga gn gcap, .slice wa wn wcap] H (.bool (refWaterB ponds ss pn wn)) H' ∧ Keep H H' [] := by
  have key := fnX_low (kn := kn) (lo := lo) (H := H) (args := [chv pa pn pcap ga gn gcap, .slice wa wn wcap]) (Q := fun v H' => v = .bool (refWaterB ponds ss pn wn) ∧ Keep H H' []) Try.func33 B33 N33 Z33 L33 (by simp) ?_
  · obtain ⟨v, H', h, rfl, q⟩ := key; exact ⟨H', h, q⟩
  intro H1 hH1
  obtain ⟨k1, n1, c1⟩ := new_facts hH1
  clear hH1
  refine Exists.intro _ (Exists.intro _ (And.intro c1.of (And.intro rfl ?_)))
  refine And.intro (fun hne => ?_) (fun heq => ?_)
  · exact And.intro trivial (Exists.intro _ (And.intro rfl ⟨by simp only [refWaterB, hne]; rfl, k1⟩))
  · have hwp : wn = pn := by simp at heq; omega
    refine loop_low (fn := Try.f33) E33_1 N33 L33x1 (fun i : Nat => [(1, .slice wa wn wcap), (2, pt H.next), (5, iv i)])
      (fun k i H2 => i + k = pn ∧ Keep H1 H2 [] ∧ ((ponds.zip ss).take i).all (fun p => refWithinB p.2.1 p.2.2 0 p.1.full) = true) pn 0 ⟨by omega, Keep.refl _ _, rfl⟩ ⟨rfl, rfl, rfl, trivial⟩ ?_
    rintro k i H2 ⟨hik, hk, hall⟩
    refine And.intro (fun hlt => ?_) (fun hge => ?_)
    · have hi : i < pn := by simp at hlt; omega
      have hp2 := hk.sl0 (k1.sl0 hp)
      have hw2 := hk.sl0 (k1.sl0 hw)
      have hc2 := hk.cl c1 (by simp)
      rcases hp2 with ⟨_, h0, _⟩ | ⟨pb, rfl, hpc, _⟩
      · omega
      rcases hw2 with ⟨_, h0, _⟩ | ⟨wb, rfl, hwc, _⟩
      · omega
      obtain ⟨x, hx⟩ := get_some (l := ponds) (i := i) (by omega)
      obtain ⟨y, hy⟩ := get_some (l := ss) (i := i) (by omega)
      have hz := zip2_get hx hy
      refine Exists.intro i (And.intro rfl (And.intro (by omega) ?_))
      refine Exists.intro _ (Exists.intro _ (And.intro hwc.of (And.intro (spc_row hy) (And.intro hwc.lt ?_))))
      refine Exists.intro _ (Exists.intro _ (And.intro hc2.of (And.intro rfl (And.intro hc2.lt ?_))))
      refine Exists.intro i (And.intro rfl (And.intro hi ?_))
      have hfull : (pdc ponds)[0 + i * 4 + 0]? = some (iv x.full) := by
        have := row_flat (f := Pd.v) (size := 4) (l := ponds) (fun _ _ => rfl) hx
        obtain ⟨e, hl⟩ := row_some this
        have h2 : (((pdc ponds).drop (0 + i * 4)).take 4)[0]? = some (iv x.full) := by rw [show ((pdc ponds).drop (0 + i * 4)).take 4 = x.v from e.symm]; rfl
        rw [List.getElem?_take, if_pos (by omega), List.getElem?_drop] at h2
        exact h2
      refine Exists.intro _ (Exists.intro _ (And.intro hpc.of (And.intro hfull (And.intro hpc.lt ?_))))
      refine callB refwithin_ok ?_
      intro t H5 ht k5
      refine And.intro rfl (Exists.intro _ (And.intro rfl ?_))
      refine And.intro (by repeat' first | exact True.intro | exact (fun h => h) | refine And.intro ?_ ?_) ?_
      cases t
      · refine And.intro (fun _ => ?_) (fun h => by cases h)
        refine And.intro trivial (Exists.intro _ (And.intro rfl ⟨?_, k1.trans (hk.trans k5)⟩))
        have := all_fail (f := fun p : Pd × Int × Int => refWithinB p.2.1 p.2.2 0 p.1.full) hz ht
        simp [refWaterB, this, retV]
      · refine And.intro (fun h => by cases h) (fun _ => ?_)
        refine And.intro ⟨by omega, by omega⟩ ?_
        refine ⟨k - 1, i + 1, by omega, ⟨by omega, hk.trans k5, ?_⟩, rfl, rfl, rfl, trivial⟩
        rw [all_step hz, hall]; simpa using ht
    · have hi : ¬ i < pn := by simp at hge; omega
      rw [List.take_of_length_le (by simp; omega)] at hall
      refine And.intro trivial (Exists.intro _ (And.intro rfl ⟨?_, k1.trans hk⟩))
      simp [refWaterB, hall, hwp, retV]

/-- The law's own limit. -/
def greatH (h : Hr) : Bool := decide ((h.bn : Int) > 40) || decide ((h.cn : Int) > 20) || decide ((h.tn : Int) > 40)
def greatB (c : Ch) (hs : List Hr) : Bool := decide ((c.pn : Int) > 20) || decide ((c.gn : Int) > 40) || decide ((c.wn : Int) > 20) || hs.any greatH
theorem great_ok {c : Ch} {la : Option Addr} {ln lcap : Nat} {hs : List Hr} (hl : Sl H la ln lcap (hrc hs)) (hln : hs.length = ln) (hlb : ln ≤ 1000) (hlo : lo ≤ H.next) :
    ∃ H', FnX Try.prog kn lo 14 [c.cv, c.wv, .slice la ln lcap] H (.bool (greatB c hs)) H' ∧ Keep H H' [] := by
  have key := fnX_low (kn := kn) (lo := lo) (H := H) (args := [c.cv, c.wv, .slice la ln lcap]) (Q := fun v H' => v = .bool (greatB c hs) ∧ Keep H H' []) Try.func14 B14 N14 Z14 L14 (by simp) ?_
  · obtain ⟨v, H', h, rfl, q⟩ := key; exact ⟨H', h, q⟩
  intro H1 hH1
  obtain ⟨k1, n1, c1⟩ := new_facts hH1
  clear hH1
  have main : decide ((c.pn : Int) > 20) = false → decide ((c.gn : Int) > 40) = false → decide ((c.wn : Int) > 20) = false → ∀ S K, Subs [(24, .slice la ln lcap), (25, iv ln), (26, iv 0)] S →
      (∀ H2 S2, Keep H1 H2 [] → greatB c hs = true → K .ret ((6, .bool true) :: S2) H2) → (∀ H2, Keep H1 H2 [] → greatB c hs = false → K (.exit 0) [(27, .bool (decide ((ln : Int) < ln))), (24, .slice la ln lcap), (25, iv ln), (26, iv ln)] H2) →
      Tri Try.prog kn lo 47 false (at_ Try.f14 [1, 1, 0, 1, 0]) S H1 K := by
    intro e1 e2 e3 S K hS hK1 hK2
    refine loop_low (fn := Try.f14) E14_1 N14 L14x1 (fun i : Nat => [(24, .slice la ln lcap), (25, iv ln), (26, iv i)])
      (fun k i H2 => i + k = ln ∧ Keep H1 H2 [] ∧ (hs.take i).any greatH = false) ln 0 ⟨by omega, Keep.refl _ _, rfl⟩ hS ?_
    rintro k i H2 ⟨hik, hk, hall⟩
    have hkn := hk.1
    refine And.intro (fun hlt => ?_) (fun hge => ?_)
    · have hi : i < ln := by simpa using hlt
      have hl2 := hk.sl0 (k1.sl0 hl)
      rcases hl2 with ⟨_, h0, _⟩ | ⟨lb, rfl, hlc, _⟩
      · omega
      obtain ⟨x, hx⟩ := get_some (l := hs) (i := i) (by omega)
      refine Exists.intro i (And.intro rfl (And.intro hi ?_))
      refine Exists.intro _ (Exists.intro _ (And.intro hlc.of (And.intro (row_flat (f := Hr.v) (fun _ _ => rfl) hx) ?_)))
      intro H5 hH5
      obtain ⟨k5, n5, c5⟩ := new_facts hH5
      obtain ⟨_, e5, l5, g5⟩ := id c5
      refine Exists.intro _ (Exists.intro _ (Exists.intro _ (And.intro g5 (And.intro (by omega) (And.intro rfl (And.intro rfl (And.intro (by simp) ?_)))))))
      intro H6 hH6
      obtain ⟨k6, n6, c6⟩ := up_facts c5 hH6
      have k26 : Keep H2 H6 [] := k5.new k6 (by simp)
      have yes : greatH x = true → greatB c hs = true := fun q => by
        have : hs.any greatH = true := List.any_eq_true.2 ⟨x, List.mem_of_getElem? hx, q⟩
        simp [greatB, this]
      have no : greatH x = false → (hs.take (i + 1)).any greatH = false := fun q => by
        have hi2 : i < hs.length := by omega
        rw [List.take_succ_eq_append_getElem hi2, List.any_append, hall]
        rw [List.getElem?_eq_getElem hi2] at hx
        cases hx; simp [q]
      repeat' first
        | refine Exists.intro _ (Exists.intro _ (And.intro c6.of (And.intro rfl ?_)))
        | (intro t ht; cases t)
        | refine And.intro rfl (Exists.intro _ (And.intro rfl ?_))
        | refine condT ?_
        | exact hK1 _ _ (hk.trans k26) (yes (by simp_all [greatH]))
        | refine condF ?_
        | refine And.intro (show InR ((i : Int) + 1) from ⟨by omega, by omega⟩) ?_
        | exact ⟨k - 1, i + 1, by omega, ⟨by omega, hk.trans k26, no (by simp_all [greatH])⟩, rfl, rfl, rfl, trivial⟩
    · have hi : ¬ i < ln := by simpa using hge
      have hin : i = ln := by omega
      subst hin
      rw [List.take_of_length_le (by omega)] at hall
      exact hK2 _ hk (by simp [greatB, e1, e2, e3, hall])
  refine Exists.intro _ (Exists.intro _ (And.intro c1.of (And.intro rfl ?_)))
  intro t1 h1
  cases t1
  rotate_left
  · repeat' first
      | (intro t ht; cases t)
      | refine And.intro rfl (Exists.intro _ (And.intro rfl ?_))
      | refine And.intro (fun _ => ?_) (fun h => by cases h)
      | exact And.intro trivial (Exists.intro _ (And.intro rfl ⟨by simp only [greatB, h1]; rfl, k1⟩))
  refine Exists.intro _ (Exists.intro _ (And.intro c1.of (And.intro rfl ?_)))
  intro t2 h2
  refine And.intro rfl (Exists.intro _ (And.intro rfl ?_))
  cases t2
  rotate_left
  · repeat' first
      | (intro t ht; cases t)
      | refine And.intro rfl (Exists.intro _ (And.intro rfl ?_))
      | refine And.intro (fun _ => ?_) (fun h => by cases h)
      | exact And.intro trivial (Exists.intro _ (And.intro rfl ⟨by simp only [greatB, h2]; simp [retV], k1⟩))
  intro t3 h3
  refine And.intro rfl (Exists.intro _ (And.intro rfl ?_))
  cases t3
  rotate_left
  · refine And.intro (fun _ => ?_) (fun h => by cases h)
    exact And.intro trivial (Exists.intro _ (And.intro rfl ⟨by simp only [greatB, h3]; simp [retV], k1⟩))
  refine And.intro (fun h => by cases h) (fun _ => ?_)
  refine main h1 h2 h3 _ _ ⟨rfl, rfl, rfl, trivial⟩ ?_ ?_
  · intro H2 S2 hk hg
    exact And.intro trivial (Exists.intro _ (And.intro rfl ⟨by rw [hg]; rfl, k1.trans hk⟩))
  · intro H2 hk hg
    exact And.intro trivial (Exists.intro _ (And.intro rfl ⟨by rw [hg]; rfl, k1.trans hk⟩))
end
end Go.Ax

import Derived.Test.YtfdapdcfnognfaaXv
set_option linter.all false
namespace Go.Ax
open Go Go.RowKit Go.Proofs
/-- Hours that can be read, wherever in their block they begin. -/
def Sh (H : Hp) (a : Option Addr) (n cap : Nat) (hs : List Hr) : Prop := ((a = none ∨ a = some ⟨0, 0, some 0⟩) ∧ n = 0 ∧ cap = 0 ∧ hs = []) ∨ ∃ b o full, a = some ⟨b, o, none⟩ ∧ Rd H b full ∧ ∀ (i : Nat) x, hs[i]? = some x → row 3 full (o + i * 3) = some x.v
theorem Keep.sh {H H1 : Hp} {w : List Nat} (k : Keep H H1 w) {a : Option Addr} {n cap : Nat} {hs : List Hr} (h : Sh H a n cap hs) (hw : ∀ b o, a = some ⟨b, o, none⟩ → b ∉ w) : Sh H1 a n cap hs :=
  h.imp id fun ⟨b, o, f, e, r, q⟩ => ⟨b, o, f, e, k.rd r (hw b o e), q⟩
theorem Keep.sh0 {H H1 : Hp} (k : Keep H H1 []) {a : Option Addr} {n cap : Nat} {hs : List Hr} (h : Sh H a n cap hs) : Sh H1 a n cap hs := k.sh h fun _ _ _ => by simp
theorem Sh.lt {H : Hp} {a : Option Addr} {n cap : Nat} {hs : List Hr} (h : Sh H a n cap hs) (b o : Nat) (e : a = some ⟨b, o, none⟩) : b < H.next := by
  rcases h with ⟨h | h, _⟩ | ⟨b', o', f, h, hr, _⟩
  · rw [h] at e; cases e
  · rw [h] at e; cases e
  · rw [h] at e; cases e; exact hr.lt
def OffA (W : List Nat) (a : Option Addr) : Prop := ∀ b o, a = some ⟨b, o, none⟩ → b ∉ W
section
variable {kn : FuncId → Option Bool} {lo : Nat} {H : Hp}
theorem check_okS {c : Ch} {la : Option Addr} {ln lcap : Nat} {hs : List Hr} (hc : c.At H) (hl : Sh H la ln lcap hs) (hln : hs.length = ln) (hh : ∀ h ∈ hs, h.At H) (hlo : lo ≤ H.next) :
    ∃ H', FnX Try.prog kn lo 44 [c.cv, c.wv, .slice la ln lcap] H (iv (checkE c hs ln)) H' ∧ Keep H H' [] := by
  have key := fnX_low (kn := kn) (lo := lo) (H := H) (args := [c.cv, c.wv, .slice la ln lcap]) (Q := fun v H' => v = iv (checkE c hs ln) ∧ Keep H H' []) Try.func44 B44 N44 Z44 L44 (by simp) ?_
  · obtain ⟨v, H', h, rfl, q⟩ := key; exact ⟨H', h, q⟩
  intro H1 hH1
  obtain ⟨k1, n1, c1⟩ := new_facts hH1
  clear hH1
  refine And.intro (fun hgt => ?_) (fun hle => ?_)
  · exact And.intro trivial (Exists.intro _ (And.intro rfl ⟨by unfold checkE; rw [if_pos (by simpa using hgt)]; rfl, k1⟩))
  have hln2 : ¬ ((ln : Int) > 200) := by simp at hle ⊢; omega
  have hE : checkE c hs ln = if c.ok && hs.all (fun h => hourB h c.pn c.gn) then 0 else 1 := by unfold checkE; rw [if_neg hln2]
  have hc1 := hc.keep k1
  refine Exists.intro _ (Exists.intro _ (And.intro c1.of (And.intro (show row 2 [_, _] _ = some [.slice c.pa c.pn c.pcap, .slice c.ga c.gn c.gcap] from rfl) ?_)))
  refine callB (chain_ok (lo := lo) hc1.p hc1.lp hc1.g hc1.lg (by omega)) ?_
  intro t H2 ht k2
  have k12 := k1.trans k2
  have c2 := k2.cl c1 (by simp)
  have hc2 := hc1.keep k2
  refine And.intro rfl (Exists.intro _ (And.intro rfl ?_))
  cases t
  · refine And.intro rfl (Exists.intro _ (And.intro rfl ?_))
    refine And.intro (fun _ => ?_) (fun h => by cases h)
    exact And.intro trivial (Exists.intro _ (And.intro rfl ⟨by rw [hE]; simp [Ch.ok, ht, retV], k12⟩))
  obtain ⟨z1, z2, z3⟩ := chain_sizes ht
  refine Exists.intro _ (Exists.intro _ (And.intro c2.of (And.intro (show row 2 [_, _] _ = some [.slice c.pa c.pn c.pcap, .slice c.ga c.gn c.gcap] from rfl) ?_)))
  have hn12 := k12.1
  refine callB (wat_ok (lo := lo) hc2.p hc2.lp hc2.w hc2.lw (by omega) (by omega)) ?_
  intro t H3 ht2 k3
  have k13 := k12.trans k3
  have c3 := k3.cl c2 (by simp)
  refine And.intro rfl (Exists.intro _ (And.intro rfl ?_))
  refine And.intro rfl (Exists.intro _ (And.intro rfl ?_))
  cases t
  · refine And.intro (fun _ => ?_) (fun h => by cases h)
    exact And.intro trivial (Exists.intro _ (And.intro rfl ⟨by rw [hE]; simp [Ch.ok, ht2, retV], k13⟩))
  refine And.intro (fun h => by cases h) (fun _ => ?_)
  have hok : c.ok = true := by simp [Ch.ok, ht, ht2]
  have hn13 := k13.1
  refine loop_low (fn := Try.f44) E44_1 N44 L44x1 (fun i : Nat => [(3, pt H.next), (21, .slice la ln lcap), (22, iv ln), (23, iv i)])
    (fun k i H4 => i + k = ln ∧ Keep H3 H4 [] ∧ (hs.take i).all (fun h => hourB h c.pn c.gn) = true) ln 0 ⟨by omega, Keep.refl _ _, rfl⟩ ⟨rfl, rfl, rfl, rfl, trivial⟩ ?_
  rintro k i H4 ⟨hik, hk, hall⟩
  have hkn := hk.1
  refine And.intro (fun hlt => ?_) (fun hge => ?_)
  · have hi : i < ln := by simpa using hlt
    have hl4 := (k13.trans hk).sh0 hl
    rcases hl4 with ⟨_, h0, _⟩ | ⟨lb, lo0, lfull, rfl, hlc, hrow⟩
    · omega
    obtain ⟨x, hx⟩ := get_some (l := hs) (i := i) (by omega)
    refine Exists.intro i (And.intro rfl (And.intro hi ?_))
    refine Exists.intro _ (Exists.intro _ (And.intro hlc.of (And.intro (hrow i x hx) ?_)))
    intro H5 hH5
    obtain ⟨k5, n5, c5⟩ := new_facts hH5
    obtain ⟨_, e5, l5, g5⟩ := id c5
    refine Exists.intro _ (Exists.intro _ (Exists.intro _ (And.intro g5 (And.intro (by omega) (And.intro rfl (And.intro rfl (And.intro (by simp) ?_)))))))
    intro H6 hH6
    obtain ⟨k6, n6, c6⟩ := up_facts c5 hH6
    have k46 : Keep H4 H6 [] := k5.new k6 (by simp)
    have hx6 : x.At H6 := (hh x (List.mem_of_getElem? hx)).keep (k13.trans (hk.trans k46))
    refine Exists.intro _ (Exists.intro _ (And.intro (k46.cl (hk.cl c3 (by simp)) (by simp)).of (And.intro (show row 2 [_, _] _ = some [.slice c.pa c.pn c.pcap, .slice c.ga c.gn c.gcap] from rfl) ?_)))
    refine Exists.intro _ (Exists.intro _ (And.intro c6.of (And.intro (show row 3 _ _ = some x.v from rfl) ?_)))
    have hn46 := k46.1
    refine callB (hour_ok (lo := lo) hx6 (by omega) (by omega)) ?_
    intro t H7 ht3 k7
    refine And.intro rfl (Exists.intro _ (And.intro rfl ?_))
    cases t
    · refine And.intro (fun _ => ?_) (fun h => by cases h)
      refine And.intro trivial (Exists.intro _ (And.intro rfl ⟨?_, k13.trans (hk.trans (k46.trans k7))⟩))
      have := all_fail (f := fun h : Hr => hourB h c.pn c.gn) hx ht3
      rw [hE, this]; simp [retV]
    · refine And.intro (fun h => by cases h) (fun _ => ?_)
      refine And.intro ⟨by omega, by omega⟩ ?_
      refine ⟨k - 1, i + 1, by omega, ⟨by omega, hk.trans (k46.trans k7), ?_⟩, rfl, rfl, rfl, rfl, trivial⟩
      rw [all_step hx, hall, ht3]; rfl
  · have hi : ¬ i < ln := by simpa using hge
    rw [List.take_of_length_le (by omega)] at hall
    exact And.intro trivial (Exists.intro _ (And.intro rfl ⟨by rw [hE, hok, hall]; rfl, k13.trans hk⟩))
end
structure HrsAtS (b1 b2 : Nat) (la : Option Addr) (ln lcap : Nat) (hs : List Hr) (H : Hp) : Prop where
  c1 : Rd H b1 [.slice la ln lcap]
  c2 : Rd H b2 [.slice none 0 0]
  l : Sh H la ln lcap hs
  ln : hs.length = ln
  h : ∀ h ∈ hs, h.At H
theorem HrsAtS.keep {b1 b2 : Nat} {la : Option Addr} {ln lcap : Nat} {hs : List Hr} {H H1 : Hp} (a : HrsAtS b1 b2 la ln lcap hs H) (k : Keep H H1 []) : HrsAtS b1 b2 la ln lcap hs H1 :=
  ⟨k.rd a.c1 (by simp), k.rd a.c2 (by simp), k.sh0 a.l, a.ln, fun x hx => (a.h x hx).keep k⟩


section
variable {kn : FuncId → Option Bool} {lo : Nat} {H : Hp}
/-- The hours, one by one: J holds ahead of the i-th one, Jf behind one that ends the range. -/
theorem hrs_okS {l b1 b2 : Nat} {la : Option Addr} {ln lcap : Nat} {hs : List Hr} (J : Nat → Hp → Prop) (Jf : Hp → Prop) (hlb : ln ≤ 1000) (hJ0 : J 0 H) (hJe : ∀ i H, J i H → HrsAtS b1 b2 la ln lcap hs H ∧ lo ≤ H.next) (hJk : ∀ i H H1, J i H → Keep H H1 [] → J i H1) (htn : ∀ h ∈ hs, h.tn ≤ 1000)
    (step : ∀ i h a cap H, hs[i]? = some h → J i H → (h.again a cap).At H → (∀ b, a = some ⟨b, 0, none⟩ → ∃ H0, J i H0 ∧ H0.next ≤ b) → ∃ t H', CallsX Try.prog kn lo (.fn (.yield l) #[]) [iv i, .agg (h.again a cap).v.toArray] H (.bool t) H' ∧ (t = true → J (i + 1) H') ∧ (t = false → Jf H')) :
    ∃ H', FnX Try.prog kn lo 81 [.func (.yield l) #[] #[], pt b1, pt b2] H unit H' ∧ (J ln H' ∨ Jf H') := by
  have key := fnX_low (kn := kn) (lo := lo) (H := H) (args := [.func (.yield l) #[] #[], pt b1, pt b2]) (Q := fun v H' => v = unit ∧ (J ln H' ∨ Jf H')) Try.func81 B81 N81 Z81 L81 (by simp) ?_
  · obtain ⟨v, H', h, rfl, q⟩ := key; exact ⟨H', h, q⟩
  refine Exists.intro _ (Exists.intro _ (And.intro (hJe 0 H hJ0).1.c1.of (And.intro rfl ?_)))
  refine loop_low (fn := Try.f81) E81_1 N81 L81x1 (fun i : Nat => [(0, .func (.yield l) #[] #[]), (2, pt b2), (6, .slice la ln lcap), (7, iv ln), (8, iv i)])
    (fun k i H' => i + k = ln ∧ J i H') ln 0 ⟨by omega, hJ0⟩ ⟨rfl, rfl, rfl, rfl, rfl, trivial⟩ ?_
  rintro k i H1 ⟨hik, hJ⟩
  refine And.intro (fun hlt => ?_) (fun hge => ?_)
  · have hi : i < ln := by simpa using hlt
    obtain ⟨he, hlo1⟩ := hJe i H1 hJ
    have hll := he.l
    rcases hll with ⟨_, h0, _⟩ | ⟨lb, lo0, lfull, ela, hlc, hrow⟩
    · omega
    obtain ⟨x, hx⟩ := get_some (l := hs) (i := i) (by rw [he.ln]; omega)
    rw [ela]
    refine Exists.intro i (And.intro rfl (And.intro hi ?_))
    refine Exists.intro _ (Exists.intro _ (And.intro hlc.of (And.intro (hrow i x hx) ?_)))
    intro H2 hH2
    obtain ⟨k2, n2, c2⟩ := new_facts hH2
    obtain ⟨_, e2, l2, g2⟩ := id c2
    refine Exists.intro _ (Exists.intro _ (Exists.intro _ (And.intro g2 (And.intro hlo1 (And.intro rfl (And.intro rfl (And.intro (by simp) ?_)))))))
    intro H3 hH3
    obtain ⟨k3, n3, c3⟩ := up_facts c2 hH3
    have c3 : Cl H3 H1.next x.v := c3
    have k13 : Keep H1 H3 [] := k2.new k3 (by simp)
    have he3 := he.keep k13
    refine Exists.intro _ (Exists.intro _ (And.intro c3.of (And.intro rfl ?_)))
    refine Exists.intro _ (Exists.intro _ (And.intro he3.c2.of (And.intro rfl ?_)))
    refine And.intro rfl (Or.inr (And.intro rfl (Exists.intro (.slice (some ⟨H3.next, 0, none⟩) 2 2) (Exists.intro (H3.new (.cells [.slice x.ta x.tn x.tcap, .slice none 0 0] 28 false)) (Exists.intro .heavy (And.intro (by kernel_rfl) (And.intro (fun b e => by cases e) ?_)))))))
    generalize hH4 : H3.new (.cells [.slice x.ta x.tn x.tcap, .slice none 0 0] 28 false) = H4
    obtain ⟨k4, n4, c4⟩ := new_facts hH4
    have he4 := he3.keep k4
    have hxm := List.mem_of_getElem? hx
    have hxa := he4.h x hxm
    have hn13 := k13.1
    have hn34 := k4.1
    obtain ⟨a', cap', H5, h5, k5, s5, o5⟩ := concat_ok (kn := kn) (lo := lo) (H := H4) c4.rd hxa.t hxa.lt (htn x hxm) (by omega)
    refine Exists.intro _ (Exists.intro _ (And.intro (callX_args h5) ?_))
    have c5 := k5.cl (k4.cl c3 (by simp)) (by simp)
    obtain ⟨_, e5, l5, g5⟩ := id c5
    refine Exists.intro _ (Exists.intro _ (Exists.intro _ (And.intro g5 (And.intro hlo1 (And.intro rfl (And.intro rfl (And.intro (by simp [Hr.v]) ?_)))))))
    intro H6 hH6
    obtain ⟨k6, n6, c6⟩ := up_facts c5 hH6
    have c6 : Cl H6 H1.next (x.again a' cap').v := c6
    have k16 : Keep H1 H6 [] := (k13.trans (k4.trans k5)).new k6 (by simp)
    refine Exists.intro _ (Exists.intro _ (And.intro c6.of (And.intro (show row 3 _ _ = some (x.again a' cap').v from rfl) ?_)))
    have hJ6 := hJk i H1 H6 hJ k16
    have hx6 := (hJe i H6 hJ6).1.h x hxm
    have hlt1 := c2.lt
    have hat : (x.again a' cap').At H6 := ⟨hx6.b, hx6.c, k6.sl s5 (fun b e => by have := o5 b e; simp; omega), hx6.lb, hx6.lc, hx6.lt⟩
    obtain ⟨t, H7, h7, ht1, ht2⟩ := step i x a' cap' H6 hx hJ6 hat (fun b e => ⟨H1, hJ, by have := o5 b e; omega⟩)
    refine Exists.intro _ (Exists.intro _ (And.intro h7 ?_))
    refine And.intro rfl (Exists.intro (.bool (!t)) (And.intro rfl ?_))
    cases t
    · refine And.intro (fun _ => ?_) (fun h => by cases h)
      exact And.intro trivial (Exists.intro _ (And.intro rfl ⟨rfl, .inr (ht2 rfl)⟩))
    · refine And.intro (fun h => by cases h) (fun _ => ?_)
      refine And.intro ⟨by omega, by omega⟩ ?_
      exact ⟨k - 1, i + 1, by omega, ⟨by omega, ht1 rfl⟩, rfl, rfl, rfl, rfl, rfl, trivial⟩
  · have hi : ¬ i < ln := by simpa using hge
    have hin : i = ln := by omega
    subst hin
    exact And.intro trivial (Exists.intro _ (And.intro rfl ⟨rfl, .inl hJ⟩))
end
structure BQ.OffS (q : BQ) (w : List Nat) : Prop where
  p : Go.Ax.Off w q.c.pa
  l : OffA w q.la
  h : ∀ h ∈ q.hs, Go.Ax.Off w h.ba ∧ Go.Ax.Off w h.ca ∧ Go.Ax.Off w h.ta
structure BES (q : BQ) (x : BW) (p1 p2 : Wh) (H : Hp) : Prop where
  hrs : HrsAtS x.b1 x.b2 q.la q.ln q.lcap q.hs H
  r6 : Cl H x.b6 [pt p1.k]
  r7 : Cl H x.b7 [pt p2.k]
  dfr : x.r < H.next ∧ H.t.get x.r = some (.dfr (some []))
theorem BES.keep {q : BQ} {x : BW} {p1 p2 : Wh} {H H1 : Hp} {w : List Nat} (h : BES q x p1 p2 H) (k : Keep H H1 w) (o : q.OffS w) (hx : ∀ b ∈ x.all, b ∉ w) : BES q x p1 p2 H1 := by
  have m : ∀ b, b ∈ x.all → b ∉ w := hx
  refine ⟨⟨k.rd h.hrs.c1 (m _ (by simp [BW.all])), k.rd h.hrs.c2 (m _ (by simp [BW.all])), k.sh h.hrs.l o.l, h.hrs.ln, fun y hy => ?_⟩, k.cl h.r6 (m _ (by simp [BW.all])), k.cl h.r7 (m _ (by simp [BW.all])), ?_⟩
  · have a := h.hrs.h y hy
    obtain ⟨o1, o2, o3⟩ := o.h y hy
    exact ⟨k.sl a.b o1, k.sl a.c o2, k.sl a.t o3, a.lb, a.lc, a.lt⟩
  · exact ⟨Nat.lt_of_lt_of_le h.dfr.1 k.1, by rw [k.2 _ h.dfr.1 (m _ (by simp [BW.all]))]; exact h.dfr.2⟩
theorem boff_nilS (q : BQ) : q.OffS [] := ⟨fun _ _ => by simp, fun _ _ _ => by simp, fun _ _ => ⟨fun _ _ => by simp, fun _ _ => by simp, fun _ _ => by simp⟩⟩

structure BJS (lo : Nat) (H : Hp) (q : BQ) (L : Nat) (p1 p2 : Wh) (x : BW) (l : Nat) (i : Nat) (H' : Hp) : Prop where
  c1 : Crs q.c false L p1 H' (foG false q.c q.hs i).1 (foG false q.c q.hs i).2
  c2 : Crs q.c true L p2 H' (foG true q.c q.hs i).1 (foG true q.c q.hs i).2
  a1 : Ahead q.c.ponds (i * perHour) (foG false q.c q.hs i).2
  a2 : Ahead q.c.ponds (i * perHour) (foG true q.c q.hs i).2
  g1 : (foG false q.c q.hs i).1.all (fun g => gateB g q.c.pn) = true
  g2 : (foG true q.c q.hs i).1.all (fun g => gateB g q.c.pn) = true
  le : BES q x p1 p2 H'
  lp : Lp Try.prog H' l .ready none 32 (S45 x) [22, 23] asg45 body45 x.r
  ll : l < H'.next
  lo : lo ≤ H'.next
  kp : Keep H H' []
structure BCS (lo : Nat) (H : Hp) (q : BQ) (L : Nat) (p1 p2 : Wh) (x : BW) (l : Nat) : Prop where
  vd : q.c.Vd
  ln : q.ln ≤ 200
  hl : q.hs.length = q.ln
  hv : ∀ h ∈ q.hs, hourB h q.c.pn q.c.gn = true
  HL : H.next ≤ L
  loL : lo ≤ L
  Ll : L ≤ l
  xl : ∀ b ∈ x.all, b ≠ l
  x1 : ∀ b ∈ x.all, b ∉ p1.W
  x2 : ∀ b ∈ x.all, b ∉ p2.W
  l1 : l ∉ p1.W
  l2 : l ∉ p2.W
  dj : ∀ b, b ∈ p1.W → b ∉ p2.W
  o1 : q.OffS p1.W
  o2 : q.OffS p2.W
  ol : q.OffS [l]
section
variable {kn : FuncId → Option Bool} {lo L l : Nat} {H : Hp} {q : BQ} {p1 p2 : Wh} {x : BW}
theorem BJS.keep0 {i : Nat} {H1 H2 : Hp} (j : BJS lo H q L p1 p2 x l i H1) (k : Keep H1 H2 []) : BJS lo H q L p1 p2 x l i H2 :=
  ⟨j.c1.keep k, j.c2.keep k, j.a1, j.a2, j.g1, j.g2, j.le.keep k (boff_nilS q) (fun _ _ => by simp), j.lp.keep k j.ll (by simp), Nat.lt_of_lt_of_le j.ll k.1, Nat.le_trans j.lo k.1, j.kp.trans k⟩
theorem both_roundS (C : BCS lo H q L p1 p2 x l) {i : Nat} {h : Hr} {a : Option Addr} {cap : Nat} {H1 : Hp} (hx : q.hs[i]? = some h) (j : BJS lo H q L p1 p2 x l i H1) (ha : (h.again a cap).At H1) (hoff : ∀ b, a = some ⟨b, 0, none⟩ → ∃ H0, BJS lo H q L p1 p2 x l i H0 ∧ H0.next ≤ b) :
    ∃ t H', CallsX Try.prog kn lo (.fn (.yield l) #[]) [iv i, .agg (h.again a cap).v.toArray] H1 (.bool t) H' ∧ (t = true → BJS lo H q L p1 p2 x l (i + 1) H') ∧ (t = false → False) := by
  have hi := get_lt hx
  have hlq := C.hl
  have hln := C.ln
  have L1 : low Try.prog 32 asg45 = some R45x1 := N45 ▸ L45x1
  have L2 : low Try.prog 32 body45 = some R45x2 := N45 ▸ L45x2
  have hLl := C.Ll
  have hloL := C.loL
  refine yield_ok (S1 := (23, .agg (h.again a cap).v.toArray) :: (22, iv i) :: S45 x) (Q := fun t H' => (t = true → BJS lo H q L p1 p2 x l (i + 1) H') ∧ (t = false → False)) j.lp (by omega) (by rfl) rfl (wC_sound true _ L1 ?_)
  intro H2 hH2
  obtain ⟨k2, n2, c2⟩ := new_facts hH2
  obtain ⟨_, e2, l2, g2⟩ := id c2
  refine Exists.intro _ (Exists.intro _ (Exists.intro _ (And.intro g2 (And.intro j.lo (And.intro rfl (And.intro rfl (And.intro (by simp) ?_)))))))
  intro H3 hH3
  obtain ⟨k3, n3, c3⟩ := up_facts c2 hH3
  have c3 : Cl H3 H1.next (h.again a cap).v := c3
  have k13 : Keep H1 H3 [] := k2.new k3 (by simp)
  have j3 := j.keep0 k13
  refine And.intro trivial (And.intro j3.lp ?_)
  intro H4 s4
  have k4 := s4.keep
  have lp4 := s4.lp j3.lp
  have hn13 := k13.1
  have hn4 : H4.next = H3.next := s4.1
  have ne1l : H1.next ≠ l := by have := j.ll; omega
  have crs1 := j3.c1.keepW k4 (fun b hb => by simp at hb; subst hb; exact C.l1) C.ol.p
  have crs2 := j3.c2.keepW k4 (fun b hb => by simp at hb; subst hb; exact C.l2) C.ol.p
  have le4 : BES q x p1 p2 H4 := j3.le.keep k4 C.ol (fun b hb => by simpa using C.xl b hb)
  have c4 := k4.cl c3 (by simpa using ne1l)
  have hm := List.mem_of_getElem? hx
  have hat4 : (h.again a cap).At H4 := by
    have h0 := ha.keep k13
    obtain ⟨o1, o2, _⟩ := C.ol.h h hm
    refine ⟨k4.sl h0.b o1, k4.sl h0.c o2, k4.sl h0.t (fun b e => ?_), h0.lb, h0.lc, h0.lt⟩
    obtain ⟨H0, j0, hb⟩ := hoff b e
    have := j0.ll
    simp; omega
  refine wC_sound true _ L2 ?_
  refine Exists.intro _ (Exists.intro _ (And.intro le4.r6.of (And.intro rfl ?_)))
  refine Exists.intro _ (Exists.intro _ (And.intro c4.of (And.intro (show row 3 _ _ = some (h.again a cap).v from rfl) ?_)))
  obtain ⟨o11, o12, _⟩ := C.o1.h h hm
  obtain ⟨o21, o22, _⟩ := C.o2.h h hm
  have hoT1 : Off p1.W (h.again a cap).ta := fun b e => by
    obtain ⟨H0, j0, hb⟩ := hoff b e
    exact j0.c1.offNew hb
  have hoT2 : Off p2.W (h.again a cap).ta := fun b e => by
    obtain ⟨H0, j0, hb⟩ := hoff b e
    exact j0.c2.offNew hb
  have hlo4 : lo ≤ H4.next := by have := j.lo; omega
  have hB : (i : Int) * perHour ≤ 1152921504606846976 := by rw [perHour_eq]; omega
  have hB0 : 0 ≤ (i : Int) * perHour := by rw [perHour_eq]; omega
  obtain ⟨H5, h5, crs1', k5, a5, g5⟩ := crs_pass (kn := kn) (lo := lo) crs1 C.vd hat4 o11 o12 hoT1 (C.hv h hm) j.g1 j.a1 hB hB0 hlo4 hloL
  refine Exists.intro _ (Exists.intro _ (And.intro (callX_args h5) ?_))
  have hn5 := k5.1
  have le5 := le4.keep k5 C.o1 C.x1
  have off1 : H1.next ∉ p1.W := j.c1.offNew (Nat.le_refl _)
  have off2 : H1.next ∉ p2.W := j.c2.offNew (Nat.le_refl _)
  have c5 := k5.cl c4 off1
  have crs2' := crs2.keepW k5 C.dj C.o1.p
  have hat5 : (h.again a cap).At H5 := ⟨k5.sl hat4.b o11, k5.sl hat4.c o12, k5.sl hat4.t hoT1, hat4.lb, hat4.lc, hat4.lt⟩
  have lp5 : Lp Try.prog H5 l .busy none 32 (S45 x) [22, 23] asg45 body45 x.r := lp4.keep k5 (by have := j3.ll; omega) C.l1
  refine Exists.intro _ (Exists.intro _ (And.intro le5.r7.of (And.intro rfl ?_)))
  refine Exists.intro _ (Exists.intro _ (And.intro c5.of (And.intro (show row 3 _ _ = some (h.again a cap).v from rfl) ?_)))
  obtain ⟨H6, h6, crs2'', k6, a6, g6⟩ := crs_pass (kn := kn) (lo := lo) crs2' C.vd hat5 o21 o22 hoT2 (C.hv h hm) j.g2 j.a2 hB hB0 (by omega) hloL
  refine Exists.intro _ (Exists.intro _ (And.intro (callX_args h6) ?_))
  have hn6 := k6.1
  have le6 := le5.keep k6 C.o2 C.x2
  have crs1'' := crs1'.keepW k6 (fun b hb w => C.dj b w hb) C.o2.p
  have lp6 : Lp Try.prog H6 l .busy none 32 (S45 x) [22, 23] asg45 body45 x.r := lp5.keep k6 (by have := j3.ll; omega) C.l2
  refine And.intro lp6 ?_
  intro H7 s7
  refine ⟨fun _ => ?_, fun e => by cases e⟩
  have k7 := s7.keep
  have hn7 : H7.next = H6.next := s7.1
  have hfo1 : foG false q.c q.hs (i + 1) = (boardsF h (foG false q.c q.hs i).1, hourF q.c false h (foG false q.c q.hs i).1 (foG false q.c q.hs i).2) := take_step hx
  have hfo2 : foG true q.c q.hs (i + 1) = (boardsF h (foG true q.c q.hs i).1, hourF q.c true h (foG true q.c q.hs i).1 (foG true q.c q.hs i).2) := take_step hx
  have e : ((i + 1 : Nat) : Int) * perHour = i * perHour + perHour := by rw [Int.natCast_add, Int.add_mul]; simp
  have hl6 : l < H6.next := by have := j3.ll; omega
  refine ⟨?_, ?_, by rw [hfo1, e]; exact a5, by rw [hfo2, e]; exact a6, by rw [hfo1]; exact g5, by rw [hfo2]; exact g6, le6.keep k7 C.ol (fun b hb => by simpa using C.xl b hb), s7.lp lp6, by omega, by have := j.lo; omega, ?_⟩
  · rw [hfo1]; exact crs1''.keepW k7 (fun b hb => by simp at hb; subst hb; exact C.l1) C.ol.p
  · rw [hfo2]; exact crs2''.keepW k7 (fun b hb => by simp at hb; subst hb; exact C.l2) C.ol.p
  · have big : ∀ {p : Wh} {g : Bool} {gs : List Gt} {s : St}, Crs q.c g L p H1 gs s → ∀ b, b ∈ p.W → b ∈ ([] : List Nat) ∨ H.next ≤ b := fun w b hb => by
      refine .inr ?_
      rcases Nat.lt_or_ge b H.next with v | v
      · exact absurd hb (w.off (by have := C.HL; omega))
      · exact v
    have lnew : ∀ b, b ∈ [l] → b ∈ ([] : List Nat) ∨ H.next ≤ b := fun b hb => by simp at hb; subst hb; exact .inr (by have := C.HL; omega)
    exact ((((j.kp.trans k13).new k4 lnew).new k5 (big j.c1)).new k6 (big j.c2)).new k7 lnew
end
section
variable {kn : FuncId → Option Bool} {lo : Nat} {H : Hp}
theorem both_okS {q : BQ} (hc : q.c.At H) (hl : Sh H q.la q.ln q.lcap q.hs) (hln : q.hs.length = q.ln) (hh : ∀ h ∈ q.hs, h.At H) (v : q.c.Vd) (ok2 : q.ln ≤ 200) (ok3 : ∀ h ∈ q.hs, hourB h q.c.pn q.c.gn = true) (hlo : lo ≤ H.next) :
    ∃ p1 p2 H', FnX Try.prog kn lo 45 [q.c.cv, q.c.wv, .slice q.la q.ln q.lcap] H (.tuple #[pt p1.k, pt p2.k]) H' ∧ Keep H H' [] ∧ Crs q.c false H.next p1 H' (foG false q.c q.hs q.ln).1 (foG false q.c q.hs q.ln).2 ∧ Crs q.c true H.next p2 H' (foG true q.c q.hs q.ln).1 (foG true q.c q.hs q.ln).2 ∧
      Ahead q.c.ponds (q.ln * perHour) (foG false q.c q.hs q.ln).2 ∧ Ahead q.c.ponds (q.ln * perHour) (foG true q.c q.hs q.ln).2 ∧ (foG false q.c q.hs q.ln).1.all (fun g => gateB g q.c.pn) = true := by
  have key := fnX_lowR (kn := kn) (lo := lo) (H := H) (args := [q.c.cv, q.c.wv, .slice q.la q.ln q.lcap]) (Q := fun w H' => ∃ p1 p2 : Wh, w = .tuple #[pt p1.k, pt p2.k] ∧ Keep H H' [] ∧ Crs q.c false H.next p1 H' (foG false q.c q.hs q.ln).1 (foG false q.c q.hs q.ln).2 ∧ Crs q.c true H.next p2 H' (foG true q.c q.hs q.ln).1 (foG true q.c q.hs q.ln).2 ∧
      Ahead q.c.ponds (q.ln * perHour) (foG false q.c q.hs q.ln).2 ∧ Ahead q.c.ponds (q.ln * perHour) (foG true q.c q.hs q.ln).2 ∧ (foG false q.c q.hs q.ln).1.all (fun g => gateB g q.c.pn) = true) Try.func45 B45 N45 Z45 L45 (by simp) ?_
  · obtain ⟨w, H', h, p1, p2, rfl, r⟩ := key; exact ⟨p1, p2, H', h, r⟩
  intro y hy
  refine TriR.lowR hy ?_
  intro H1 hH1; obtain ⟨k1, n1, c1⟩ := new_facts hH1; clear hH1
  intro H2 hH2; obtain ⟨k2, n2, c2⟩ := new_facts hH2; clear hH2
  intro H3 hH3; obtain ⟨k3, n3, c3⟩ := new_facts hH3; clear hH3
  have k03 : Keep H H3 [] := k1.trans (k2.trans k3)
  have c1 := k3.cl (k2.cl c1 (by simp)) (by simp)
  have c2 : Cl H3 H1.next [.pointer none] := k3.cl c2 (by simp)
  have hn03 := k03.1
  have hn1 := k1.1; have hn2 := k2.1; have hn3 := k3.1
  intro y hy
  refine TriR.lowR hy ?_
  have hc3 := hc.keep k03
  refine Exists.intro _ (Exists.intro _ (And.intro c1.of (And.intro (show row 2 [_, _] _ = some [.slice q.c.pa q.c.pn q.c.pcap, .slice q.c.ga q.c.gn q.c.gcap] from rfl) (And.intro c1.lt ?_))))
  refine And.intro rfl (Exists.intro (.agg #[.bool false]) (And.intro (by kernel_rfl) ?_))
  refine And.intro rfl (Exists.intro (bdv false) (And.intro (by kernel_rfl) ?_))
  obtain ⟨p1, H4, h4, k4, r4⟩ := crs_start (kn := kn) (lo := H3.next) (H := H3) (g := false) hc3 v
  refine Exists.intro _ (Exists.intro _ (And.intro (callX_args h4) ?_))
  have c1' := k4.cl c1 (by simp)
  refine Exists.intro _ (Exists.intro _ (And.intro c1'.of (And.intro (show row 2 [_, _] _ = some [.slice q.c.pa q.c.pn q.c.pcap, .slice q.c.ga q.c.gn q.c.gcap] from rfl) (And.intro c1'.lt ?_))))
  refine And.intro rfl (Exists.intro (.agg #[.bool true]) (And.intro (by kernel_rfl) ?_))
  refine And.intro rfl (Exists.intro (bdv true) (And.intro (by kernel_rfl) ?_))
  have hn34 := k4.1
  obtain ⟨p2, H5, h5, k5, r5⟩ := crs_start (kn := kn) (lo := lo) (H := H4) (g := true) (hc3.keep k4) v
  refine Exists.intro _ (Exists.intro _ (And.intro (callX_args h5) ?_))
  have hn45 := k5.1
  have k35 := k4.trans k5
  have c2' := k35.cl c2 (by simp)
  obtain ⟨_, e2, l2, g2⟩ := id c2'
  refine Exists.intro _ (Exists.intro _ (Exists.intro _ (And.intro g2 (And.intro (by omega) (And.intro rfl (And.intro rfl (And.intro (by simp) ?_)))))))
  intro H6 hH6; obtain ⟨k6, n6, c6⟩ := up_facts c2' hH6; clear hH6
  have c6 : Cl H6 H1.next [pt p1.k] := c6
  have c3' : Cl H6 H2.next [.pointer none] := k6.cl (k35.cl c3 (by simp)) (by simp; omega)
  obtain ⟨_, e3, l3, g3⟩ := id c3'
  refine Exists.intro _ (Exists.intro _ (Exists.intro _ (And.intro g3 (And.intro (by omega) (And.intro rfl (And.intro rfl (And.intro (by simp) ?_)))))))
  intro H7 hH7; obtain ⟨k7, n7, c7⟩ := up_facts c3' hH7; clear hH7
  have c7 : Cl H7 H2.next [pt p2.k] := c7
  have c67 : Cl H7 H1.next [pt p1.k] := k7.cl c6 (by simp; omega)
  refine And.intro (by repeat' first | exact True.intro | exact (fun h => h) | refine And.intro ?_ ?_) ?_
  -- the courses
  have k57 : Keep H5 H7 [H1.next, H2.next] := (k6.mono (by simp)).trans (k7.mono (by simp))
  have far : ∀ {L : Nat} {p : Wh} {g : Bool} {gs : List Gt} {s : St} {H' : Hp}, H3.next ≤ L → Crs q.c g L p H' gs s → ∀ b, b ∈ [H1.next, H2.next] → b ∉ p.W := fun hL w b hb => w.off (by simp at hb; omega)
  have hpa : ∀ b, q.c.pa = some ⟨b, 0, none⟩ → b < H.next := fun b e => hc.p.lt b e
  have offp : Off [H1.next, H2.next] q.c.pa := fun b e => by have := hpa b e; simp; omega
  have crs1 : Crs q.c false H3.next p1 H7 q.c.gs (s0 false q.c) := (r4.keep k5).keepW k57 (far (Nat.le_refl _) (r4.keep k5)) offp
  have crs2 : Crs q.c true H4.next p2 H7 q.c.gs (s0 true q.c) := r5.keepW k57 (far (by omega) r5) offp
  have crs2 : Crs q.c true H3.next p2 H7 q.c.gs (s0 true q.c) := crs2.lower (by omega) (fun b e => by have := hpa b e; omega)
  have dj : ∀ b, b ∈ p1.W → b ∉ p2.W := fun b hb => by
    have hlt : b < H4.next := by
      simp only [Wh.W, List.mem_cons] at hb
      rcases hb with rfl | rfl | hb
      · exact r4.hc.lt
      · exact r4.hw.lt
      · rcases r4.hg with ⟨e, _⟩ | ⟨gb, e, _, hcl⟩
        · rw [e] at hb; simp [gl] at hb
        · rw [mem_gl e] at hb; simp at hb; subst hb; exact hcl.lt
    exact r5.off hlt
  have k07 : Keep H H7 [] := (k03.trans k35).new k57 (fun b hb => .inr (by simp at hb; omega))
  intro y hy
  refine TriR.lowL hy ?_
  intro z hz
  refine TriR.lowR hz ?_
  obtain ⟨b1, b2, H8, h8, k8, hb1, hb2, d1, d2⟩ := hours_ok (kn := kn) (lo := lo) (H := H7) (la := q.la) (ln := q.ln) (lcap := q.lcap)
  refine Exists.intro _ (Exists.intro _ (And.intro (callX_args h8) ?_))
  intro y hy
  refine TriR.lowB hy ?_
  rw [E45_1]
  refine TriR.range rfl ?_
  intro H9 k9 n9 hd hlp
  have k79 : Keep H7 H9 [] := k8.trans k9
  have k09 : Keep H H9 [] := k07.trans k79
  have hn7 := k07.1
  have hn57 := k57.1
  have hn8 := k8.1
  have hn9 := k9.1
  let X : BW := ⟨b1, b2, H1.next, H2.next, H8.next⟩
  have r9 : Crs q.c false H3.next p1 H9 q.c.gs (s0 false q.c) := crs1.keep k79
  have r9' : Crs q.c true H3.next p2 H9 q.c.gs (s0 true q.c) := crs2.keep k79
  have w1 : ∀ {b}, H7.next ≤ b → b ∉ p1.W := fun hb => crs1.offNew hb
  have w2 : ∀ {b}, H7.next ≤ b → b ∉ p2.W := fun hb => crs2.offNew hb
  have xall : ∀ b, b ∈ X.all → (b < H3.next) ∨ (H7.next ≤ b ∧ b ≤ H8.next) := by
    intro b hb
    have e1 := d1.lt; have e2 := d2.lt
    simp only [BW.all, X, List.mem_cons, List.not_mem_nil, or_false] at hb
    omega
  have offs : ∀ w : List Nat, (∀ b, b < H.next → b ∉ w) → q.OffS w := fun w hw => ⟨fun b e => hw b (hc.p.lt b e), fun b o e => hw b (hl.lt b o e), fun h hm' => ⟨fun b e => hw b ((hh h hm').b.lt b e), fun b e => hw b ((hh h hm').c.lt b e), fun b e => hw b ((hh h hm').t.lt b e)⟩⟩
  have C : BCS lo H q H3.next p1 p2 X (H8.next + 1) := by
    refine ⟨v, ok2, hln, ok3, by omega, by omega, by omega, fun b hb => ?_, fun b hb => ?_, fun b hb => ?_, w1 (by omega), w2 (by omega), dj, offs _ fun b hb => crs1.off (by omega), offs _ fun b hb => crs2.off (by omega), offs _ fun b hb => by simp; omega⟩
    · have := xall b hb; omega
    · rcases xall b hb with w | w
      · exact crs1.off w
      · exact w1 w.1
    · rcases xall b hb with w | w
      · exact crs2.off w
      · exact w2 w.1
  have j0 : BJS lo H q H3.next p1 p2 X (H8.next + 1) 0 H9 := by
    have a0 := v.ahead false
    have a0' := v.ahead true
    refine ⟨r9, r9', by simpa [foG] using a0, by simpa [foG] using a0', v.g, v.g, ⟨⟨k9.rd d1 (by simp), k9.rd d2 (by simp), k09.sh0 hl, hln, fun x hx => (hh x hx).keep k09⟩, k79.cl c67 (by simp), k79.cl c7 (by simp), by show H8.next < H9.next; omega, hd⟩, hlp.weak ⟨rfl, rfl, trivial⟩, by omega, by omega, k09⟩
  obtain ⟨H10, h10, hend⟩ := hrs_okS (kn := kn) (lo := lo) (H := H9) (l := H8.next + 1) (b1 := b1) (b2 := b2) (la := q.la) (ln := q.ln) (lcap := q.lcap) (hs := q.hs) (BJS lo H q H3.next p1 p2 X (H8.next + 1)) (fun _ => False) (by omega) j0 (fun i H' j => ⟨j.le.hrs, j.lo⟩) (fun i H1 H2 j k => j.keep0 k) (fun h hm' => by
    have := ok3 h hm'
    simp [hourB] at this; omega) (fun i h a cap H' hx j ha hoff => both_roundS C hx j ha hoff)
  refine Exists.intro _ (Exists.intro H10 (And.intro (callX_func rfl (by simpa using h10)) ?_))
  rcases hend with j | f
  rotate_left
  · exact f.elim
  refine ⟨.ready, none, _, j.lp, by simp, ?_⟩
  intro H11 s11
  have k11 := s11.keep
  have le11 := j.le.keep k11 C.ol (fun b hb => by simpa using C.xl b hb)
  have cr1 := j.c1.keepW k11 (fun b hb => by simp at hb; subst hb; exact C.l1) C.ol.p
  have cr2 := j.c2.keepW k11 (fun b hb => by simp at hb; subst hb; exact C.l2) C.ol.p
  have q6 : Cl H11 H1.next [pt p1.k] := le11.r6
  have q7 : Cl H11 H2.next [pt p2.k] := le11.r7
  refine Exists.intro _ (Exists.intro _ (And.intro q6.of (And.intro rfl (And.intro q6.lt ?_))))
  refine Exists.intro _ (Exists.intro _ (And.intro q7.of (And.intro rfl (And.intro q7.lt ?_))))
  obtain ⟨_, ea, la, ga⟩ := id q6
  refine Exists.intro _ (Exists.intro _ (Exists.intro _ (And.intro ga (And.intro (by omega) (And.intro rfl (And.intro rfl (And.intro (by simp) ?_)))))))
  intro H12 hH12; obtain ⟨k12, n12, e12⟩ := up_facts q6 hH12; clear hH12
  have e12 : Cl H12 H1.next [pt p1.k] := e12
  have q7' := k12.cl q7 (by simp; omega)
  obtain ⟨_, eb, lb, gb⟩ := id q7'
  refine Exists.intro _ (Exists.intro _ (Exists.intro _ (And.intro gb (And.intro (by omega) (And.intro rfl (And.intro rfl (And.intro (by simp) ?_)))))))
  intro H13 hH13; obtain ⟨k13, n13, e13⟩ := up_facts q7' hH13; clear hH13
  have e13 : Cl H13 H2.next [pt p2.k] := e13
  have e12' : Cl H13 H1.next [pt p1.k] := k13.cl e12 (by simp; omega)
  refine And.intro (by repeat' first | exact True.intro | exact (fun h => h) | exact (fun h => absurd (show H1.next = H2.next from h) (by omega)) | refine And.intro ?_ ?_) ?_
  have kk : Keep H11 H13 [H1.next, H2.next] := (k12.mono (by simp)).trans (k13.mono (by simp))
  have hdf := le11.dfr
  have hdf1 : H8.next < H11.next := hdf.1
  have hd13 : H13.t.get H8.next = some (.dfr (some [])) := by
    have : H8.next ∉ [H1.next, H2.next] := by simp; omega
    rw [kk.2 _ hdf1 this]; exact hdf.2
  have kH : Keep H H13 [] := (j.kp.new k11 (fun b hb => .inr (by simp at hb; omega))).new kk (fun b hb => .inr (by simp at hb; omega))
  have f1 := cr1.keepW kk (far (Nat.le_refl _) cr1) offp
  have f2 := cr2.keepW kk (far (Nat.le_refl _) cr2) offp
  refine And.intro trivial (Or.inr ⟨H8.next, rfl, by omega, hd13, fun H14 hn14 hs14 => ?_⟩)
  have k14 : Keep H13 H14 [H8.next] := ⟨by omega, fun b _ hb => hs14 b (by simpa using hb)⟩
  have g1 := (f1.keepW k14 (fun b hb => by simp at hb; subst hb; exact w1 (by omega)) (fun b e => by have := hpa b e; simp; omega)).lower hn03 hpa
  have g2 := (f2.keepW k14 (fun b hb => by simp at hb; subst hb; exact w2 (by omega)) (fun b e => by have := hpa b e; simp; omega)).lower hn03 hpa
  exact ⟨_, res2 (x := H1.next) (y := H2.next) rfl rfl ag90 ag90 (k14.rd e12'.rd (by simp; omega)) (k14.rd e13.rd (by simp; omega)), p1, p2, rfl, kH.new k14 (fun b hb => .inr (by simp at hb; omega)), g1, g2, j.a1, j.a2, j.g1⟩
theorem run_okS {q : BQ} (hc : q.c.At H) (hl : Sh H q.la q.ln q.lcap q.hs) (hln : q.hs.length = q.ln) (hh : ∀ h ∈ q.hs, h.At H) (hlo : lo ≤ H.next) :
    ∃ v H', FnX Try.prog kn lo 25 [q.c.cv, q.c.wv, .slice q.la q.ln q.lcap] H v H' ∧ Keep H H' [] ∧ RunA q H H' v := by
  have key := fnX_low (kn := kn) (lo := lo) (H := H) (args := [q.c.cv, q.c.wv, .slice q.la q.ln q.lcap]) (Q := fun v H' => Keep H H' [] ∧ RunA q H H' v) Try.func25 B25 N25 Z25 L25 (by simp) ?_
  · obtain ⟨v, H', h, r⟩ := key; exact ⟨v, H', h, r⟩
  intro H1 hH1; obtain ⟨k1, n1, c1⟩ := new_facts hH1; clear hH1
  intro H2 hH2; obtain ⟨k2, n2, c2⟩ := new_facts hH2; clear hH2
  have k02 := k1.trans k2
  have c1 := k2.cl c1 (by simp)
  have hn1 := k1.1; have hn2 := k2.1
  have hc2 := hc.keep k02
  refine Exists.intro _ (Exists.intro _ (And.intro c1.of (And.intro (show row 2 [_, _] _ = some [.slice q.c.pa q.c.pn q.c.pcap, .slice q.c.ga q.c.gn q.c.gcap] from rfl) ?_)))
  obtain ⟨H3, h3, k3⟩ := check_okS (kn := kn) (lo := lo) (H := H2) hc2 (k02.sh0 hl) hln (fun x hx => (hh x hx).keep k02) (by omega)
  refine Exists.intro _ (Exists.intro _ (And.intro (callX_args h3) ?_))
  have hn3 := k3.1
  have c2' := k3.cl c2 (by simp)
  by_cases he : checkE q.c q.hs q.ln = 0
  rotate_left
  · refine And.intro (fun _ => ?_) (fun w => absurd (show checkE q.c q.hs q.ln = 0 by simpa using w) he)
    refine And.intro rfl (Exists.intro (.agg zero8.toArray) (And.intro (by kernel_rfl) ?_))
    obtain ⟨_, e2, l2, g2⟩ := id c2'
    refine Exists.intro _ (Exists.intro _ (Exists.intro _ (And.intro g2 (And.intro (by omega) (And.intro rfl (And.intro rfl (And.intro (by simp) ?_)))))))
    intro H4 hH4; obtain ⟨k4, n4, c4⟩ := up_facts c2' hH4; clear hH4
    have c4 : Cl H4 H1.next zero8 := c4
    refine And.intro trivial (Exists.intro _ (And.intro (res_run (y := H1.next) rfl rfl rfl rfl c4.rd) ⟨(k02.trans k3).new k4 (fun b hb => .inr (by simp at hb; omega)), fun _ => rfl, fun w => absurd w he⟩))
  refine And.intro (fun w => absurd he (show checkE q.c q.hs q.ln ≠ 0 by simpa using w)) (fun _ => ?_)
  obtain ⟨v, ok2, ok3⟩ := check_vd he hc.lp hc.lg hc.lw
  have k03 := k02.trans k3
  have c1 := k3.cl c1 (by simp)
  refine Exists.intro _ (Exists.intro _ (And.intro c1.of (And.intro (show row 2 [_, _] _ = some [.slice q.c.pa q.c.pn q.c.pcap, .slice q.c.ga q.c.gn q.c.gcap] from rfl) ?_)))
  obtain ⟨p1, p2, H4, h4, k4, r1, r2, a1, a2, _⟩ := both_okS (kn := kn) (lo := lo) (H := H3) (q := q) (hc.keep k03) (k03.sh0 hl) hln (fun x hx => (hh x hx).keep k03) v ok2 ok3 (by omega)
  refine Exists.intro _ (Exists.intro _ (And.intro (callX_args h4) ?_))
  refine And.intro rfl (Exists.intro _ (And.intro rfl ?_))
  refine And.intro rfl (Exists.intro _ (And.intro rfl ?_))
  have hn4 := k4.1
  have l1 := fo_len (c := q.c) (g := false) (hs := q.hs) q.ln
  have l2 := fo_len (c := q.c) (g := true) (hs := q.hs) q.ln
  have hlw := hc.lw
  have h16 := v.h16; have hwp := v.wp
  obtain ⟨b, H5, h5, k5, hb, cb⟩ := between_ok (kn := kn) (lo := lo) (H := H4) r1.hc r2.hc (u := (foG false q.c q.hs q.ln).2.ws) (w := (foG true q.c q.hs q.ln).2.ws) r1.hw r2.hw (by show q.c.wn = _; omega) (by show q.c.wn = _; omega) (by omega) (by omega) (by omega)
  refine Exists.intro _ (Exists.intro _ (And.intro (callX_args h5) ?_))
  have hn5 := k5.1
  obtain ⟨H6, h6, k6⟩ := flows_ok (kn := kn) (lo := lo) (H := H5) (k5.cl r1.hc (by simp)) (k5.cl r2.hc (by simp)) (by omega)
  refine Exists.intro _ (Exists.intro _ (And.intro (callX_args h6) ?_))
  have hn6 := k6.1
  have k36 := k4.trans (k5.trans k6)
  have c26 := k36.cl c2' (by simp)
  obtain ⟨_, e2, l2', g2⟩ := id c26
  refine Exists.intro _ (Exists.intro _ (Exists.intro _ (And.intro g2 (And.intro (by omega) (And.intro rfl (And.intro rfl (And.intro (by simp) ?_)))))))
  intro H7 hH7; obtain ⟨k7, n7, c7⟩ := up_facts c26 hH7; clear hH7
  have c7 : Cl H7 H1.next (flowsV q.s q.t) := c7
  refine And.intro trivial (Exists.intro _ (And.intro (res_run (y := H1.next) rfl rfl rfl rfl c7.rd) ⟨(k03.trans k36).new k7 (fun b hb => .inr (by simp at hb; omega)), fun w => absurd he w, fun _ => ⟨b, ?_, by omega, k7.cl (k6.cl cb (by simp)) (by simp; omega), a1, a2⟩⟩))
  show Value.tuple #[slv b _ _, _, _] = _
  rw [show (foG false q.c q.hs q.ln).2.ws.length = q.c.wn by omega]
end
end Go.Ax
namespace Go.Ax
open Go Go.RowKit Go.Proofs
theorem Ch.Vd.ok {c : Ch} (v : c.Vd) : c.ok = true := by
  have h1 := v.h1; have h16 := v.h16; have h32 := v.h32; have wp := v.wp
  have e : sizesB c.pn c.gn = true := by simp [sizesB]; omega
  simp only [Ch.ok, chainB, waterOkB, v.p, v.g, v.w, e, Bool.and_true, Bool.and_self]
  simp; omega
theorem fold_plusG {c : Ch} {g : Bool} : ∀ (l : List Hr) (gs : List Gt) (s u : St), l.foldl (fun x h => (boardsF h x.1, hourF c g h x.1 x.2)) (gs, s.plus u) = ((l.foldl (fun x h => (boardsF h x.1, hourF c g h x.1 x.2)) (gs, s)).1, (l.foldl (fun x h => (boardsF h x.1, hourF c g h x.1 x.2)) (gs, s)).2.plus u)
  | [], _, _, _ => rfl
  | h :: l, gs, s, u => by
    rw [List.foldl_cons, List.foldl_cons]
    show l.foldl _ (boardsF h gs, hourF c g h gs (s.plus u)) = _
    rw [hour_plus, fold_plusG l]
/-- The hours behind the k-th one, from what the k hours left, counted anew, and what those had counted. -/
theorem foG_after {g : Bool} {c : Ch} {hs : List Hr} {k j : Nat} {ga : Option Addr} {gcap : Nat} {wa : Option Addr} {wcap : Nat} :
    foG g c hs (k + j) = ((foG g (c.after hs k ga gcap wa wcap) (hs.drop k) j).1, (foG g (c.after hs k ga gcap wa wcap) (hs.drop k) j).2.plus (foG g c hs k).2) := by
  have hlen : (foG false c hs k).2.ws.length = (foG true c hs k).2.ws.length := by rw [fo_len, fo_len]
  obtain ⟨z1, z2⟩ := endS_zip _ _ hlen
  have e1 : (c.after hs k ga gcap wa wcap).gs = (foG g c hs k).1 := by
    cases g
    · rfl
    · exact foG_gates k
  have e2 : s0 g (c.after hs k ga gcap wa wcap) = ⟨(foG g c hs k).2.ws, 0, 0, 0, 0⟩ := by
    show (⟨endS g ((foG false c hs k).2.ws.zip (foG true c hs k).2.ws), 0, 0, 0, 0⟩ : St) = _
    cases g
    · rw [z1]
    · rw [z2]
  have e3 : foG g (c.after hs k ga gcap wa wcap) (hs.drop k) j = ((hs.drop k).take j).foldl (fun x h => (boardsF h x.1, hourF c g h x.1 x.2)) ((foG g c hs k).1, ⟨(foG g c hs k).2.ws, 0, 0, 0, 0⟩) := by
    rw [← e1, ← e2]; rfl
  have e4 : (foG g c hs k).2 = St.plus ⟨(foG g c hs k).2.ws, 0, 0, 0, 0⟩ (foG g c hs k).2 := by simp [St.plus]
  have e5 : foG g c hs (k + j) = ((hs.drop k).take j).foldl (fun x h => (boardsF h x.1, hourF c g h x.1 x.2)) (foG g c hs k) := by
    unfold foG; rw [List.take_add, List.foldl_append]
  rw [e3, ← fold_plusG, e5, ← e4]

/-- a gate, its boards out -/
def Gt.bare (g : Gt) : Gt := { g with boards := 0 }
theorem boardS_bare (gs : List Gt) (b : Bd) : (boardS gs b).map Gt.bare = gs.map Gt.bare := by
  unfold boardS
  rw [List.map_set]
  rcases Nat.lt_or_ge b.gate.toNat gs.length with h | h
  · have : Gt.bare { gs.getD b.gate.toNat gt0 with boards := b.boards } = (gs.map Gt.bare)[b.gate.toNat]'(by simpa using h) := by
      simp [Gt.bare, List.getD, List.getElem?_eq_getElem h]
    rw [this, List.set_getElem_self]
  · rw [List.set_eq_of_length_le (by simpa using h)]
theorem boards_bare (h : Hr) (gs : List Gt) : (boardsF h gs).map Gt.bare = gs.map Gt.bare := by
  unfold boardsF
  have : ∀ (l : List Bd) (gs : List Gt), (l.foldl boardS gs).map Gt.bare = gs.map Gt.bare := by
    intro l
    induction l with
    | nil => intro gs; rfl
    | cons b l ih => intro gs; rw [List.foldl_cons, ih, boardS_bare]
  exact this _ _
theorem boards_lenF (h : Hr) (gs : List Gt) : (boardsF h gs).length = gs.length := by simpa using congrArg List.length (boards_bare h gs)
theorem boards_put {h : Hr} {gs : List Gt} {j : Nat} {x y : Gt} (hx : gs[j]? = some x) (hy : (boardsF h gs)[j]? = some y) : { x with boards := y.boards } = y := by
  have e := boards_bare h gs
  have e2 : ((boardsF h gs).map Gt.bare)[j]? = (gs.map Gt.bare)[j]? := by rw [e]
  rw [List.getElem?_map, List.getElem?_map, hx, hy] at e2
  simp only [Option.map_some, Option.some.injEq] at e2
  cases x; cases y
  simp only [Gt.bare, Gt.mk.injEq] at e2 ⊢
  obtain ⟨a1, a2, a3, a4, _, a6⟩ := e2
  exact ⟨a1.symm, a2.symm, a3.symm, a4.symm, trivial, a6.symm⟩
/-- the first j with their new boards -/
def mixG (h : Hr) (gs : List Gt) (j : Nat) : List Gt := (boardsF h gs).take j ++ gs.drop j
theorem mix_len {h : Hr} {gs : List Gt} {j : Nat} (hj : j ≤ gs.length) : (mixG h gs j).length = gs.length := by
  have := boards_lenF h gs
  simp [mixG]; omega
theorem mix_get {h : Hr} {gs : List Gt} {j : Nat} {x : Gt} (hx : gs[j]? = some x) : (mixG h gs j)[j]? = some x := by
  have := get_lt hx
  have := boards_lenF h gs
  unfold mixG
  rw [List.getElem?_append_right (by simp; omega)]
  simp only [List.length_take, List.getElem?_drop]
  rw [show j + (j - min j (boardsF h gs).length) = j by omega]; exact hx
theorem mix_step {h : Hr} {gs : List Gt} {j : Nat} {y : Gt} (hy : (boardsF h gs)[j]? = some y) : (mixG h gs j).set j y = mixG h gs (j + 1) := by
  have hl := get_lt hy
  have hl2 := boards_lenF h gs
  obtain ⟨x, hx⟩ := get_some (l := gs) (i := j) (by omega)
  unfold mixG
  rw [List.take_add_one, hy, List.set_append_right _ _ (by simp; omega), List.drop_eq_getElem_cons (by omega : j < gs.length)]
  simp only [List.length_take, Nat.min_eq_left (Nat.le_of_lt hl), Nat.sub_self, List.set_cons_zero, Option.toList, List.append_assoc, List.singleton_append]
theorem mix_all (h : Hr) (gs : List Gt) : mixG h gs gs.length = boardsF h gs := by
  have := boards_lenF h gs
  unfold mixG; rw [List.drop_length, List.take_of_length_le (by omega), List.append_nil]

theorem neq_flows {x y : Operand} {x1 x2 x3 x4 x5 x6 x7 x8 : Int} : prun Try.prog (do eqGuard .neq 37 x y (.agg #[iv x1, iv x2, iv x3, iv x4, iv x5, iv x6, iv x7, iv x8]) (.agg #[iv x1, iv x2, iv x3, iv x4, iv x5, iv x6, iv x7, iv x8]); binOp .neq 37 (.agg #[iv x1, iv x2, iv x3, iv x4, iv x5, iv x6, iv x7, iv x8]) (.agg #[iv x1, iv x2, iv x3, iv x4, iv x5, iv x6, iv x7, iv x8])) = some (.bool false) := by
  rw [prun_bind, show prun Try.prog (eqGuard .neq 37 x y (.agg #[iv x1, iv x2, iv x3, iv x4, iv x5, iv x6, iv x7, iv x8]) (.agg #[iv x1, iv x2, iv x3, iv x4, iv x5, iv x6, iv x7, iv x8])) = some () by kernel_rfl, Option.bind_some]
  show prun Try.prog (do pure (Value.bool (!(← Op.equalIn (9997 + 3) 37 (.agg #[iv x1, iv x2, iv x3, iv x4, iv x5, iv x6, iv x7, iv x8]) (.agg #[iv x1, iv x2, iv x3, iv x4, iv x5, iv x6, iv x7, iv x8]))))) = _
  rw [prun_bind, same_flows]; rfl
theorem pur_neq37 {A : Fr} {o : Oper} {x y : Operand} {rt : TypeId} {x1 x2 x3 x4 x5 x6 x7 x8 : Int} (ho : o.op = .binOp .neq 37 x y rt) (hx : ev A x = some (.agg #[iv x1, iv x2, iv x3, iv x4, iv x5, iv x6, iv x7, iv x8])) (hy : ev A y = some (.agg #[iv x1, iv x2, iv x3, iv x4, iv x5, iv x6, iv x7, iv x8])) : pureOp Try.prog A o = some (.bool false) := by
  unfold pureOp
  simp only [ho, hx, hy]
  rw [show flat (.agg #[iv x1, iv x2, iv x3, iv x4, iv x5, iv x6, iv x7, iv x8]) = true from rfl]
  simp only [Bool.and_self, cond_true, neq_flows]
  rfl
section
variable {P : Program} {lo : Nat}
theorem heap_slice_ro {n : Nat} {S : Rg} {H : Hp} {d : Option Tmp} {t e ty : TypeId} {x y : Operand} {p : String} {m cap b k : Nat} {cs : List Value} {i : TypeInfo} (ht : P.underlying t = some (.slice e)) (hi : P.info? e = some i) (h0 : H.t.get b = some (.ro cs))
    (hx : evS S x = some (.slice (some ⟨b, 0, none⟩) m cap)) (hy : evS S y = some (iv k)) (hk : k < m) (hm : m ≤ cap) :
    heapOp P lo (frS n S) H ⟨d, .slice t x (some y) none none, ty, p, #[], none⟩ = some (.val (.slice (some ⟨b, k * i.size, none⟩) (m - k) (cap - k)) H, .read b) := by
  have hb : boundOf (frS n S) 0 (some y) = some k := by unfold boundOf; simp only [ev_frS, hy]
  have hb0 : boundOf (frS n S) m none = some m := rfl
  have hne : Nat.beq cap k = false := by
    cases h : Nat.beq cap k
    · rfl
    · have := Nat.eq_of_beq_eq_true h; omega
  unfold heapOp
  simp only [ev_frS, hx, ht, hi, hb, hb0, h0, hne, Nat.ble_eq_true_of_le hm, Nat.ble_eq_true_of_le (Nat.le_of_lt hk), Bool.and_self, cond_true, cond_false]
  simp [Addr.add]
  exact fun h => h.symm
end
theorem in30 : ∃ i, Try.prog.info? 30 = some i ∧ i.size = 3 := by
  have h : (Try.prog.info? 30).map (fun i => Nat.beq i.size 3) = some true := by kernel_rfl
  cases e : Try.prog.info? 30 with
  | none => rw [e] at h; cases h
  | some i => rw [e] at h; exact ⟨i, rfl, by simpa using h⟩
end Go.Ax
namespace Go.Ax
open Go Go.RowKit Go.Proofs
noncomputable def R39t4 : RC := (.dreg [⟨(some 4), none, (.mov (.tmp 0))⟩, ⟨(some 5), none, (.mov (.tmp 0))⟩, ⟨(some 6), none, (.mov (.tmp 0))⟩, ⟨(some 7), none, (.nilc (.tmp 6))⟩, ⟨(some 8), none, (.addo (.tmp 7) 0)⟩, ⟨(some 9), none, (.ld (.tmp 8) 1)⟩, ⟨(some 10), none, (.addo (.tmp 3) 0)⟩, ⟨(some 11), none, (.ld (.tmp 10) 1)⟩, ⟨(some 12), none, (.ari .add (.tmp 9) (.tmp 11))⟩, ⟨(some 13), none, (.mov (.tmp 0))⟩, ⟨(some 14), none, (.nilc (.tmp 13))⟩, ⟨(some 15), none, (.addo (.tmp 14) 1)⟩, ⟨(some 16), none, (.ld (.tmp 15) 1)⟩, ⟨(some 17), none, (.addo (.tmp 3) 1)⟩, ⟨(some 18), none, (.ld (.tmp 17) 1)⟩, ⟨(some 19), none, (.ari .add (.tmp 16) (.tmp 18))⟩, ⟨(some 20), none, (.nilc (.tmp 4))⟩, ⟨(some 21), none, (.addo (.tmp 20) 0)⟩, ⟨none, none, (.st (.tmp 21) (.tmp 12))⟩, ⟨(some 22), none, (.nilc (.tmp 5))⟩, ⟨(some 23), none, (.addo (.tmp 22) 1)⟩, ⟨none, none, (.st (.tmp 23) (.tmp 19))⟩] [2097151, 1048575, 524287, 204797, 73725, 8189, 32256, 8192, 0, 3584, 1536, 512, 0, 252, 64, 0, 28, 12, 4, 0, 0, 0])
theorem L39t4 : low Try.prog 24 (at_ Try.f39 [1]) = some R39t4 := by kernel_rfl
noncomputable def R39v : RC := (.seq (.reg [⟨(some 3), none, (.box 35 (.tmp 1))⟩])
  (.other (at_ Try.f39 [1])))
theorem V39 : LV Try.prog 24 (at_ Try.f39 []) R39v := by
  have e : at_ Try.f39 [] = (.seq (at_ Try.f39 [0]) (at_ Try.f39 [1])) := by kernel_rfl
  rw [e]
  exact (.seq (.low (by kernel_rfl)) (.other _))

section
variable {P : Program} {kn : FuncId → Option Bool} {lo : Nat}
theorem fnX_lv {f : FuncId} {fn : Func} {R : RC} {n : Nat} {rs : List ResultVar} {args : List Value} {H : Hp} {Q : Value → Hp → Prop} (hf : P.funcs[f]? = some fn) (hb : fn.body = some (at_ fn [])) (hn : fn.ntmps = n) (hz : fn.results.toList = rs) (hL : LV P n (at_ fn []) R) (hl : args.length ≤ n)
    (h : wC P kn lo n false R (argS args 0) H fun e S' H' => (match e with | .normal => True | .ret => True | _ => False) ∧ ∃ vs, resS P S' H' rs = some vs ∧ Q (retV vs) H') :
    ∃ v H', FnX P kn lo f args H v H' ∧ Q v H' := by
  subst hn hz
  exact fnX_of_tri hf hb hl (wC_lv hL h)
end
section
variable {kn : FuncId → Option Bool} {lo : Nat} {H : Hp}
theorem add_ok {b o : Nat} {cs : List Value} {a1 a2 x y : Int} (h : Cl H b cs) (h1 : cs[o]? = some (iv a1)) (h2 : cs[o + 1]? = some (iv a2)) (r1 : InR (a1 + x)) (r2 : InR (a2 + y)) (hl : lo ≤ b) :
    ∃ H', FnX Try.prog kn lo 39 [.pointer (some ⟨b, o, none⟩), sp x y] H unit H' ∧ Keep H H' [b] ∧ Cl H' b ((cs.set o (iv (a1 + x))).set (o + 1) (iv (a2 + y))) := by
  have key := fnX_lv (kn := kn) (lo := lo) (H := H) (args := [.pointer (some ⟨b, o, none⟩), sp x y]) (Q := fun v H' => v = unit ∧ Keep H H' [b] ∧ Cl H' b ((cs.set o (iv (a1 + x))).set (o + 1) (iv (a2 + y)))) Try.func39 B39 N39 Z39 V39 (by simp) ?_
  · obtain ⟨v, H', f, rfl, q⟩ := key; exact ⟨H', f, q⟩
  intro H1 hH1; obtain ⟨k1, n1, c1⟩ := new_facts hH1; clear hH1
  have c1 : Cl H1 H.next [iv x, iv y] := c1
  have hlt := h.lt
  have hc := k1.cl h (by simp)
  have ho1 := get_lt h1
  have ho2 := get_lt h2
  refine tri_piece (S0 := [(0, .pointer (some ⟨b, o, none⟩)), (3, pt H.next)]) L39t4 ⟨rfl, rfl, trivial⟩ ?_
  refine wD_dreg ?_
  refine wD_mov (v := .pointer (some ⟨b, o, none⟩)) rfl ?_
  refine wD_mov (v := .pointer (some ⟨b, o, none⟩)) rfl ?_
  refine wD_mov (v := .pointer (some ⟨b, o, none⟩)) rfl ?_
  refine wD_nilc (a := ⟨b, o, none⟩) rfl ?_
  refine wD_addo (b := b) (o := o) rfl ?_
  refine wD_ld (b := b) (o := o + 0) (v := iv a1) rfl hc.rd h1 ?_
  refine wD_addo (b := H.next) (o := 0) rfl ?_
  refine wD_ld (b := H.next) (o := 0 + 0) (v := iv x) rfl c1.rd rfl ?_
  refine wD_add (a := a1) (b := x) rfl rfl r1 ?_
  refine wD_mov (v := .pointer (some ⟨b, o, none⟩)) rfl ?_
  refine wD_nilc (a := ⟨b, o, none⟩) rfl ?_
  refine wD_addo (b := b) (o := o) rfl ?_
  refine wD_ld (b := b) (o := o + 1) (v := iv a2) rfl hc.rd h2 ?_
  refine wD_addo (b := H.next) (o := 0) rfl ?_
  refine wD_ld (b := H.next) (o := 0 + 1) (v := iv y) rfl c1.rd rfl ?_
  refine wD_add (a := a2) (b := y) rfl rfl r2 ?_
  refine wD_nilc (a := ⟨b, o, none⟩) rfl ?_
  refine wD_addo (b := b) (o := o) rfl ?_
  refine wD_st (b := b) (o := o + 0) (v := iv (a1 + x)) rfl rfl hc hl rfl rfl (by omega) ?_
  intro H2 k2 n2 c2
  refine wD_nilc (a := ⟨b, o, none⟩) rfl ?_
  refine wD_addo (b := b) (o := o) rfl ?_
  refine wD_st (b := b) (o := o + 1) (v := iv (a2 + y)) rfl rfl c2 hl rfl rfl (by simp; omega) ?_
  intro H3 k3 n3 c3
  refine wD_end (by repeat' first | exact True.intro | exact (fun h => h) | exact (fun h => absurd (show b = H.next from h) (by omega)) | refine And.intro ?_ ?_) ?_
  exact And.intro trivial (Exists.intro _ (And.intro rfl ⟨rfl, (k1.mono (by simp)).trans (k2.trans k3), c3⟩))
end
/-- What Pass returns, all of it new. -/
structure PassF (c : Ch) (h : Hr) (H H' : Hp) (v : Value) : Prop where
  ok : c.okH h = true → ∃ b n cap bb n2 cap2, v = .tuple #[.slice (some ⟨b, 0, none⟩) n cap, .slice (some ⟨bb, 0, none⟩) n2 cap2, .agg (flowsV (hourF c false h c.gs (s0 false c)) (hourF c true h c.gs (s0 true c))).toArray, iv 0] ∧
    n = c.pn ∧ Sl H' (some ⟨b, 0, none⟩) n cap (spc ((hourF c false h c.gs (s0 false c)).ws.zip (hourF c true h c.gs (s0 true c)).ws)) ∧ n2 = c.gn ∧ Sl H' (some ⟨bb, 0, none⟩) n2 cap2 (ints (bdsOf (boardsF h c.gs))) ∧ H.next ≤ b ∧ H.next ≤ bb
section
variable {kn : FuncId → Option Bool} {lo : Nat} {H : Hp} {c : Ch} {h : Hr}
theorem pass_out_okF (hc : c.At H) (ha : h.At H) (hlo : lo ≤ H.next) :
    ∃ v H', FnX Try.prog kn lo 16 [c.cv, c.wv, .agg h.v.toArray] H v H' ∧ Keep H H' [] ∧ PassF c h H H' v := by
  have key := fnX_low (kn := kn) (lo := lo) (H := H) (args := [c.cv, c.wv, .agg h.v.toArray]) (Q := fun v H' => Keep H H' [] ∧ PassF c h H H' v) Try.func16 B16 N16 Z16 L16 (by simp) ?_
  · exact key
  intro H1 hH1; obtain ⟨k1, n1, c1⟩ := new_facts hH1; clear hH1
  intro H2 hH2; obtain ⟨k2, n2, c2⟩ := new_facts hH2; clear hH2
  intro H3 hH3; obtain ⟨k3, n3, c3⟩ := new_facts hH3; clear hH3
  have c1 : Cl H3 H.next [.slice c.pa c.pn c.pcap, .slice c.ga c.gn c.gcap] := k3.cl (k2.cl c1 (by simp)) (by simp)
  have c2 : Cl H3 H1.next h.v := k3.cl c2 (by simp)
  have c3 : Cl H3 H2.next zero8 := c3
  have k03 : Keep H H3 [] := (k1.trans k2).trans k3
  have m1 := k1.1; have m2 := k2.1; have m3 := k3.1
  refine Exists.intro _ (Exists.intro _ (And.intro c2.of (And.intro (show row 3 _ _ = some h.v from rfl) ?_)))
  obtain ⟨H4, hH4⟩ : ∃ H4, H3.new (.cells h.v 30 false) = H4 := ⟨_, rfl⟩
  refine And.intro rfl (Or.inr (And.intro rfl (Exists.intro _ (Exists.intro H4 (Exists.intro _ (And.intro ((heap_build1 (v := .agg h.v.toArray) se47 z30 rfl rfl rfl (by decide)).trans (by rw [← hH4]; rfl)) (And.intro (fun b e => by cases e) ?_)))))))
  obtain ⟨k4, n4, c4⟩ := new_facts hH4
  clear hH4
  have m4 := k4.1
  have k04 := k03.trans k4
  have hsl : Sl H4 (some ⟨H3.next, 0, none⟩) 1 1 (hrc [h]) := .inr ⟨H3.next, rfl, by have := c4.rd; simpa [hrc] using this, Nat.le_refl _⟩
  have c14 := k4.cl c1 (by simp)
  have c34 := k4.cl c3 (by simp)
  refine Exists.intro _ (Exists.intro _ (And.intro c14.of (And.intro (show row 2 _ _ = some [.slice c.pa c.pn c.pcap, .slice c.ga c.gn c.gcap] from rfl) ?_)))
  obtain ⟨H5, h5, k5⟩ := check_ok (kn := kn) (lo := lo) (H := H4) (hc.keep k04) hsl rfl (fun x hx => by simp at hx; subst hx; exact ha.keep k04) (by omega)
  refine Exists.intro _ (Exists.intro _ (And.intro (callX_args h5) ?_))
  have m5 := k5.1
  have k05 := k04.trans k5
  have c35 := k5.cl c34 (by simp)
  have c15 := k5.cl c14 (by simp)
  by_cases he : checkE c [h] 1 = 0
  rotate_left
  · have hno : c.okH h = false := by
      cases hq : c.okH h with
      | false => rfl
      | true => exact absurd (by rw [check_okH, if_pos hq]) he
    have he1 : checkE c [h] 1 = 1 := by rw [check_okH, if_neg (by rw [hno]; decide)]
    refine And.intro (fun _ => ?_) (fun w => absurd (show checkE c [h] 1 = 0 by simpa using w) he)
    refine And.intro rfl (Exists.intro (.agg zero8.toArray) (And.intro (by kernel_rfl) ?_))
    obtain ⟨_, e6, l6, g6⟩ := id c35
    refine Exists.intro _ (Exists.intro _ (Exists.intro _ (And.intro g6 (And.intro (by omega) (And.intro rfl (And.intro rfl (And.intro (by simp [zero8]) ?_)))))))
    intro H6 hH6; obtain ⟨k6, n6, c6⟩ := up_facts c35 hH6; clear hH6
    have c6 : Cl H6 H2.next zero8 := c6
    refine And.intro trivial (Exists.intro _ (And.intro (res_pass2 (y := H2.next) rfl rfl rfl rfl rfl c6.rd) ⟨k05.new k6 (fun b hb => .inr (by simp at hb; omega)), ⟨(fun w => by rw [hno] at w; cases w)⟩⟩))
  have hyes : c.okH h = true := by
    cases hq : c.okH h with
    | true => rfl
    | false => rw [check_okH, hq] at he; simp at he
  refine And.intro (fun w => absurd he (show checkE c [h] 1 ≠ 0 by simpa using w)) (fun _ => ?_)
  obtain ⟨v, ok2, ok3⟩ := check_vd he hc.lp hc.lg hc.lw
  have h16 := v.h16; have h32 := v.h32; have hwp := v.wp; have hlw := hc.lw
  refine Exists.intro _ (Exists.intro _ (And.intro c15.of (And.intro (show row 2 _ _ = some [.slice c.pa c.pn c.pcap, .slice c.ga c.gn c.gcap] from rfl) ?_)))
  obtain ⟨p1, p2, H6, h6, k6, r1, r2, a1, a2, _⟩ := both_ok (kn := kn) (lo := lo) (H := H5) (q := ⟨c, some ⟨H3.next, 0, none⟩, 1, 1, [h]⟩) (hc.keep k05) (k5.sl0 hsl) rfl (fun x hx => by simp at hx; subst hx; exact ha.keep k05) v ok2 ok3 (by omega)
  refine Exists.intro _ (Exists.intro _ (And.intro (callX_args h6) ?_))
  refine And.intro rfl (Exists.intro (_) (And.intro rfl ?_))
  refine And.intro rfl (Exists.intro (_) (And.intro rfl ?_))
  have m6 := k6.1
  have w1 : (hourF c false h c.gs (s0 false c)).ws.length = c.pn := by rw [hour_len]; simp [s0, endS]; omega
  have w2 : (hourF c true h c.gs (s0 true c)).ws.length = c.pn := by rw [hour_len]; simp [s0, endS]; omega
  have r1 : Crs c false H5.next p1 H6 (boardsF h c.gs) (hourF c false h c.gs (s0 false c)) := r1
  have r2 : Crs c true H5.next p2 H6 (boardsF h c.gs) (hourF c true h c.gs (s0 true c)) := r2
  obtain ⟨b, H7, h7, k7, hb, cb⟩ := between_ok (kn := kn) (lo := lo) (H := H6) r1.hc r2.hc (u := (hourF c false h c.gs (s0 false c)).ws) (w := (hourF c true h c.gs (s0 true c)).ws) r1.hw r2.hw (by show c.wn = _; omega) (by show c.wn = _; omega) (by omega) (by omega) (by omega)
  refine Exists.intro _ (Exists.intro _ (And.intro (callX_args h7) ?_))
  have m7 := k7.1
  obtain ⟨bb, H8, h8, k8, hbb, cbb⟩ := boards_out (kn := kn) (lo := lo) (H := H7) (r1.keep k7) (by omega) (by omega)
  refine Exists.intro _ (Exists.intro _ (And.intro (callX_args h8) ?_))
  have m8 := k8.1
  have k68 := k7.trans k8
  obtain ⟨H9, h9, k9⟩ := flows_ok (kn := kn) (lo := lo) (H := H8) (k68.cl r1.hc (by simp)) (k68.cl r2.hc (by simp)) (by omega)
  refine Exists.intro _ (Exists.intro _ (And.intro (callX_args h9) ?_))
  have m9 := k9.1
  have k59 := (k6.trans k68).trans k9
  have c39 := k59.cl c35 (by simp)
  obtain ⟨_, e10, l10, g10⟩ := id c39
  refine Exists.intro _ (Exists.intro _ (Exists.intro _ (And.intro g10 (And.intro (by omega) (And.intro rfl (And.intro rfl (And.intro (by simp [zero8]) ?_)))))))
  intro H10 hH10; obtain ⟨k10, n10, c10⟩ := up_facts c39 hH10; clear hH10
  have c10 : Cl H10 H2.next (flowsV (hourF c false h c.gs (s0 false c)) (hourF c true h c.gs (s0 true c))) := c10
  have cb := k10.cl (k9.cl (k8.cl cb (by simp)) (by simp)) (by simp; omega)
  have cbb := k10.cl (k9.cl cbb (by simp)) (by simp; omega)
  refine And.intro trivial (Exists.intro _ (And.intro (res_pass2 (y := H2.next) rfl rfl rfl rfl rfl c10.rd) ⟨(k05.trans k59).new k10 (fun b hb => .inr (by simp at hb; omega)), ⟨fun _ => ⟨b, _, _, bb, _, _, rfl, w1, .inr ⟨b, rfl, cb.rd, Nat.le_refl _⟩, rfl, .inr ⟨bb, rfl, cbb.rd, Nat.le_refl _⟩, by omega, by omega⟩⟩⟩))
end
end Go.Ax
namespace Go.Ax
open Go Go.RowKit Go.Proofs
noncomputable def R9x1t68 : RC := (.dreg [⟨(some 68), none, (.lda (.tmp 14) 2)⟩, ⟨(some 69), none, (.mov (.tmp 13))⟩, ⟨(some 70), none, (.mov (.tmp 2))⟩, ⟨(some 71), none, (.mov (.tmp 12))⟩, ⟨(some 72), none, (.mem ⟨(some 72), (.slice 47 (.tmp 70) (some (.tmp 71)) none none), 47, "", (List.toArray []), none⟩)⟩, ⟨(some 73), none, (.call ⟨(.value (.func 25)), (List.toArray [(.tmp 68), (.tmp 69), (.tmp 72)]), (List.toArray [25, 26, 47])⟩ false)⟩, ⟨(some 67), none, (.mov (.tmp 73))⟩, ⟨(some 74), none, (.pur ⟨(some 74), (.extract (.tmp 67) 0), 26, "", (List.toArray []), none⟩)⟩, ⟨(some 75), none, (.pur ⟨(some 75), (.extract (.tmp 67) 1), 37, "", (List.toArray []), none⟩)⟩, ⟨(some 76), none, (.pur ⟨(some 76), (.extract (.tmp 67) 2), 38, "", (List.toArray []), none⟩)⟩, ⟨(some 20), none, (.alc 37 [(.int .i64 0), (.int .i64 0), (.int .i64 0), (.int .i64 0), (.int .i64 0), (.int .i64 0), (.int .i64 0), (.int .i64 0)])⟩, ⟨(some 19), none, (.mov (.tmp 74))⟩, ⟨none, none, (.sta (.tmp 20) (.tmp 75) 8)⟩, ⟨(some 21), none, (.mov (.tmp 76))⟩] [8191, 3583, 1279, 0, 127, 127, 127, 63, 31, 12, 0, 0, 0, 0])
theorem L9x1t68 : low Try.prog 182 (at_ Try.f9 [1, 1, 1, 1, 1, 1, 1, 1, 0, 1, 0, 0, 1, 1, 0, 0, 1, 0, 1, 0, 0]) = some R9x1t68 := by kernel_rfl
noncomputable def R9x1t77 : RC := (.reg [⟨(some 77), none, (.lda (.tmp 15) 8)⟩, ⟨(some 22), none, (.alc 37 [(.int .i64 0), (.int .i64 0), (.int .i64 0), (.int .i64 0), (.int .i64 0), (.int .i64 0), (.int .i64 0), (.int .i64 0)])⟩, ⟨none, none, (.sta (.tmp 22) (.tmp 77) 8)⟩])
theorem L9x1t77 : low Try.prog 182 (at_ Try.f9 [1, 1, 1, 1, 1, 1, 1, 1, 0, 1, 0, 0, 1, 1, 0, 0, 1, 0, 1, 0, 1, 0]) = some R9x1t77 := by kernel_rfl
noncomputable def R9x1t78 : RC := (.seq (.reg [⟨(some 78), none, (.mov (.tmp 16))⟩, ⟨(some 79), none, (.addo (.tmp 22) 0)⟩, ⟨(some 80), none, (.addo (.tmp 20) 0)⟩, ⟨(some 81), none, (.lda (.tmp 80) 2)⟩, ⟨(some 82), none, (.call ⟨(.value (.tmp 78)), (List.toArray [(.tmp 79), (.tmp 81)]), (List.toArray [78, 35])⟩ true)⟩])
  (.seq (.reg [⟨(some 83), none, (.mov (.tmp 16))⟩, ⟨(some 84), none, (.addo (.tmp 22) 2)⟩, ⟨(some 85), none, (.addo (.tmp 20) 2)⟩, ⟨(some 86), none, (.lda (.tmp 85) 2)⟩, ⟨(some 87), none, (.call ⟨(.value (.tmp 83)), (List.toArray [(.tmp 84), (.tmp 86)]), (List.toArray [78, 35])⟩ true)⟩])
  (.seq (.reg [⟨(some 88), none, (.mov (.tmp 16))⟩, ⟨(some 89), none, (.addo (.tmp 22) 4)⟩, ⟨(some 90), none, (.addo (.tmp 20) 4)⟩, ⟨(some 91), none, (.lda (.tmp 90) 2)⟩, ⟨(some 92), none, (.call ⟨(.value (.tmp 88)), (List.toArray [(.tmp 89), (.tmp 91)]), (List.toArray [78, 35])⟩ true)⟩])
  (.seq (.reg [⟨(some 93), none, (.mov (.tmp 16))⟩, ⟨(some 94), none, (.addo (.tmp 22) 6)⟩, ⟨(some 95), none, (.addo (.tmp 20) 6)⟩, ⟨(some 96), none, (.lda (.tmp 95) 2)⟩, ⟨(some 97), none, (.call ⟨(.value (.tmp 93)), (List.toArray [(.tmp 94), (.tmp 96)]), (List.toArray [78, 35])⟩ true)⟩])
  (.seq (.reg [⟨(some 98), none, (.mov (.tmp 21))⟩, ⟨(some 99), none, (.cmpb .neq (.tmp 98) (.const (.int .i64 0)))⟩, ⟨(some 100), none, (.mov (.tmp 99))⟩, ⟨(some 101), (some (100, false)), (.mov (.tmp 19))⟩, ⟨(some 102), (some (100, false)), (.mov (.tmp 9))⟩, ⟨(some 103), (some (100, false)), (.call ⟨(.value (.func 22)), (List.toArray [(.tmp 101), (.tmp 102)]), (List.toArray [26, 26])⟩ true)⟩, ⟨(some 104), (some (100, false)), (.pur ⟨(some 104), (.unOp .not 4 (.tmp 103)), 4, "", (List.toArray []), none⟩)⟩, ⟨(some 105), none, (.pur ⟨(some 105), (.pick (.tmp 100) (.const (.bool true)) (.tmp 104)), 4, "", (List.toArray []), none⟩)⟩, ⟨(some 106), none, (.mov (.tmp 105))⟩, ⟨(some 107), (some (106, false)), (.lda (.tmp 22) 8)⟩, ⟨(some 108), (some (106, false)), (.lda (.tmp 10) 8)⟩, ⟨(some 109), (some (106, false)), (.pur ⟨(some 109), (.binOp .neq 37 (.tmp 107) (.tmp 108) 37), 4, "", (List.toArray []), none⟩)⟩, ⟨(some 110), none, (.pur ⟨(some 110), (.pick (.tmp 106) (.const (.bool true)) (.tmp 109)), 4, "", (List.toArray []), none⟩)⟩])
  (.cond (.tmp 110) (.seq (.reg [⟨(some 8), none, (.mov (.const (.bool false)))⟩])
  .ret)
  .skip))))))
theorem L9x1t78 : low Try.prog 182 (at_ Try.f9 [1, 1, 1, 1, 1, 1, 1, 1, 0, 1, 0, 0, 1, 1, 0, 0, 1, 0, 1, 0, 1, 1]) = some R9x1t78 := by kernel_rfl
noncomputable def R9x1t112 : RC := (.reg [⟨(some 112), none, (.lda (.tmp 14) 2)⟩, ⟨(some 113), none, (.mov (.tmp 13))⟩, ⟨(some 114), none, (.lda (.tmp 18) 3)⟩, ⟨(some 115), none, (.call ⟨(.value (.func 16)), (List.toArray [(.tmp 112), (.tmp 113), (.tmp 114)]), (List.toArray [25, 26, 30])⟩ true)⟩, ⟨(some 111), none, (.mov (.tmp 115))⟩, ⟨(some 116), none, (.pur ⟨(some 116), (.extract (.tmp 111) 0), 26, "", (List.toArray []), none⟩)⟩, ⟨(some 117), none, (.pur ⟨(some 117), (.extract (.tmp 111) 1), 33, "", (List.toArray []), none⟩)⟩, ⟨(some 118), none, (.pur ⟨(some 118), (.extract (.tmp 111) 2), 37, "", (List.toArray []), none⟩)⟩, ⟨(some 119), none, (.pur ⟨(some 119), (.extract (.tmp 111) 3), 38, "", (List.toArray []), none⟩)⟩, ⟨(some 25), none, (.alc 37 [(.int .i64 0), (.int .i64 0), (.int .i64 0), (.int .i64 0), (.int .i64 0), (.int .i64 0), (.int .i64 0), (.int .i64 0)])⟩, ⟨(some 23), none, (.mov (.tmp 116))⟩, ⟨(some 24), none, (.mov (.tmp 117))⟩, ⟨none, none, (.sta (.tmp 25) (.tmp 118) 8)⟩, ⟨(some 26), none, (.mov (.tmp 119))⟩])
theorem L9x1t112 : low Try.prog 182 (at_ Try.f9 [1, 1, 1, 1, 1, 1, 1, 1, 0, 1, 0, 0, 1, 1, 0, 0, 1, 1, 0]) = some R9x1t112 := by kernel_rfl
noncomputable def R9x1t130 : RC := (.reg [⟨(some 130), none, (.mem ⟨(some 130), (.buildSlice 23 0 (List.toArray [])), 23, "", (List.toArray []), none⟩)⟩, ⟨(some 131), none, (.addo (.tmp 14) 1)⟩, ⟨(some 132), none, (.ld (.tmp 131) 1)⟩, ⟨(some 133), none, (.mem ⟨(some 133), (.call ⟨(.builtin .append), (List.toArray [(.tmp 130), (.tmp 132)]), (List.toArray [23, 23])⟩), 23, "", (List.toArray []), none⟩)⟩, ⟨(some 134), none, (.addo (.tmp 14) 1)⟩, ⟨none, none, (.st (.tmp 134) (.tmp 133))⟩])
theorem L9x1t130 : low Try.prog 182 (at_ Try.f9 [1, 1, 1, 1, 1, 1, 1, 1, 0, 1, 0, 0, 1, 1, 0, 0, 1, 1, 1, 1, 0]) = some R9x1t130 := by kernel_rfl
noncomputable def R9x1t135 : RC := (.seq (.reg [⟨(some 135), none, (.mov (.tmp 24))⟩, ⟨(some 136), none, (.len (.tmp 135))⟩, ⟨(some 137), none, (.mov (.const (.int .i64 0)))⟩])
  (.block 2 (.other (at_ Try.f9 [1, 1, 1, 1, 1, 1, 1, 1, 0, 1, 0, 0, 1, 1, 0, 0, 1, 1, 1, 1, 1, 0, 1, 0]))))
theorem L9x1t135 : low Try.prog 182 (at_ Try.f9 [1, 1, 1, 1, 1, 1, 1, 1, 0, 1, 0, 0, 1, 1, 0, 0, 1, 1, 1, 1, 1, 0]) = some R9x1t135 := by kernel_rfl
noncomputable def R9x1t149 : RC := (.seq (.reg [⟨(some 149), none, (.mov (.tmp 23))⟩, ⟨(some 13), none, (.mov (.tmp 149))⟩])
  (.seq (.reg [⟨(some 150), none, (.mov (.tmp 16))⟩, ⟨(some 151), none, (.addo (.tmp 15) 0)⟩, ⟨(some 152), none, (.addo (.tmp 25) 0)⟩, ⟨(some 153), none, (.lda (.tmp 152) 2)⟩, ⟨(some 154), none, (.call ⟨(.value (.tmp 150)), (List.toArray [(.tmp 151), (.tmp 153)]), (List.toArray [78, 35])⟩ true)⟩])
  (.seq (.reg [⟨(some 155), none, (.mov (.tmp 16))⟩, ⟨(some 156), none, (.addo (.tmp 15) 2)⟩, ⟨(some 157), none, (.addo (.tmp 25) 2)⟩, ⟨(some 158), none, (.lda (.tmp 157) 2)⟩, ⟨(some 159), none, (.call ⟨(.value (.tmp 155)), (List.toArray [(.tmp 156), (.tmp 158)]), (List.toArray [78, 35])⟩ true)⟩])
  (.seq (.reg [⟨(some 160), none, (.mov (.tmp 16))⟩, ⟨(some 161), none, (.addo (.tmp 15) 4)⟩, ⟨(some 162), none, (.addo (.tmp 25) 4)⟩, ⟨(some 163), none, (.lda (.tmp 162) 2)⟩, ⟨(some 164), none, (.call ⟨(.value (.tmp 160)), (List.toArray [(.tmp 161), (.tmp 163)]), (List.toArray [78, 35])⟩ true)⟩])
  (.reg [⟨(some 165), none, (.mov (.tmp 16))⟩, ⟨(some 166), none, (.addo (.tmp 15) 6)⟩, ⟨(some 167), none, (.addo (.tmp 25) 6)⟩, ⟨(some 168), none, (.lda (.tmp 167) 2)⟩, ⟨(some 169), none, (.call ⟨(.value (.tmp 165)), (List.toArray [(.tmp 166), (.tmp 168)]), (List.toArray [78, 35])⟩ true)⟩])))))
theorem L9x1t149 : low Try.prog 182 (at_ Try.f9 [1, 1, 1, 1, 1, 1, 1, 1, 0, 1, 0, 0, 1, 1, 0, 0, 1, 1, 1, 1, 1, 1]) = some R9x1t149 := by kernel_rfl
abbrev f39v : Value := .func (.func 39) #[] #[]
section
variable {P : Program} {kn : FuncId → Option Bool} {lo n : Nat} {masks : List Nat} {r : List RO} {ks : List Kd} {S : Rg} {H : Hp} {K : Rg → Hp → Prop} {d : Option Nat}
theorem wD_memh {o : Oper} {v : Value} {H' : Hp} {k : Kd} (hd : defd S o.op.operands.toList = true) (hp : pureOp P (frS n S) o = none) (hh : heapOp P lo (frS n S) H o = some (.val v H', k)) (hb : ∀ b, k = .read b → b < H.next)
    (h : wDraw P kn lo n masks r (k :: ks) (putS S d v) H' K) : wDraw P kn lo n masks (⟨d, none, .mem o⟩ :: r) ks S H K := ⟨hd, .inr ⟨hp, v, H', k, hh, hb, by cases k with | read b => exact ⟨hb b rfl, h⟩ | _ => exact h⟩⟩
end
section
variable {kn : FuncId → Option Bool} {lo : Nat} {H : Hp}
/-- The four sums. -/
structure Sums (kn : FuncId → Option Bool) (lo : Nat) (b : Nat) (x1 x2 x3 x4 x5 x6 x7 x8 y1 y2 y3 y4 y5 y6 y7 y8 : Int) (H0 H1 H2 H3 H4 : Hp) : Prop where
  f1 : FnX Try.prog kn lo 39 [.pointer (some ⟨b, 0 + 0, none⟩), sp y1 y2] H0 unit H1
  k1 : Keep H0 H1 [b]
  f2 : FnX Try.prog kn lo 39 [.pointer (some ⟨b, 0 + 2, none⟩), sp y3 y4] H1 unit H2
  k2 : Keep H1 H2 [b]
  f3 : FnX Try.prog kn lo 39 [.pointer (some ⟨b, 0 + 4, none⟩), sp y5 y6] H2 unit H3
  k3 : Keep H2 H3 [b]
  f4 : FnX Try.prog kn lo 39 [.pointer (some ⟨b, 0 + 6, none⟩), sp y7 y8] H3 unit H4
  k4 : Keep H3 H4 [b]
  c : Cl H4 b [iv (x1 + y1), iv (x2 + y2), iv (x3 + y3), iv (x4 + y4), iv (x5 + y5), iv (x6 + y6), iv (x7 + y7), iv (x8 + y8)]
theorem sums_ok {b : Nat} {x1 x2 x3 x4 x5 x6 x7 x8 y1 y2 y3 y4 y5 y6 y7 y8 : Int} (h : Cl H b [iv x1, iv x2, iv x3, iv x4, iv x5, iv x6, iv x7, iv x8]) (hl : lo ≤ b)
    (r1 : InR (x1 + y1)) (r2 : InR (x2 + y2)) (r3 : InR (x3 + y3)) (r4 : InR (x4 + y4)) (r5 : InR (x5 + y5)) (r6 : InR (x6 + y6)) (r7 : InR (x7 + y7)) (r8 : InR (x8 + y8)) :
    ∃ H1 H2 H3 H4, Sums kn lo b x1 x2 x3 x4 x5 x6 x7 x8 y1 y2 y3 y4 y5 y6 y7 y8 H H1 H2 H3 H4 := by
  obtain ⟨H1, f1, k1, c1⟩ := add_ok (kn := kn) (lo := lo) (o := 0 + 0) (x := y1) (y := y2) h rfl rfl r1 r2 hl
  have c1 : Cl H1 b [iv (x1 + y1), iv (x2 + y2), iv x3, iv x4, iv x5, iv x6, iv x7, iv x8] := c1
  obtain ⟨H2, f2, k2, c2⟩ := add_ok (kn := kn) (lo := lo) (o := 0 + 2) (x := y3) (y := y4) c1 rfl rfl r3 r4 hl
  have c2 : Cl H2 b [iv (x1 + y1), iv (x2 + y2), iv (x3 + y3), iv (x4 + y4), iv x5, iv x6, iv x7, iv x8] := c2
  obtain ⟨H3, f3, k3, c3⟩ := add_ok (kn := kn) (lo := lo) (o := 0 + 4) (x := y5) (y := y6) c2 rfl rfl r5 r6 hl
  have c3 : Cl H3 b [iv (x1 + y1), iv (x2 + y2), iv (x3 + y3), iv (x4 + y4), iv (x5 + y5), iv (x6 + y6), iv x7, iv x8] := c3
  obtain ⟨H4, f4, k4, c4⟩ := add_ok (kn := kn) (lo := lo) (o := 0 + 6) (x := y7) (y := y8) c3 rfl rfl r7 r8 hl
  exact ⟨H1, H2, H3, H4, f1, k1, f2, k2, f3, k3, f4, k4, c4⟩
theorem sumF_piece {S : Rg} {K : Exit → Rg → Hp → Prop} {b15 b25 : Nat} {x1 x2 x3 x4 x5 x6 x7 x8 y1 y2 y3 y4 y5 y6 y7 y8 : Int} {v2 v4 v9 v10 v12 v14 v57 v58 v59 w : Value} (h15 : Cl H b15 [iv x1, iv x2, iv x3, iv x4, iv x5, iv x6, iv x7, iv x8]) (h25 : Rd H b25 [iv y1, iv y2, iv y3, iv y4, iv y5, iv y6, iv y7, iv y8]) (hne : b25 ≠ b15) (hl : lo ≤ b15)
    (r1 : InR (x1 + y1)) (r2 : InR (x2 + y2)) (r3 : InR (x3 + y3)) (r4 : InR (x4 + y4)) (r5 : InR (x5 + y5)) (r6 : InR (x6 + y6)) (r7 : InR (x7 + y7)) (r8 : InR (x8 + y8))
    (hS : Subs [(2, v2), (4, v4), (9, v9), (10, v10), (12, v12), (14, v14), (15, pt b15), (16, f39v), (23, w), (25, pt b25), (57, v57), (58, v58), (59, v59)] S)
    (hK : ∀ S' H', Subs [(2, v2), (4, v4), (9, v9), (10, v10), (12, v12), (13, w), (14, v14), (15, pt b15), (16, f39v), (57, v57), (58, v58), (59, v59)] S' → Keep H H' [b15] → Cl H' b15 [iv (x1 + y1), iv (x2 + y2), iv (x3 + y3), iv (x4 + y4), iv (x5 + y5), iv (x6 + y6), iv (x7 + y7), iv (x8 + y8)] → K .normal S' H') :
    Tri Try.prog kn lo 182 false (at_ Try.f9 [1, 1, 1, 1, 1, 1, 1, 1, 0, 1, 0, 0, 1, 1, 0, 0, 1, 1, 1, 1, 1, 1]) S H K := by
  obtain ⟨H1, H2, H3, H4, s⟩ := sums_ok (kn := kn) (lo := lo) h15 hl r1 r2 r3 r4 r5 r6 r7 r8
  have q0 := h25
  have q1 := s.k1.rd q0 (by simpa using hne)
  have q2 := s.k2.rd q1 (by simpa using hne)
  have q3 := s.k3.rd q2 (by simpa using hne)
  refine tri_piece L9x1t149 hS ?_
  refine Exists.intro _ (Exists.intro _ (And.intro q0.of (And.intro (show row 2 _ _ = some [iv y1, iv y2] from rfl) ?_)))
  refine Exists.intro _ (Exists.intro _ (And.intro (callX_args s.f1) ?_))
  refine Exists.intro _ (Exists.intro _ (And.intro q1.of (And.intro (show row 2 _ _ = some [iv y3, iv y4] from rfl) ?_)))
  refine Exists.intro _ (Exists.intro _ (And.intro (callX_args s.f2) ?_))
  refine Exists.intro _ (Exists.intro _ (And.intro q2.of (And.intro (show row 2 _ _ = some [iv y5, iv y6] from rfl) ?_)))
  refine Exists.intro _ (Exists.intro _ (And.intro (callX_args s.f3) ?_))
  refine Exists.intro _ (Exists.intro _ (And.intro q3.of (And.intro (show row 2 _ _ = some [iv y7, iv y8] from rfl) ?_)))
  refine Exists.intro _ (Exists.intro _ (And.intro (callX_args s.f4) ?_))
  exact hK _ _ ⟨rfl, rfl, rfl, rfl, rfl, rfl, rfl, rfl, rfl, rfl, rfl, rfl, trivial⟩ (s.k1.trans (s.k2.trans (s.k3.trans s.k4))) s.c
/-- The call of Pass. -/
theorem pass9_piece {S : Rg} {K : Exit → Rg → Hp → Prop} {c : Ch} {x : Hr} {b14 b18 : Nat} {v2 v4 v9 v10 v12 v15 v57 v58 v59 : Value} (hc : c.At H) (hx : x.At H) (hok : c.okH x = true) (h14 : Rd H b14 [.slice c.pa c.pn c.pcap, .slice c.ga c.gn c.gcap]) (h18 : Rd H b18 x.v) (hlo : lo ≤ H.next)
    (hS : Subs [(2, v2), (4, v4), (9, v9), (10, v10), (12, v12), (13, c.wv), (14, pt b14), (15, v15), (16, f39v), (18, pt b18), (57, v57), (58, v58), (59, v59)] S)
    (hK : ∀ S' H' b cap bb cap2 b25, Subs [(2, v2), (4, v4), (9, v9), (10, v10), (12, v12), (14, pt b14), (15, v15), (16, f39v), (23, slv b c.pn cap), (24, slv bb c.gn cap2), (25, pt b25), (26, iv 0), (57, v57), (58, v58), (59, v59)] S' → Keep H H' [] → H.next ≤ b25 →
      Cl H' b25 (flowsV (hourF c false x c.gs (s0 false c)) (hourF c true x c.gs (s0 true c))) → Sl H' (some ⟨b, 0, none⟩) c.pn cap (spc ((hourF c false x c.gs (s0 false c)).ws.zip (hourF c true x c.gs (s0 true c)).ws)) → Sl H' (some ⟨bb, 0, none⟩) c.gn cap2 (ints (bdsOf (boardsF x c.gs))) → H.next ≤ b → H.next ≤ bb → K .normal S' H') :
    Tri Try.prog kn lo 182 false (at_ Try.f9 [1, 1, 1, 1, 1, 1, 1, 1, 0, 1, 0, 0, 1, 1, 0, 0, 1, 1, 0]) S H K := by
  obtain ⟨v5, H5, h5, k5, p5⟩ := pass_out_okF (kn := kn) (lo := lo) (H := H) hc hx hlo
  obtain ⟨b, n, cap, bb, n2, cap2, rfl, rfl, s5, rfl, s6, fb, fbb⟩ := p5.ok hok
  have m5 := k5.1
  refine tri_piece L9x1t112 hS ?_
  refine Exists.intro _ (Exists.intro _ (And.intro h14.of (And.intro (show row 2 _ _ = some [.slice c.pa c.pn c.pcap, .slice c.ga c.gn c.gcap] from rfl) ?_)))
  refine Exists.intro _ (Exists.intro _ (And.intro h18.of (And.intro (show row 3 _ _ = some x.v from rfl) ?_)))
  refine Exists.intro _ (Exists.intro _ (And.intro (callX_args h5) ?_))
  refine And.intro rfl (Exists.intro (_) (And.intro rfl ?_))
  refine And.intro rfl (Exists.intro (_) (And.intro rfl ?_))
  refine And.intro rfl (Exists.intro (_) (And.intro rfl ?_))
  refine And.intro rfl (Exists.intro (_) (And.intro rfl ?_))
  intro H6 hH6; obtain ⟨k6, n6, c6⟩ := new_facts hH6; clear hH6
  have m6 := k6.1
  obtain ⟨_, e7, l7, g7⟩ := id c6
  refine Exists.intro _ (Exists.intro _ (Exists.intro _ (And.intro g7 (And.intro (by omega) (And.intro rfl (And.intro rfl (And.intro (by simp) ?_)))))))
  intro H7 hH7; obtain ⟨k7, n7, c7⟩ := up_facts c6 hH7; clear hH7
  have c7 : Cl H7 H5.next (flowsV (hourF c false x c.gs (s0 false c)) (hourF c true x c.gs (s0 true c))) := c7
  have k57 : Keep H5 H7 [] := k6.new k7 (fun b hb => .inr (by simp at hb; omega))
  exact hK _ _ b cap bb cap2 H5.next ⟨rfl, rfl, rfl, rfl, rfl, rfl, rfl, rfl, rfl, rfl, rfl, rfl, rfl, rfl, rfl, trivial⟩ (k5.trans k57) m5 c7 (k57.sl0 s5) (k57.sl0 s6) fb fbb
/-- The copy of the gates. -/
theorem gates9_piece {S : Rg} {K : Exit → Rg → Hp → Prop} {ga : Option Addr} {gn gcap : Nat} {gs : List Gt} {pv : Value} {b14 : Nat} {v2 v4 v9 v10 v12 v15 v23 v24 v25 v57 v58 v59 : Value} (h14 : Cl H b14 [pv, .slice ga gn gcap]) (hp : one pv = true) (hg : Sl H ga gn gcap (gtc gs)) (hgn : gs.length = gn) (hgb : gn ≤ 1000) (hl : lo ≤ b14) (hlo : lo ≤ H.next)
    (hS : Subs [(2, v2), (4, v4), (9, v9), (10, v10), (12, v12), (14, pt b14), (15, v15), (16, f39v), (23, v23), (24, v24), (25, v25), (57, v57), (58, v58), (59, v59)] S)
    (hK : ∀ S' H' gb gcap', Subs [(2, v2), (4, v4), (9, v9), (10, v10), (12, v12), (14, pt b14), (15, v15), (16, f39v), (23, v23), (24, v24), (25, v25), (57, v57), (58, v58), (59, v59)] S' → Keep H H' [b14] → H.next ≤ gb → Cl H' b14 [pv, slv gb gn gcap'] → Cl H' gb (gtc gs) → gn ≤ gcap' → K .normal S' H') :
    Tri Try.prog kn lo 182 false (at_ Try.f9 [1, 1, 1, 1, 1, 1, 1, 1, 0, 1, 0, 0, 1, 1, 0, 0, 1, 1, 1, 1, 0]) S H K := by
  refine tri_piece L9x1t130 hS ?_
  obtain ⟨Ha, hHa⟩ : ∃ Ha, H.new (.cells [] 81 false) = Ha := ⟨_, rfl⟩
  refine And.intro rfl (Or.inr (And.intro rfl (Exists.intro _ (Exists.intro Ha (Exists.intro _ (And.intro ((heap_build0 se23 z81).trans (by rw [← hHa])) (And.intro (fun b e => by cases e) ?_)))))))
  have hga : Ha.t.get H.next = some (.cells [] 81 false) := by
    rw [← hHa]; show (H.t.set H.next _).get H.next = _; rw [Tr.get_set, if_pos rfl]
  obtain ⟨ka, na, ca⟩ := new_facts hHa
  clear hHa
  have h14a := ka.cl h14 (by simp)
  refine Exists.intro _ (Exists.intro _ (And.intro h14a.of (And.intro (show _ = some (.slice ga gn gcap) from rfl) ?_)))
  obtain ⟨ga', gcap', Hb, kd, hap, hkd, kb, own, olt, hcap, gb, rfl⟩ := heap_append_own2 (lo := lo) (L := H.next) hga (Nat.le_refl _) (by omega) (ka.sl0 hg) hgn hgb
  have ma := ka.1; have mb := kb.1
  have h14b := kb.cl h14a (by simp)
  obtain ⟨hgl, hgc⟩ : H.next ≤ gb ∧ Cl Hb gb (gtc gs) := by
    rcases own with ⟨e, _⟩ | ⟨b', e, hl', hcl⟩
    · cases e
    · cases e; exact ⟨hl', hcl⟩
  have hlt := h14.lt
  refine And.intro rfl (Or.inr (And.intro (by kernel_rfl) (Exists.intro _ (Exists.intro Hb (Exists.intro _ (And.intro (hap _ _ _ _ _ _ _ rfl rfl) (And.intro (fun b e => by rcases hkd with rfl | rfl <;> cases e) ?_)))))))
  obtain ⟨_, ec, lc, gc⟩ := id h14b
  refine Exists.intro _ (Exists.intro _ (Exists.intro _ (And.intro gc (And.intro hl (And.intro rfl (And.intro rfl (And.intro (by simp) ?_)))))))
  intro Hd hHd; obtain ⟨kdd, nd, cd⟩ := up_facts h14b hHd; clear hHd
  have cd : Cl Hd b14 [pv, slv gb gn gcap'] := cd
  exact hK _ _ gb gcap' ⟨rfl, rfl, rfl, rfl, rfl, rfl, rfl, rfl, rfl, rfl, rfl, rfl, rfl, rfl, trivial⟩ (((ka.trans kb).mono (by simp)).trans kdd) hgl cd (kdd.cl hgc (by simp; omega)) hcap
/-- The boards, one by one. -/
theorem boards9_piece {S : Rg} {K : Exit → Rg → Hp → Prop} {gn gcap' gb cap2 b14 : Nat} {a2 : Option Addr} {gs : List Gt} {x : Hr} {pv : Value} {v2 v4 v9 v10 v12 v15 v23 v25 v57 v58 v59 : Value} (h14 : Cl H b14 [pv, slv gb gn gcap']) (hgc : Cl H gb (gtc gs)) (hgn : gs.length = gn) (hgb : gn ≤ 1000) (hs : Sl H a2 gn cap2 (ints (bdsOf (boardsF x gs)))) (hne : gb ≠ b14) (hn2 : ∀ b, a2 = some ⟨b, 0, none⟩ → b ≠ gb) (hl : lo ≤ gb)
    (hS : Subs [(2, v2), (4, v4), (9, v9), (10, v10), (12, v12), (14, pt b14), (15, v15), (16, f39v), (23, v23), (24, .slice a2 gn cap2), (25, v25), (57, v57), (58, v58), (59, v59)] S)
    (hK : ∀ S' H', Subs [(2, v2), (4, v4), (9, v9), (10, v10), (12, v12), (14, pt b14), (15, v15), (16, f39v), (23, v23), (25, v25), (57, v57), (58, v58), (59, v59)] S' → Keep H H' [gb] → Cl H' gb (gtc (boardsF x gs)) → K .normal S' H') :
    Tri Try.prog kn lo 182 false (at_ Try.f9 [1, 1, 1, 1, 1, 1, 1, 1, 0, 1, 0, 0, 1, 1, 0, 0, 1, 1, 1, 1, 1, 0]) S H K := by
  have hlen := boards_lenF x gs
  refine tri_piece L9x1t135 hS ?_
  refine loop_low (fn := Try.f9) E9_2 N9 L9x2 (fun i : Nat => [(2, v2), (4, v4), (9, v9), (10, v10), (12, v12), (14, pt b14), (15, v15), (16, f39v), (23, v23), (25, v25), (57, v57), (58, v58), (59, v59), (135, .slice a2 gn cap2), (136, iv (gn : Int)), (137, iv (i : Int))])
    (fun k i H' => i + k = gn ∧ Keep H H' [gb] ∧ Cl H' gb (gtc (mixG x gs i))) gn 0 ⟨by omega, Keep.refl _ _, by simpa [mixG] using hgc⟩ ⟨rfl, rfl, rfl, rfl, rfl, rfl, rfl, rfl, rfl, rfl, rfl, rfl, rfl, rfl, rfl, rfl, trivial⟩ ?_
  rintro k i H' ⟨hik, hk, hcl⟩
  have hkn := hk.1
  refine And.intro (fun hlt => ?_) (fun hge => ?_)
  · have hi : i < gn := by simpa using hlt
    have hs' := hk.sl hs (fun b e => by have := hn2 b e; simp; omega)
    rcases hs' with ⟨_, h0, _⟩ | ⟨b2, rfl, hbc, _⟩
    · omega
    obtain ⟨y, hy⟩ := get_some (l := boardsF x gs) (i := i) (by omega)
    obtain ⟨g, hg⟩ := get_some (l := gs) (i := i) (by omega)
    have hb : (bdsOf (boardsF x gs))[i]? = some y.boards := by simp [bdsOf, hy]
    refine Exists.intro i (And.intro rfl (And.intro hi ?_))
    refine Exists.intro _ (Exists.intro _ (And.intro hbc.of (And.intro (show _ = some (iv y.boards) by rw [Nat.zero_add, Nat.mul_one, ints_get (by simp [bdsOf]; omega), getD_of hb]) ?_)))
    have h14' := hk.cl h14 (by simp; omega)
    refine Exists.intro _ (Exists.intro _ (And.intro h14'.of (And.intro (show _ = some (slv gb gn gcap') from rfl) ?_)))
    refine Exists.intro i (And.intro rfl (And.intro hi ?_))
    obtain ⟨_, e4, l4, g4⟩ := id hcl
    have hml := mix_len (h := x) (gs := gs) (j := i) (by omega)
    refine Exists.intro _ (Exists.intro _ (Exists.intro _ (And.intro g4 (And.intro hl (And.intro rfl (And.intro rfl (And.intro (by rw [gtc_len, hml]; omega) ?_)))))))
    intro H5 hH5
    rw [gtc, flat_set (f := Gt.v) (fun _ _ => rfl) (k := 4) (x := g) (y := y) (mix_get hg) (by decide) (by rw [← boards_put hg hy]; rfl), mix_step hy] at hH5
    obtain ⟨k5, n5, c5⟩ := up_facts hcl hH5
    refine And.intro ⟨by omega, by omega⟩ ?_
    exact ⟨k - 1, i + 1, by omega, ⟨by omega, hk.trans k5, c5⟩, rfl, rfl, rfl, rfl, rfl, rfl, rfl, rfl, rfl, rfl, rfl, rfl, rfl, rfl, rfl, rfl, trivial⟩
  · have hi : ¬ i < gn := by simpa using hge
    have hl2 : i = gs.length := by omega
    subst hl2
    rw [mix_all] at hcl
    exact hK _ _ ⟨rfl, rfl, rfl, rfl, rfl, rfl, rfl, rfl, rfl, rfl, rfl, rfl, rfl, trivial⟩ hk hcl
end
end Go.Ax
namespace Go.Ax
open Go Go.RowKit Go.Proofs
section
variable {kn : FuncId → Option Bool} {lo : Nat} {H : Hp}
/-- What Run answers over the hours from the k-th one on. -/
theorem rest_run {c : Ch} {hs : List Hr} {k ln lcap lb : Nat} {ga : Option Addr} {gcap : Nat} {wa : Option Addr} {wcap : Nat} (v : c.Vd) (hh : ∀ h ∈ hs, hourB h c.pn c.gn = true) (ha : ∀ h ∈ hs, h.At H) (hln : hs.length = ln) (hln2 : ln ≤ 200) (hk : k < ln) (hr : Rd H lb (hrc hs)) (hc : (c.after hs k ga gcap wa wcap).At H) (hlo : lo ≤ H.next) :
    ∃ b s t H', FnX Try.prog kn lo 25 [chv c.pa c.pn c.pcap ga c.gn gcap, .slice wa c.wn wcap, .slice (some ⟨lb, k * 3, none⟩) (ln - k) (lcap - k)] H (.tuple #[slv b c.wn c.wn, .agg (flowsV s t).toArray, iv 0]) H' ∧ Keep H H' [] ∧ H.next ≤ b ∧ Cl H' b (spc ((foG false c hs ln).2.ws.zip (foG true c hs ln).2.ws)) ∧
      flowsV (foG false c hs ln).2 (foG true c hs ln).2 = flowsV (s.plus (foG false c hs k).2) (t.plus (foG true c hs k).2) := by
  have hcl : ∀ h ∈ hs, h.cs.length = h.cn := fun h hm => (ha h hm).lc
  have vd := after_vd v hh hcl (i := k) (by omega) ga gcap wa wcap
  let q : BQ := ⟨c.after hs k ga gcap wa wcap, some ⟨lb, k * 3, none⟩, ln - k, lcap - k, hs.drop k⟩
  have hsh : Sh H q.la q.ln q.lcap q.hs := .inr ⟨lb, k * 3, hrc hs, rfl, hr, fun i x hx => by
    have hx : hs[k + i]? = some x := by rw [← List.getElem?_drop]; exact hx
    have := row_flat (f := Hr.v) (size := 3) (fun _ _ => rfl) hx
    rw [Nat.zero_add, Nat.add_mul] at this; exact this⟩
  have hln3 : q.hs.length = q.ln := by show (hs.drop k).length = ln - k; rw [List.length_drop, hln]
  have hmem : ∀ h ∈ q.hs, h ∈ hs := fun h hm => List.mem_of_mem_drop hm
  have he : checkE q.c q.hs q.ln = 0 := by
    have e1 : ¬ ((q.ln : Int) > 200) := by show ¬ (((ln - k : Nat) : Int) > 200); omega
    have e2 : (q.hs.all fun h => hourB h q.c.pn q.c.gn) = true := List.all_eq_true.2 fun h hm => hh h (hmem h hm)
    unfold checkE
    rw [if_neg e1, e2, show q.c.ok = true from vd.ok]; rfl
  obtain ⟨w, H1, f1, k1, r1⟩ := run_okS (kn := kn) (lo := lo) (H := H) (q := q) hc hsh hln3 (fun h hm => ha h (hmem h hm)) hlo
  obtain ⟨b, rfl, hb, cb, _, _⟩ := r1.ok he
  have e1 := foG_after (g := false) (c := c) (hs := hs) (k := k) (j := ln - k) (ga := ga) (gcap := gcap) (wa := wa) (wcap := wcap)
  have e2 := foG_after (g := true) (c := c) (hs := hs) (k := k) (j := ln - k) (ga := ga) (gcap := gcap) (wa := wa) (wcap := wcap)
  rw [show k + (ln - k) = ln by omega] at e1 e2
  have s1 : (foG false c hs ln).2 = q.s.plus (foG false c hs k).2 := by rw [e1]; rfl
  have s2 : (foG true c hs ln).2 = q.t.plus (foG true c hs k).2 := by rw [e2]; rfl
  refine ⟨b, q.s, q.t, H1, f1, k1, hb, ?_, by rw [s1, s2]⟩
  rw [s1, s2]; exact cb
/-- The rest, run at once: its call. -/
theorem rest9_call {S : Rg} {K : Exit → Rg → Hp → Prop} {k ln lcap lb b14 : Nat} {cs : List Value} {pv gv v13 : Value} {b wn : Nat} {s t : St} {H1 : Hp} {v4 v9 v10 v15 v18 v57 v58 v59 : Value} (hk : k < ln) (hcap : ln ≤ lcap) (hlt : lb < H.next) (h0 : H.t.get lb = some (.ro cs)) (hlo : lo ≤ H.next)
    (h14 : Rd H b14 [pv, gv]) (f1 : FnX Try.prog kn H.next 25 [.agg #[pv, gv], v13, .slice (some ⟨lb, k * 3, none⟩) (ln - k) (lcap - k)] H (.tuple #[slv b wn wn, .agg (flowsV s t).toArray, iv 0]) H1) (m1 : H.next ≤ H1.next)
    (hS : Subs [(2, slv lb ln lcap), (4, v4), (9, v9), (10, v10), (12, iv k), (13, v13), (14, pt b14), (15, v15), (16, f39v), (18, v18), (57, v57), (58, v58), (59, v59)] S)
    (hK : ∀ S' H', Subs [(2, slv lb ln lcap), (4, v4), (9, v9), (10, v10), (12, iv k), (13, v13), (14, pt b14), (15, v15), (16, f39v), (18, v18), (57, v57), (58, v58), (59, v59), (19, slv b wn wn), (20, pt H1.next), (21, iv 0)] S' → Keep H1 H' [] → Cl H' H1.next (flowsV s t) → K .normal S' H') :
    Tri Try.prog kn lo 182 false (at_ Try.f9 [1, 1, 1, 1, 1, 1, 1, 1, 0, 1, 0, 0, 1, 1, 0, 0, 1, 0, 1, 0, 0]) S H K := by
  obtain ⟨i3, hi3, hsz⟩ := in30
  have hsl := heap_slice_ro (P := Try.prog) (lo := lo) (n := 182) (m := ln) (cap := lcap) (k := k) (t := 47) (d := some 72) (x := .tmp 70) (y := .tmp 71) (ty := 47) (p := "") u47 hi3 h0
    (S := [(71, iv k), (70, slv lb ln lcap), (69, v13), (68, .agg #[pv, gv]), (2, slv lb ln lcap), (4, v4), (9, v9), (10, v10), (12, iv k), (13, v13), (14, pt b14), (15, v15), (16, f39v), (18, v18), (57, v57), (58, v58), (59, v59)]) rfl rfl hk hcap
  rw [hsz] at hsl
  refine tri_piece L9x1t68 hS ?_
  refine wD_dreg ?_
  refine wD_lda (b := b14) (o := 0) rfl h14 (show row 2 _ _ = some [pv, gv] from rfl) ?_
  refine wD_mov (v := v13) rfl ?_
  refine wD_mov (v := slv lb ln lcap) rfl ?_
  refine wD_mov (v := iv k) rfl ?_
  refine wD_memh (v := .slice (some ⟨lb, k * 3, none⟩) (ln - k) (lcap - k)) (H' := H) (k := .read lb) rfl (by kernel_rfl) hsl (fun b e => by cases e; exact hlt) ?_
  refine wD_callh (vs := [.agg #[pv, gv], v13, .slice (some ⟨lb, k * 3, none⟩) (ln - k) (lcap - k)]) rfl rfl (callX_args f1) ?_
  refine wD_mov (v := .tuple #[slv b wn wn, .agg (flowsV s t).toArray, iv 0]) rfl ?_
  refine wD_pur (v := slv b wn wn) rfl rfl ?_
  refine wD_pur (v := .agg (flowsV s t).toArray) rfl rfl ?_
  refine wD_pur (v := iv 0) rfl rfl ?_
  refine wD_alc ?_
  intro H2 k2 n2 c2
  refine wD_mov (v := slv b wn wn) rfl ?_
  refine wD_sta (b := H1.next) (o := 0) (v := .agg (flowsV s t).toArray) rfl rfl c2 (by omega) rfl rfl (by simp) ?_
  intro H3 k3 n3 c3
  have c3 : Cl H3 H1.next (flowsV s t) := c3
  refine wD_mov (v := iv 0) rfl ?_
  refine wD_end (by repeat' first | exact True.intro | exact (fun h => h) | refine And.intro ?_ ?_) ?_
  exact hK _ _ ⟨rfl, rfl, rfl, rfl, rfl, rfl, rfl, rfl, rfl, rfl, rfl, rfl, rfl, rfl, rfl, rfl, trivial⟩ (k2.new k3 (fun b hb => .inr (by simp at hb; omega))) c3
/-- The copy of the flow so far. -/
theorem rest9_copy {S : Rg} {K : Exit → Rg → Hp → Prop} {b15 : Nat} {A B : St} {v2 v4 v9 v10 v12 v13 v14 v18 v19 v20 v21 v57 v58 v59 : Value} (h15 : Rd H b15 (flowsV A B)) (hlo : lo ≤ H.next)
    (hS : Subs [(2, v2), (4, v4), (9, v9), (10, v10), (12, v12), (13, v13), (14, v14), (15, pt b15), (16, f39v), (18, v18), (57, v57), (58, v58), (59, v59), (19, v19), (20, v20), (21, v21)] S)
    (hK : ∀ S' H', Subs [(2, v2), (4, v4), (9, v9), (10, v10), (12, v12), (13, v13), (14, v14), (15, pt b15), (16, f39v), (18, v18), (57, v57), (58, v58), (59, v59), (19, v19), (20, v20), (21, v21), (22, pt H.next)] S' → Keep H H' [] → Cl H' H.next (flowsV A B) → K .normal S' H') :
    Tri Try.prog kn lo 182 false (at_ Try.f9 [1, 1, 1, 1, 1, 1, 1, 1, 0, 1, 0, 0, 1, 1, 0, 0, 1, 0, 1, 0, 1, 0]) S H K := by
  refine tri_piece L9x1t77 hS ?_
  refine Exists.intro _ (Exists.intro _ (And.intro h15.of (And.intro (show row 8 _ _ = some (flowsV A B) from rfl) ?_)))
  intro H4 hH4; obtain ⟨k4, n4, c4⟩ := new_facts hH4; clear hH4
  obtain ⟨_, e7, l7, g7⟩ := id c4
  refine Exists.intro _ (Exists.intro _ (Exists.intro _ (And.intro g7 (And.intro (by omega) (And.intro rfl (And.intro rfl (And.intro (by simp) ?_)))))))
  intro H5 hH5; obtain ⟨k5, n5, c5⟩ := up_facts c4 hH5; clear hH5
  have c5 : Cl H5 H.next (flowsV A B) := c5
  exact hK _ _ ⟨rfl, rfl, rfl, rfl, rfl, rfl, rfl, rfl, rfl, rfl, rfl, rfl, rfl, rfl, rfl, rfl, rfl, trivial⟩ (k4.new k5 (fun b hb => .inr (by simp at hb; omega))) c5
/-- The sums, and what is asked of them. -/
theorem rest9_ask {S : Rg} {K : Exit → Rg → Hp → Prop} {b10 b20 b22 : Nat} {x1 x2 x3 x4 x5 x6 x7 x8 y1 y2 y3 y4 y5 y6 y7 y8 : Int} {a9 a19 : Option Addr} {wn cap9 cap19 : Nat} {l : List (Int × Int)} {v2 v4 v12 v13 v14 v15 v18 v57 v58 v59 : Value} (h22 : Cl H b22 [iv x1, iv x2, iv x3, iv x4, iv x5, iv x6, iv x7, iv x8]) (h20 : Rd H b20 [iv y1, iv y2, iv y3, iv y4, iv y5, iv y6, iv y7, iv y8]) (hne : b20 ≠ b22) (hne2 : b10 ≠ b22) (hl : lo ≤ b22)
    (h10 : Rd H b10 [iv (x1 + y1), iv (x2 + y2), iv (x3 + y3), iv (x4 + y4), iv (x5 + y5), iv (x6 + y6), iv (x7 + y7), iv (x8 + y8)]) (h9 : Sl H a9 wn cap9 (spc l)) (h19 : Sl H a19 wn cap19 (spc l)) (g9 : ∀ b, a9 = some ⟨b, 0, none⟩ → b ≠ b22) (g19 : ∀ b, a19 = some ⟨b, 0, none⟩ → b ≠ b22) (hll : l.length = wn) (hwn : wn ≤ 1000)
    (r1 : InR (x1 + y1)) (r2 : InR (x2 + y2)) (r3 : InR (x3 + y3)) (r4 : InR (x4 + y4)) (r5 : InR (x5 + y5)) (r6 : InR (x6 + y6)) (r7 : InR (x7 + y7)) (r8 : InR (x8 + y8))
    (hS : Subs [(2, v2), (4, v4), (9, .slice a9 wn cap9), (10, pt b10), (12, v12), (13, v13), (14, v14), (15, v15), (16, f39v), (18, v18), (57, v57), (58, v58), (59, v59), (19, .slice a19 wn cap19), (20, pt b20), (21, iv 0), (22, pt b22)] S)
    (hK : ∀ S' H', Subs [(2, v2), (4, v4), (9, .slice a9 wn cap9), (10, pt b10), (12, v12), (13, v13), (14, v14), (15, v15), (16, f39v), (18, v18), (57, v57), (58, v58), (59, v59)] S' → Keep H H' [b22] → K .normal S' H') :
    Tri Try.prog kn lo 182 false (at_ Try.f9 [1, 1, 1, 1, 1, 1, 1, 1, 0, 1, 0, 0, 1, 1, 0, 0, 1, 0, 1, 0, 1, 1]) S H K := by
  obtain ⟨J1, J2, J3, J4, z⟩ := sums_ok (kn := kn) (lo := lo) h22 hl r1 r2 r3 r4 r5 r6 r7 r8
  have w0 := h20
  have w1 := z.k1.rd w0 (by simpa using hne)
  have w2 := z.k2.rd w1 (by simpa using hne)
  have w3 := z.k3.rd w2 (by simpa using hne)
  have kz : Keep H J4 [b22] := z.k1.trans (z.k2.trans (z.k3.trans z.k4))
  have f22 := spans_same (kn := kn) (lo := lo) (kz.sl h19 (fun b e => by simpa using g19 b e)) (kz.sl h9 (fun b e => by simpa using g9 b e)) hll hwn
  have zc := z.c
  have h10z := kz.rd h10 (by simpa using hne2)
  refine tri_piece L9x1t78 hS ?_
  refine Exists.intro _ (Exists.intro _ (And.intro w0.of (And.intro (show row 2 _ _ = some [iv y1, iv y2] from rfl) ?_)))
  refine Exists.intro _ (Exists.intro _ (And.intro (callX_args z.f1) ?_))
  refine Exists.intro _ (Exists.intro _ (And.intro w1.of (And.intro (show row 2 _ _ = some [iv y3, iv y4] from rfl) ?_)))
  refine Exists.intro _ (Exists.intro _ (And.intro (callX_args z.f2) ?_))
  refine Exists.intro _ (Exists.intro _ (And.intro w2.of (And.intro (show row 2 _ _ = some [iv y5, iv y6] from rfl) ?_)))
  refine Exists.intro _ (Exists.intro _ (And.intro (callX_args z.f3) ?_))
  refine Exists.intro _ (Exists.intro _ (And.intro w3.of (And.intro (show row 2 _ _ = some [iv y7, iv y8] from rfl) ?_)))
  refine Exists.intro _ (Exists.intro _ (And.intro (callX_args z.f4) ?_))
  intro u hu; obtain rfl : u = false := by rw [← hu]; rfl
  refine Exists.intro _ (Exists.intro _ (And.intro (callX_args f22) ?_))
  refine And.intro rfl (Exists.intro (.bool false) (And.intro rfl ?_))
  refine And.intro rfl (Exists.intro (.bool false) (And.intro rfl ?_))
  refine Exists.intro _ (Exists.intro _ (And.intro zc.of (And.intro (show row 8 _ _ = some [iv (x1 + y1), iv (x2 + y2), iv (x3 + y3), iv (x4 + y4), iv (x5 + y5), iv (x6 + y6), iv (x7 + y7), iv (x8 + y8)] from rfl) ?_)))
  refine Exists.intro _ (Exists.intro _ (And.intro h10z.of (And.intro (show row 8 _ _ = some [iv (x1 + y1), iv (x2 + y2), iv (x3 + y3), iv (x4 + y4), iv (x5 + y5), iv (x6 + y6), iv (x7 + y7), iv (x8 + y8)] from rfl) ?_)))
  refine And.intro rfl (Exists.intro (.bool false) (And.intro (pur_neq37 (x1 := x1 + y1) (x2 := x2 + y2) (x3 := x3 + y3) (x4 := x4 + y4) (x5 := x5 + y5) (x6 := x6 + y6) (x7 := x7 + y7) (x8 := x8 + y8) rfl rfl rfl) ?_))
  refine And.intro rfl (Exists.intro (.bool false) (And.intro rfl ?_))
  refine condF ?_
  exact hK _ _ ⟨rfl, rfl, rfl, rfl, rfl, rfl, rfl, rfl, rfl, rfl, rfl, rfl, rfl, trivial⟩ kz
end
end Go.Ax
namespace Go.Ax
open Go Go.RowKit Go.Proofs
noncomputable def R9ze : RC := (.reg [⟨(some 170), none, (.ari .add (.tmp 59) (.const (.int .i64 1)))⟩, ⟨(some 59), none, (.mov (.tmp 170))⟩])
theorem L9ze : low Try.prog 182 (at_ Try.f9 [1, 1, 1, 1, 1, 1, 1, 1, 0, 1, 0, 0, 1, 1, 1]) = some R9ze := by kernel_rfl
noncomputable def R9zv : RC := (.seq (.reg [⟨(some 60), none, (.cmp .lss (.tmp 59) (.tmp 58))⟩])
  (.seq (.cond (.tmp 60) .skip
  (.exit 0))
  (.seq (.block 1 (.seq (.reg [⟨(some 61), none, (.mov (.tmp 59))⟩, ⟨(some 62), none, (.idx (.tmp 57) (.tmp 59) 3)⟩, ⟨(some 63), none, (.lda (.tmp 62) 3)⟩, ⟨(some 18), none, (.alc 30 [(.slice none 0 0), (.slice none 0 0), (.slice none 0 0)])⟩, ⟨(some 17), none, (.mov (.tmp 61))⟩, ⟨none, none, (.sta (.tmp 18) (.tmp 63) 3)⟩])
  (.seq (.seq (.reg [⟨(some 64), none, (.mov (.tmp 17))⟩, ⟨(some 65), none, (.mov (.tmp 12))⟩, ⟨(some 66), none, (.cmp .eql (.tmp 64) (.tmp 65))⟩])
  (.cond (.tmp 66) (.seq (.other (at_ Try.f9 [1, 1, 1, 1, 1, 1, 1, 1, 0, 1, 0, 0, 1, 1, 0, 0, 1, 0, 1, 0, 0]))
  (.seq (.other (at_ Try.f9 [1, 1, 1, 1, 1, 1, 1, 1, 0, 1, 0, 0, 1, 1, 0, 0, 1, 0, 1, 0, 1, 0]))
  (.other (at_ Try.f9 [1, 1, 1, 1, 1, 1, 1, 1, 0, 1, 0, 0, 1, 1, 0, 0, 1, 0, 1, 0, 1, 1]))))
  .skip))
  (.other (at_ Try.f9 [1, 1, 1, 1, 1, 1, 1, 1, 0, 1, 0, 0, 1, 1, 0, 0, 1, 1])))))
  (.other (at_ Try.f9 [1, 1, 1, 1, 1, 1, 1, 1, 0, 1, 0, 0, 1, 1, 1])))))
theorem V9z : LV Try.prog 182 (at_ Try.f9 [1, 1, 1, 1, 1, 1, 1, 1, 0, 1, 0, 0]) R9zv := by
  have e : at_ Try.f9 [1, 1, 1, 1, 1, 1, 1, 1, 0, 1, 0, 0] = (.seq (at_ Try.f9 [1, 1, 1, 1, 1, 1, 1, 1, 0, 1, 0, 0, 0]) (.seq (at_ Try.f9 [1, 1, 1, 1, 1, 1, 1, 1, 0, 1, 0, 0, 1, 0]) (.seq (.block 1 (.seq (at_ Try.f9 [1, 1, 1, 1, 1, 1, 1, 1, 0, 1, 0, 0, 1, 1, 0, 0, 0]) (.seq (.seq (at_ Try.f9 [1, 1, 1, 1, 1, 1, 1, 1, 0, 1, 0, 0, 1, 1, 0, 0, 1, 0, 0]) (.cond (.tmp 66) (.seq (at_ Try.f9 [1, 1, 1, 1, 1, 1, 1, 1, 0, 1, 0, 0, 1, 1, 0, 0, 1, 0, 1, 0, 0]) (.seq (at_ Try.f9 [1, 1, 1, 1, 1, 1, 1, 1, 0, 1, 0, 0, 1, 1, 0, 0, 1, 0, 1, 0, 1, 0]) (at_ Try.f9 [1, 1, 1, 1, 1, 1, 1, 1, 0, 1, 0, 0, 1, 1, 0, 0, 1, 0, 1, 0, 1, 1]))) (at_ Try.f9 [1, 1, 1, 1, 1, 1, 1, 1, 0, 1, 0, 0, 1, 1, 0, 0, 1, 0, 1, 1]))) (at_ Try.f9 [1, 1, 1, 1, 1, 1, 1, 1, 0, 1, 0, 0, 1, 1, 0, 0, 1, 1])))) (at_ Try.f9 [1, 1, 1, 1, 1, 1, 1, 1, 0, 1, 0, 0, 1, 1, 1])))) := by kernel_rfl
  rw [e]
  exact (.seq (.low (by kernel_rfl)) (.seq (.low (by kernel_rfl)) (.seq (.block 1 (.seq (.low (by kernel_rfl)) (.seq (.seq (.low (by kernel_rfl)) (.cond _ (.seq (.other _) (.seq (.other _) (.other _))) (.low (by kernel_rfl)))) (.other _)))) (.other _))))
noncomputable def R9yt120 : RC := (.seq (.reg [⟨(some 120), none, (.mov (.tmp 26))⟩, ⟨(some 121), none, (.cmpb .neq (.tmp 120) (.const (.int .i64 0)))⟩, ⟨(some 122), none, (.mov (.tmp 121))⟩, ⟨(some 123), (some (122, false)), (.mov (.tmp 24))⟩, ⟨(some 124), (some (122, false)), (.len (.tmp 123))⟩, ⟨(some 125), (some (122, false)), (.addo (.tmp 4) 1)⟩, ⟨(some 126), (some (122, false)), (.ld (.tmp 125) 1)⟩, ⟨(some 127), (some (122, false)), (.len (.tmp 126))⟩, ⟨(some 128), (some (122, false)), (.cmpb .neq (.tmp 124) (.tmp 127))⟩, ⟨(some 129), none, (.pur ⟨(some 129), (.pick (.tmp 122) (.const (.bool true)) (.tmp 128)), 4, "", (List.toArray []), none⟩)⟩])
  (.cond (.tmp 129) (.seq (.reg [⟨(some 8), none, (.mov (.const (.bool false)))⟩])
  .ret)
  .skip))
theorem L9yt120 : low Try.prog 182 (at_ Try.f9 [1, 1, 1, 1, 1, 1, 1, 1, 0, 1, 0, 0, 1, 1, 0, 0, 1, 1, 1, 0]) = some R9yt120 := by kernel_rfl
noncomputable def R9yv : RC := (.seq (.other (at_ Try.f9 [1, 1, 1, 1, 1, 1, 1, 1, 0, 1, 0, 0, 1, 1, 0, 0, 1, 1, 0]))
  (.seq (.other (at_ Try.f9 [1, 1, 1, 1, 1, 1, 1, 1, 0, 1, 0, 0, 1, 1, 0, 0, 1, 1, 1, 0]))
  (.seq (.other (at_ Try.f9 [1, 1, 1, 1, 1, 1, 1, 1, 0, 1, 0, 0, 1, 1, 0, 0, 1, 1, 1, 1, 0]))
  (.seq (.other (at_ Try.f9 [1, 1, 1, 1, 1, 1, 1, 1, 0, 1, 0, 0, 1, 1, 0, 0, 1, 1, 1, 1, 1, 0]))
  (.other (at_ Try.f9 [1, 1, 1, 1, 1, 1, 1, 1, 0, 1, 0, 0, 1, 1, 0, 0, 1, 1, 1, 1, 1, 1]))))))
theorem V9y : LV Try.prog 182 (at_ Try.f9 [1, 1, 1, 1, 1, 1, 1, 1, 0, 1, 0, 0, 1, 1, 0, 0, 1, 1]) R9yv := by
  have e : at_ Try.f9 [1, 1, 1, 1, 1, 1, 1, 1, 0, 1, 0, 0, 1, 1, 0, 0, 1, 1] = (.seq (at_ Try.f9 [1, 1, 1, 1, 1, 1, 1, 1, 0, 1, 0, 0, 1, 1, 0, 0, 1, 1, 0]) (.seq (at_ Try.f9 [1, 1, 1, 1, 1, 1, 1, 1, 0, 1, 0, 0, 1, 1, 0, 0, 1, 1, 1, 0]) (.seq (at_ Try.f9 [1, 1, 1, 1, 1, 1, 1, 1, 0, 1, 0, 0, 1, 1, 0, 0, 1, 1, 1, 1, 0]) (.seq (at_ Try.f9 [1, 1, 1, 1, 1, 1, 1, 1, 0, 1, 0, 0, 1, 1, 0, 0, 1, 1, 1, 1, 1, 0]) (at_ Try.f9 [1, 1, 1, 1, 1, 1, 1, 1, 0, 1, 0, 0, 1, 1, 0, 0, 1, 1, 1, 1, 1, 1]))))) := by kernel_rfl
  rw [e]
  exact (.seq (.other _) (.seq (.other _) (.seq (.other _) (.seq (.other _) (.other _)))))
noncomputable def R9t55 : RC := (.dreg [⟨(some 55), none, (.mov (.tmp 1))⟩, ⟨(some 56), none, (.lda (.tmp 4) 2)⟩, ⟨(some 14), none, (.alc 25 [(.slice none 0 0), (.slice none 0 0)])⟩, ⟨(some 13), none, (.mov (.tmp 55))⟩, ⟨none, none, (.sta (.tmp 14) (.tmp 56) 2)⟩] [15, 5, 0, 0, 0])
theorem L9t55 : low Try.prog 182 (at_ Try.f9 [1, 1, 1, 1, 1, 0]) = some R9t55 := by kernel_rfl
noncomputable def R9t15 : RC := (.reg [⟨(some 15), none, (.alc 37 [(.int .i64 0), (.int .i64 0), (.int .i64 0), (.int .i64 0), (.int .i64 0), (.int .i64 0), (.int .i64 0), (.int .i64 0)])⟩])
theorem L9t15 : low Try.prog 182 (at_ Try.f9 [1, 1, 1, 1, 1, 1, 0]) = some R9t15 := by kernel_rfl
noncomputable def R9t16 : RC := (.reg [⟨(some 16), none, (.mov (.func 39))⟩])
theorem L9t16 : low Try.prog 182 (at_ Try.f9 [1, 1, 1, 1, 1, 1, 1, 0]) = some R9t16 := by kernel_rfl
noncomputable def R9t57 : RC := (.seq (.reg [⟨(some 57), none, (.mov (.tmp 2))⟩, ⟨(some 58), none, (.len (.tmp 57))⟩, ⟨(some 59), none, (.mov (.const (.int .i64 0)))⟩])
  (.block 0 (.other (at_ Try.f9 [1, 1, 1, 1, 1, 1, 1, 1, 0, 1, 0]))))
theorem L9t57 : low Try.prog 182 (at_ Try.f9 [1, 1, 1, 1, 1, 1, 1, 1, 0]) = some R9t57 := by kernel_rfl
noncomputable def R9t171 : RC := (.seq (.reg [⟨(some 171), none, (.mov (.tmp 13))⟩, ⟨(some 172), none, (.mov (.tmp 9))⟩, ⟨(some 173), none, (.call ⟨(.value (.func 22)), (List.toArray [(.tmp 171), (.tmp 172)]), (List.toArray [26, 26])⟩ true)⟩, ⟨(some 174), none, (.mov (.tmp 173))⟩, ⟨(some 175), (some (174, true)), (.lda (.tmp 15) 8)⟩, ⟨(some 176), (some (174, true)), (.lda (.tmp 10) 8)⟩, ⟨(some 177), (some (174, true)), (.pur ⟨(some 177), (.binOp .eql 37 (.tmp 175) (.tmp 176) 37), 4, "", (List.toArray []), none⟩)⟩, ⟨(some 178), none, (.pur ⟨(some 178), (.pick (.tmp 174) (.tmp 177) (.const (.bool false))), 4, "", (List.toArray []), none⟩)⟩, ⟨(some 179), none, (.mov (.tmp 178))⟩, ⟨(some 180), (some (179, true)), (.call ⟨(.value (.func 15)), (List.toArray []), (List.toArray [])⟩ true)⟩, ⟨(some 181), none, (.pur ⟨(some 181), (.pick (.tmp 179) (.tmp 180) (.const (.bool false))), 4, "", (List.toArray []), none⟩)⟩, ⟨(some 8), none, (.mov (.tmp 181))⟩])
  .ret)
theorem L9t171 : low Try.prog 182 (at_ Try.f9 [1, 1, 1, 1, 1, 1, 1, 1, 1]) = some R9t171 := by kernel_rfl
noncomputable def R9v : RC := (.seq (.reg [⟨(some 4), none, (.box 25 (.tmp 0))⟩, ⟨(some 8), none, (.mov (.const (.bool false)))⟩])
  (.seq (.seq (.reg [⟨(some 29), none, (.mov (.tmp 2))⟩, ⟨(some 30), none, (.call ⟨(.value (.func 24)), (List.toArray [(.tmp 29), (.const (.int .i64 16))]), (List.toArray [47, 3])⟩ true)⟩, ⟨(some 31), none, (.mov (.tmp 30))⟩, ⟨(some 32), (some (31, false)), (.lda (.tmp 4) 2)⟩, ⟨(some 33), (some (31, false)), (.mov (.tmp 1))⟩, ⟨(some 34), (some (31, false)), (.mov (.tmp 2))⟩, ⟨(some 35), (some (31, false)), (.call ⟨(.value (.func 14)), (List.toArray [(.tmp 32), (.tmp 33), (.tmp 34)]), (List.toArray [25, 26, 47])⟩ true)⟩, ⟨(some 36), none, (.pur ⟨(some 36), (.pick (.tmp 31) (.const (.bool true)) (.tmp 35)), 4, "", (List.toArray []), none⟩)⟩])
  (.cond (.tmp 36) (.seq (.reg [⟨(some 37), none, (.call ⟨(.value (.func 15)), (List.toArray []), (List.toArray [])⟩ true)⟩, ⟨(some 8), none, (.mov (.tmp 37))⟩])
  .ret)
  .skip))
  (.seq (.reg [⟨(some 39), none, (.lda (.tmp 4) 2)⟩, ⟨(some 40), none, (.mov (.tmp 1))⟩, ⟨(some 41), none, (.mov (.tmp 2))⟩, ⟨(some 42), none, (.call ⟨(.value (.func 25)), (List.toArray [(.tmp 39), (.tmp 40), (.tmp 41)]), (List.toArray [25, 26, 47])⟩ true)⟩, ⟨(some 38), none, (.mov (.tmp 42))⟩, ⟨(some 43), none, (.pur ⟨(some 43), (.extract (.tmp 38) 0), 26, "", (List.toArray []), none⟩)⟩, ⟨(some 44), none, (.pur ⟨(some 44), (.extract (.tmp 38) 1), 37, "", (List.toArray []), none⟩)⟩, ⟨(some 45), none, (.pur ⟨(some 45), (.extract (.tmp 38) 2), 38, "", (List.toArray []), none⟩)⟩, ⟨(some 10), none, (.alc 37 [(.int .i64 0), (.int .i64 0), (.int .i64 0), (.int .i64 0), (.int .i64 0), (.int .i64 0), (.int .i64 0), (.int .i64 0)])⟩, ⟨(some 9), none, (.mov (.tmp 43))⟩, ⟨none, none, (.sta (.tmp 10) (.tmp 44) 8)⟩, ⟨(some 11), none, (.mov (.tmp 45))⟩])
  (.seq (.seq (.reg [⟨(some 46), none, (.mov (.tmp 11))⟩, ⟨(some 47), none, (.cmp .neq (.tmp 46) (.const (.int .i64 0)))⟩])
  (.cond (.tmp 47) (.seq (.reg [⟨(some 48), none, (.call ⟨(.value (.func 15)), (List.toArray []), (List.toArray [])⟩ true)⟩, ⟨(some 8), none, (.mov (.tmp 48))⟩])
  .ret)
  .skip))
  (.seq (.reg [⟨(some 49), none, (.mov (.tmp 3))⟩, ⟨(some 50), none, (.pur ⟨(some 50), (.convert 5 3 (.tmp 49)), 3, "", (List.toArray []), none⟩)⟩, ⟨(some 51), none, (.mov (.tmp 2))⟩, ⟨(some 52), none, (.len (.tmp 51))⟩, ⟨(some 53), none, (.ari .add (.tmp 52) (.const (.int .i64 1)))⟩, ⟨(some 54), none, (.ari .rem (.tmp 50) (.tmp 53))⟩, ⟨(some 12), none, (.mov (.tmp 54))⟩])
  (.seq (.other (at_ Try.f9 [1, 1, 1, 1, 1, 0]))
  (.seq (.other (at_ Try.f9 [1, 1, 1, 1, 1, 1, 0]))
  (.seq (.other (at_ Try.f9 [1, 1, 1, 1, 1, 1, 1, 0]))
  (.seq (.other (at_ Try.f9 [1, 1, 1, 1, 1, 1, 1, 1, 0]))
  (.other (at_ Try.f9 [1, 1, 1, 1, 1, 1, 1, 1, 1])))))))))))
theorem V9 : LV Try.prog 182 (at_ Try.f9 []) R9v := by
  have e : at_ Try.f9 [] = (.seq (at_ Try.f9 [0]) (.seq (at_ Try.f9 [1, 0]) (.seq (at_ Try.f9 [1, 1, 0]) (.seq (at_ Try.f9 [1, 1, 1, 0]) (.seq (at_ Try.f9 [1, 1, 1, 1, 0]) (.seq (at_ Try.f9 [1, 1, 1, 1, 1, 0]) (.seq (at_ Try.f9 [1, 1, 1, 1, 1, 1, 0]) (.seq (at_ Try.f9 [1, 1, 1, 1, 1, 1, 1, 0]) (.seq (at_ Try.f9 [1, 1, 1, 1, 1, 1, 1, 1, 0]) (at_ Try.f9 [1, 1, 1, 1, 1, 1, 1, 1, 1])))))))))) := by kernel_rfl
  rw [e]
  exact (.seq (.low (by kernel_rfl)) (.seq (.low (by kernel_rfl)) (.seq (.low (by kernel_rfl)) (.seq (.low (by kernel_rfl)) (.seq (.low (by kernel_rfl)) (.seq (.other _) (.seq (.other _) (.seq (.other _) (.seq (.other _) (.other _))))))))))

section
variable {P : Program} {kn : FuncId → Option Bool} {lo n : Nat} {rd : Bool}
theorem tri_lv {c : Code} {R : RC} {S S0 : Rg} {H : Hp} {K : Exit → Rg → Hp → Prop} (hL : LV P n c R) (hS : Subs S0 S) (h : wC P kn lo n rd R S0 H K) : Tri P kn lo n rd c S H K := Tri.forget (wC_lv hL h) hS.get
end
section
variable {kn : FuncId → Option Bool} {lo : Nat} {F H : Hp}
theorem check9_piece {S : Rg} {K : Exit → Rg → Hp → Prop} {b4 gn capA cap2 : Nat} {gA a2 : Option Addr} {pv v2 v9 v10 v12 v14 v15 v23 v25 v57 v58 v59 : Value} (h4 : Rd H b4 [pv, .slice gA gn capA])
    (hS : Subs [(2, v2), (4, pt b4), (9, v9), (10, v10), (12, v12), (14, v14), (15, v15), (16, f39v), (23, v23), (24, .slice a2 gn cap2), (25, v25), (26, iv 0), (57, v57), (58, v58), (59, v59)] S)
    (hK : ∀ S', Subs [(2, v2), (4, pt b4), (9, v9), (10, v10), (12, v12), (14, v14), (15, v15), (16, f39v), (23, v23), (24, .slice a2 gn cap2), (25, v25), (57, v57), (58, v58), (59, v59)] S' → K .normal S' H) :
    Tri Try.prog kn lo 182 false (at_ Try.f9 [1, 1, 1, 1, 1, 1, 1, 1, 0, 1, 0, 0, 1, 1, 0, 0, 1, 1, 1, 0]) S H K := by
  refine tri_piece L9yt120 hS ?_
  intro u hu; obtain rfl : u = false := by rw [← hu]; rfl
  refine Exists.intro _ (Exists.intro _ (And.intro h4.of (And.intro (show _ = some (.slice gA gn capA) from rfl) ?_)))
  intro u2 hu2; obtain rfl : u2 = false := by rw [← hu2]; simp
  refine And.intro rfl (Exists.intro (.bool false) (And.intro rfl ?_))
  refine condF ?_
  exact hK _ ⟨rfl, rfl, rfl, rfl, rfl, rfl, rfl, rfl, rfl, rfl, rfl, rfl, rfl, rfl, trivial⟩
/-- An hour: Pass, the boards, the sum. -/
theorem body9 {S : Rg} {K : Exit → Rg → Hp → Prop} {c : Ch} {hs : List Hr} {i ln capA : Nat} {gA : Option Addr} {pv : Value} {x : Hr} {ga : Option Addr} {gcap : Nat} {wa : Option Addr} {wcap b4 b14 b15 b18 : Nat} {v2 v9 v10 v12 v57 v58 v59 : Value} (v : c.Vd) (hh : ∀ h ∈ hs, hourB h c.pn c.gn = true) (ha : ∀ h ∈ hs, h.At H) (hln2 : ln ≤ 200) (hx : hs[i]? = some x) (hi : i < ln) (hc : (c.after hs i ga gcap wa wcap).At H)
    (h4 : Rd H b4 [pv, .slice gA c.gn capA]) (c14 : Cl H b14 [.slice c.pa c.pn c.pcap, .slice ga c.gn gcap]) (c15 : Cl H b15 (flowsV (foG false c hs i).2 (foG true c hs i).2)) (c18 : Rd H b18 x.v) (n45 : b14 ≠ b15) (n414 : b4 ≠ b14) (n415 : b4 ≠ b15) (g14 : ∀ b, ga = some ⟨b, 0, none⟩ → b ≠ b14) (l14 : lo ≤ b14) (l15 : lo ≤ b15) (hlo : lo ≤ H.next)
    (hS : Subs [(2, v2), (4, pt b4), (9, v9), (10, v10), (12, v12), (13, .slice wa c.wn wcap), (14, pt b14), (15, pt b15), (16, f39v), (18, pt b18), (57, v57), (58, v58), (59, v59)] S)
    (hK : ∀ S' H' ga' gcap' wa' wcap', Subs [(2, v2), (4, pt b4), (9, v9), (10, v10), (12, v12), (13, .slice wa' c.wn wcap'), (14, pt b14), (15, pt b15), (16, f39v), (57, v57), (58, v58), (59, v59)] S' → Keep H H' [b14, b15] → Cl H' b14 [.slice c.pa c.pn c.pcap, .slice ga' c.gn gcap'] → Cl H' b15 (flowsV (foG false c hs (i + 1)).2 (foG true c hs (i + 1)).2) →
      Sl H' ga' c.gn gcap' (gtc (foG false c hs (i + 1)).1) → Sl H' wa' c.wn wcap' (spc ((foG false c hs (i + 1)).2.ws.zip (foG true c hs (i + 1)).2.ws)) → (∀ b, ga' = some ⟨b, 0, none⟩ → H.next ≤ b) → (∀ b, wa' = some ⟨b, 0, none⟩ → H.next ≤ b) → K .normal S' H') :
    Tri Try.prog kn lo 182 false (at_ Try.f9 [1, 1, 1, 1, 1, 1, 1, 1, 0, 1, 0, 0, 1, 1, 0, 0, 1, 1]) S H K := by
  have hcl : ∀ h ∈ hs, h.cs.length = h.cn := fun h hm => (ha h hm).lc
  have hxm := List.mem_of_getElem? hx
  have hwp := v.wp; have h32 := v.h32
  have vd := after_vd v hh hcl (i := i) (by omega) ga gcap wa wcap
  have hok : (c.after hs i ga gcap wa wcap).okH x = true := by
    unfold Ch.okH; rw [vd.ok]; show (true && hourB x c.pn c.gn) = true; rw [hh x hxm]; rfl
  have e1 := foG_plus (g := false) (c := c) hx
  have e2 := foG_plus (g := true) (c := c) hx
  obtain ⟨a1, _, _⟩ := fo_ahead v hh hcl false (i + 1) (by omega)
  obtain ⟨a2, _, _⟩ := fo_ahead v hh hcl true (i + 1) (by omega)
  obtain ⟨p1, p2, p3, p4⟩ := ahead_small a1 (by omega)
  obtain ⟨q1, q2, q3, q4⟩ := ahead_small a2 (by omega)
  have hlen : (foG false c hs i).2.ws.length = (foG true c hs i).2.ws.length := by rw [fo_len, fo_len]
  obtain ⟨z1, z2⟩ := endS_zip _ _ hlen
  have y1 : hourF (c.after hs i ga gcap wa wcap) false x (c.after hs i ga gcap wa wcap).gs (s0 false (c.after hs i ga gcap wa wcap)) = hourF c false x (foG false c hs i).1 ⟨(foG false c hs i).2.ws, 0, 0, 0, 0⟩ := by
    show hourF c false x (foG false c hs i).1 ⟨endS false ((foG false c hs i).2.ws.zip (foG true c hs i).2.ws), 0, 0, 0, 0⟩ = _
    rw [z1]
  have y2 : hourF (c.after hs i ga gcap wa wcap) true x (c.after hs i ga gcap wa wcap).gs (s0 true (c.after hs i ga gcap wa wcap)) = hourF c true x (foG true c hs i).1 ⟨(foG true c hs i).2.ws, 0, 0, 0, 0⟩ := by
    show hourF c true x (foG false c hs i).1 ⟨endS true ((foG false c hs i).2.ws.zip (foG true c hs i).2.ws), 0, 0, 0, 0⟩ = _
    rw [z2, foG_gates]
  have y3 : boardsF x (foG false c hs i).1 = (foG false c hs (i + 1)).1 := by rw [foG_step hx]
  have hgl : (foG false c hs i).1.length = c.gn := (fo_ahead v hh hcl false i (by omega)).2.2
  have hc' := hc
  refine tri_lv V9y hS ?_
  refine pass9_piece (c := c.after hs i ga gcap wa wcap) (x := x) hc (ha x hxm) hok c14.rd c18 hlo ⟨rfl, rfl, rfl, rfl, rfl, rfl, rfl, rfl, rfl, rfl, rfl, rfl, rfl, trivial⟩ ?_
  intro S3 H3 b cap bb cap2 b25 hS3 k3 l25 c25 sW sB fb fbb
  rw [y1, y2] at c25 sW
  have sB : Sl H3 (some ⟨bb, 0, none⟩) c.gn cap2 (ints (bdsOf (boardsF x (foG false c hs i).1))) := sB
  generalize hourF c false x (foG false c hs i).1 ⟨(foG false c hs i).2.ws, 0, 0, 0, 0⟩ = A at *
  generalize hourF c true x (foG true c hs i).1 ⟨(foG true c hs i).2.ws, 0, 0, 0, 0⟩ = B at *
  have w1 : (foG false c hs (i + 1)).2.ws = A.ws := by rw [e1]; rfl
  have w2 : (foG true c hs (i + 1)).2.ws = B.ws := by rw [e2]; rfl
  have c25 : Cl H3 b25 (flowsV A B) := c25
  have sW : Sl H3 (some ⟨b, 0, none⟩) c.pn cap (spc (A.ws.zip B.ws)) := sW
  have m3 := k3.1
  have lt14 := c14.lt
  have lt15 := c15.lt
  have c14a := k3.cl c14 (by simp)
  have c15a := k3.cl c15 (by simp)
  refine check9_piece (k3.rd h4 (by simp)) hS3 ?_
  intro S4 hS4
  refine gates9_piece (gs := (foG false c hs i).1) c14a rfl (k3.sl0 hc'.g) hgl (by omega) l14 (by omega) hS4 ?_
  intro S5 H5 gb gcap' hS5 k5 lgb c14b cgb hcap'
  have m5 := k5.1
  have sB5 := k5.sl sB (fun b' e => by cases e; simp; omega)
  have ltbb : bb < H3.next := by
    rcases sB with ⟨h | h, _⟩ | ⟨b', e, hr, _⟩
    · cases h
    · cases h
    · cases e; exact hr.lt
  have ltb : b < H3.next := by
    rcases sW with ⟨h | h, _⟩ | ⟨b', e, hr, _⟩
    · cases h
    · cases h
    · cases e; exact hr.lt
  have lt25 := c25.lt
  refine boards9_piece (x := x) c14b cgb hgl (by omega) sB5 (by omega) (fun b' e => by cases e; omega) (by omega) hS5 ?_
  intro S6 H6 hS6 k6 cgb6
  have m6 := k6.1
  rw [y3] at cgb6
  have ltgb := cgb.lt
  have c15b := k6.cl (k5.cl c15a (by simp; omega)) (by simp; omega)
  have c25b := k6.cl (k5.cl c25 (by simp; omega)) (by simp; omega)
  have c14c := k6.cl c14b (by simp; omega)
  have sW6 := k6.sl (k5.sl sW (fun b' e => by cases e; simp; omega)) (fun b' e => by cases e; simp; omega)
  generalize (foG false c hs i).2 = A0 at *
  generalize (foG true c hs i).2 = B0 at *
  rw [e1] at p1 p2 p3 p4
  rw [e2] at q1 q2 q3 q4
  simp only [St.plus] at p1 p2 p3 p4 q1 q2 q3 q4
  refine sumF_piece (b15 := b15) (b25 := b25) c15b c25b.rd (by omega) l15 (by rw [Int.add_comm]; exact p1) (by rw [Int.add_comm]; exact q1) (by rw [Int.add_comm]; exact p2) (by rw [Int.add_comm]; exact q2) (by rw [Int.add_comm]; exact p3) (by rw [Int.add_comm]; exact q3) (by rw [Int.add_comm]; exact p4) (by rw [Int.add_comm]; exact q4) hS6 ?_
  intro S7 H7 hS7 k7 c15c
  refine hK S7 H7 (some ⟨gb, 0, none⟩) gcap' (some ⟨b, 0, none⟩) cap (by rw [hwp]; exact hS7) ?_ (k7.cl c14c (by simp; omega)) ?_ ?_ ?_ (fun b' e => by cases e; omega) (fun b' e => by cases e; omega)
  · exact ((((k3.mono (by simp)).trans (k5.mono (by simp))).new (l := [b14, b15]) k6 (fun b' hb => .inr (by simp at hb; omega))).trans (k7.mono (by simp)))
  · rw [e1, e2]
    simpa [flowsV, St.plus, Int.add_comm] using c15c
  · exact k7.sl (.inr ⟨gb, rfl, cgb6.rd, hcap'⟩) (fun b' e => by cases e; simp; omega)
  · rw [w1, w2, hwp]
    exact k7.sl sW6 (fun b' e => by cases e; simp; omega)
end
end Go.Ax
namespace Go.Ax
open Go Go.RowKit Go.Proofs
section
variable {kn : FuncId → Option Bool} {lo : Nat} {F H : Hp}
theorem loop9 {S : Rg} {K : Exit → Rg → Hp → Prop} {c : Ch} {hs : List Hr} {k b4 b10 b14 b15 ln lcap capA cap9 : Nat} {la gA a9 : Option Addr} {pv : Value} {w0 : RW} (v : c.Vd) (hp : Sl F c.pa c.pn c.pcap (pdc c.ponds)) (hl : Sl F la ln lcap (hrc hs)) (hro : ∀ b, la = some ⟨b, 0, none⟩ → F.t.get b = some (.ro (hrc hs))) (hln : hs.length = ln) (ha : ∀ h ∈ hs, h.At F) (hh : ∀ h ∈ hs, hourB h c.pn c.gn = true) (hln2 : ln ≤ 200) (hlo : lo ≤ F.next) (hF : Keep F H [])
    (l14 : F.next ≤ b14) (l15 : F.next ≤ b15) (n45 : b14 ≠ b15) (h4 : Cl H b4 [pv, .slice gA c.gn capA]) (n414 : b4 ≠ b14) (n415 : b4 ≠ b15) (h10 : Cl H b10 (flowsV (foG false c hs ln).2 (foG true c hs ln).2)) (n104 : b10 ≠ b14) (n105 : b10 ≠ b15)
    (h9 : Sl H a9 c.wn cap9 (spc ((foG false c hs ln).2.ws.zip (foG true c hs ln).2.ws))) (f9 : ∀ b, a9 = some ⟨b, 0, none⟩ → b ≠ b14 ∧ b ≠ b15)
    (h14 : Cl H b14 [.slice c.pa c.pn c.pcap, .slice w0.ga c.gn w0.gcap]) (h15 : Cl H b15 zero8) (hg : Sl H w0.ga c.gn w0.gcap (gtc c.gs)) (hw : Sl H w0.wa c.wn w0.wcap (spc c.ss)) (fg0 : ∀ b, w0.ga = some ⟨b, 0, none⟩ → b ≠ b14 ∧ b ≠ b15) (fw0 : ∀ b, w0.wa = some ⟨b, 0, none⟩ → b ≠ b14 ∧ b ≠ b15)
    (hss : (foG false c hs 0).2.ws.zip (foG true c hs 0).2.ws = c.ss) (h0 : w0.i = 0)
    (hS : Subs [(2, .slice la ln lcap), (4, pt b4), (9, .slice a9 c.wn cap9), (10, pt b10), (12, iv k), (13, .slice w0.wa c.wn w0.wcap), (14, pt b14), (15, pt b15), (16, f39v), (57, .slice la ln lcap), (58, iv ln), (59, iv w0.i)] S)
    (hK : ∀ (w : RW) S' H', Subs [(9, .slice a9 c.wn cap9), (10, pt b10), (13, .slice w.wa c.wn w.wcap), (15, pt b15)] S' → Keep H H' [b14, b15] → Cl H' b15 (flowsV (foG false c hs ln).2 (foG true c hs ln).2) → Sl H' w.wa c.wn w.wcap (spc ((foG false c hs ln).2.ws.zip (foG true c hs ln).2.ws)) → K (.exit 0) S' H') :
    Tri Try.prog kn lo 182 false (at_ Try.f9 [1, 1, 1, 1, 1, 1, 1, 1, 0, 1, 0]) S H K := by
  have hcl : ∀ h ∈ hs, h.cs.length = h.cn := fun h hm => (ha h hm).lc
  have hwp := v.wp
  have h16 := v.h16
  refine loop_lv E9_1 V9z (fun w : RW => [(2, .slice la ln lcap), (4, pt b4), (9, .slice a9 c.wn cap9), (10, pt b10), (12, iv k), (13, .slice w.wa c.wn w.wcap), (14, pt b14), (15, pt b15), (16, f39v), (57, .slice la ln lcap), (58, iv ln), (59, iv w.i)])
    (fun k' w H' => w.i + k' = ln ∧ Keep F H' [] ∧ Keep H H' [b14, b15] ∧ Cl H' b14 [.slice c.pa c.pn c.pcap, .slice w.ga c.gn w.gcap] ∧ Cl H' b15 (flowsV (foG false c hs w.i).2 (foG true c hs w.i).2) ∧ Sl H' w.ga c.gn w.gcap (gtc (foG false c hs w.i).1) ∧
      Sl H' w.wa c.wn w.wcap (spc ((foG false c hs w.i).2.ws.zip (foG true c hs w.i).2.ws)) ∧ (∀ b, w.ga = some ⟨b, 0, none⟩ → b ≠ b14 ∧ b ≠ b15) ∧ (∀ b, w.wa = some ⟨b, 0, none⟩ → b ≠ b14 ∧ b ≠ b15)) ln w0 ⟨by omega, hF, Keep.refl _ _, h14, by rw [h0]; exact h15, by rw [h0]; exact hg, by rw [h0, hss]; exact hw, fg0, fw0⟩ hS ?_
  rintro k' ⟨ga, gcap, wa, wcap, i⟩ H2 ⟨hik, hk, hkk, c14, c15, sg, sw, gg, gw⟩
  simp only at hik c14 c15 sg sw gg gw
  have hmn := hkk.1
  have hkn := hk.1
  refine And.intro (fun hlt => ?_) (fun hge => ?_)
  · have hi : i < ln := by simpa using hlt
    have hl2 := hk.sl0 hl
    rcases hl2 with ⟨_, h0, _⟩ | ⟨lb, rfl, hlc, hcap⟩
    · omega
    have hltF : lb < F.next := by
      rcases hl with ⟨h | h, _⟩ | ⟨b', e, hr, _⟩
      · cases h
      · cases h
      · cases e; exact hr.lt
    have hr0 := hro lb rfl
    obtain ⟨x, hx⟩ := get_some (l := hs) (i := i) (by omega)
    have vd := after_vd v hh hcl (i := i) (by omega) ga gcap wa wcap
    have hci : (c.after hs i ga gcap wa wcap).At H2 := ⟨hk.sl0 hp, sg, sw, vd.lp, vd.lg, vd.lw⟩
    have h42 := hkk.cl h4 (by simp; omega)
    have h102 := hkk.cl h10 (by simp; omega)
    have h92 := hkk.sl h9 (fun b e => by have := f9 b e; simp; omega)
    have lt14 := c14.lt
    have lt15 := c15.lt
    refine Exists.intro i (And.intro rfl (And.intro hi ?_))
    refine Exists.intro _ (Exists.intro _ (And.intro hlc.of (And.intro (row_flat (f := Hr.v) (fun _ _ => rfl) hx) ?_)))
    intro H5 hH5; obtain ⟨k5, n5, c5⟩ := new_facts hH5; clear hH5
    obtain ⟨_, e5, l5, g5⟩ := id c5
    refine Exists.intro _ (Exists.intro _ (Exists.intro _ (And.intro g5 (And.intro (by omega) (And.intro rfl (And.intro rfl (And.intro (by simp) ?_)))))))
    intro H6 hH6; obtain ⟨k6, n6, c6⟩ := up_facts c5 hH6; clear hH6
    have c6 : Cl H6 H2.next x.v := c6
    have k26 : Keep H2 H6 [] := k5.new k6 (by simp)
    have m6 := k26.1
    have kF6 := hk.trans k26
    have d4 := k26.cl h42 (by simp)
    have d10 := k26.cl h102 (by simp)
    have d9 := k26.sl0 h92
    have d14 := k26.cl c14 (by simp)
    have d15 := k26.cl c15 (by simp)
    have hci6 := hci.keep k26
    refine And.intro (fun he => ?_) (fun he => ?_)
    · have he : i = k := by
        have : (i : Int) = (k : Int) := by simpa using he
        omega
      subst he
      have hltb : lb < H6.next := by have := kF6.1; omega
      have h06 : H6.t.get lb = some (.ro (hrc hs)) := by rw [kF6.2 lb hltF (by simp)]; exact hr0
      obtain ⟨b, s, t, Ha, f1, ka, hb, cb, hE⟩ := rest_run (kn := kn) (lo := H6.next) (H := H6) (lcap := lcap) (ga := ga) (gcap := gcap) (wa := wa) (wcap := wcap) v hh (fun h hm => (ha h hm).keep kF6) hln hln2 hi ⟨hltb, by simp [cellsOf, h06]⟩ hci6 (Nat.le_refl _)
      have ma := ka.1
      obtain ⟨p1, p2, p3, p4⟩ := ahead_small (fo_ahead v hh hcl false ln hln2).1 hln2
      obtain ⟨q1, q2, q3, q4⟩ := ahead_small (fo_ahead v hh hcl true ln hln2).1 hln2
      have hbl : ((foG false c hs ln).2.ws.zip (foG true c hs ln).2.ws).length = c.wn := by
        rw [List.length_zip, fo_len, fo_len, v.lw]; simp
      have hE2 := hE
      simp only [flowsV, St.plus, List.cons.injEq, and_true, Value.int.injEq, true_and] at hE2
      obtain ⟨u1, u2, u3, u4, u5, u6, u7, u8⟩ := hE2
      rw [u1, Int.add_comm] at p1; rw [u3, Int.add_comm] at p2; rw [u5, Int.add_comm] at p3; rw [u7, Int.add_comm] at p4
      rw [u2, Int.add_comm] at q1; rw [u4, Int.add_comm] at q2; rw [u6, Int.add_comm] at q3; rw [u8, Int.add_comm] at q4
      have e10 : flowsV (foG false c hs ln).2 (foG true c hs ln).2 = [iv ((foG false c hs i).2.came + s.came), iv ((foG true c hs i).2.came + t.came), iv ((foG false c hs i).2.seeped + s.seeped), iv ((foG true c hs i).2.seeped + t.seeped), iv ((foG false c hs i).2.river + s.river), iv ((foG true c hs i).2.river + t.river), iv ((foG false c hs i).2.taken + s.taken), iv ((foG true c hs i).2.taken + t.taken)] := by
        rw [hE]; simp [flowsV, St.plus, Int.add_comm]
      refine rest9_call (b := b) (s := s) (t := t) (lcap := lcap) (H1 := Ha) hi hcap hltb h06 (by omega) d14.rd f1 ma ⟨rfl, rfl, rfl, rfl, rfl, rfl, rfl, rfl, rfl, rfl, rfl, rfl, rfl, trivial⟩ ?_
      intro Sb Hb hSb kb c20
      have mb := kb.1
      have k6b := ka.trans kb
      have m6b := k6b.1
      refine rest9_copy (k6b.cl d15 (by simp)).rd (by omega) hSb ?_
      intro Sc Hc hSc kc c22
      have mc := kc.1
      have k6c := k6b.trans kc
      have m6c := k6c.1
      have lt20 := c20.lt
      have ltb2 := (kb.cl cb (by simp)).lt
      have lt10 := d10.lt
      have g9 : ∀ b', a9 = some ⟨b', 0, none⟩ → b' < H6.next := fun b' e => by
        rcases d9 with ⟨h | h, _⟩ | ⟨b2, e2, hr, _⟩
        · rw [h] at e; cases e
        · rw [h] at e; cases e
        · rw [e2] at e; cases e; exact hr.lt
      have h10c := (k6c.cl d10 (by simp)).rd
      rw [e10] at h10c
      refine rest9_ask (b22 := Hb.next) (l := (foG false c hs ln).2.ws.zip (foG true c hs ln).2.ws) c22 (kc.cl c20 (by simp)).rd (by omega) (by omega) (by omega) h10c (k6c.sl0 d9) (.inr ⟨b, rfl, (kc.cl (kb.cl cb (by simp)) (by simp)).rd, Nat.le_refl _⟩) (fun b' e => by have := g9 b' e; omega) (fun b' e => by cases e; omega) hbl (by omega) p1 q1 p2 q2 p3 q3 p4 q4 hSc ?_
      intro Sd Hd hSd kd
      have k6d : Keep H6 Hd [] := k6c.new kd (fun b' hb' => .inr (by simp at hb'; omega))
      have m6d := k6d.1
      refine body9 (i := i) (x := x) (ln := ln) (b18 := H2.next) v hh (fun h hm => (ha h hm).keep (kF6.trans k6d)) (by omega) hx hi (hci6.keep k6d) (k6d.cl d4 (by simp)).rd (k6d.cl d14 (by simp)) (k6d.cl d15 (by simp)) (k6d.cl c6 (by simp)).rd n45 n414 n415 (fun b e => (gg b e).1) (by omega) (by omega) (by omega) hSd ?_
      intro S7 H7 ga' gcap' wa' wcap' hS7 k7 d14 d15 sg' sw' fg fw
      have m7 := k7.1
      refine tri_piece L9ze hS7 ?_
      refine And.intro (show InR ((i : Int) + 1) from ⟨by omega, by omega⟩) ?_
      refine ⟨k' - 1, ⟨ga', gcap', wa', wcap', i + 1⟩, by omega, ⟨by simp only; omega, (kF6.trans k6d).new k7 (fun b hb => .inr (by simp at hb; omega)), ((hkk.trans (k26.mono (by simp))).trans (k6d.mono (by simp))).trans k7, d14, d15, sg', sw', fun b e => by have := fg b e; omega, fun b e => by have := fw b e; omega⟩, rfl, rfl, rfl, rfl, rfl, rfl, rfl, rfl, rfl, rfl, rfl, rfl, trivial⟩
    · refine body9 (i := i) (x := x) (ln := ln) (b18 := H2.next) v hh (fun h hm => (ha h hm).keep kF6) (by omega) hx hi hci6 d4.rd d14 d15 c6.rd n45 n414 n415 (fun b e => (gg b e).1) (by omega) (by omega) (by omega) ⟨rfl, rfl, rfl, rfl, rfl, rfl, rfl, rfl, rfl, rfl, rfl, rfl, rfl, trivial⟩ ?_
      intro S7 H7 ga' gcap' wa' wcap' hS7 k7 d14 d15 sg' sw' fg fw
      have m7 := k7.1
      refine tri_piece L9ze hS7 ?_
      refine And.intro (show InR ((i : Int) + 1) from ⟨by omega, by omega⟩) ?_
      refine ⟨k' - 1, ⟨ga', gcap', wa', wcap', i + 1⟩, by omega, ⟨by simp only; omega, kF6.new k7 (fun b hb => .inr (by simp at hb; omega)), (hkk.trans (k26.mono (by simp))).trans k7, d14, d15, sg', sw', fun b e => by have := fg b e; omega, fun b e => by have := fw b e; omega⟩, rfl, rfl, rfl, rfl, rfl, rfl, rfl, rfl, rfl, rfl, rfl, rfl, trivial⟩
  · have hi : ¬ i < ln := by simpa using hge
    have hl : i = ln := by omega
    subst hl
    exact hK ⟨ga, gcap, wa, wcap, i⟩ _ _ ⟨rfl, rfl, rfl, rfl, trivial⟩ hkk c15 sw
end
end Go.Ax
namespace Go.Ax
open Go Go.RowKit Go.Proofs
theorem imports2R {P : Program} (imps : List Imp) (w : World) (h : ∀ x ∈ imps, ∀ (i : Nat) v, x.cs[i]? = some v → w.cell? ⟨x.blk, x.off + i, none⟩ = some v ∧ flat1 v = true) (blk off : Nat) (cs : List Value)
    (hcs : ∀ (i : Nat) v, cs[i]? = some v → ∃ v', w.cell? ⟨blk, off + i, none⟩ = some v' ∧ VR (renOf imps) v v') :
    ∃ (r : Ren) (H : Hp), Rel P r w.heap.size H w ∧ H.next = imps.length + 1 ∧ (∀ b loc, r b = some loc → b < H.next) ∧ Ren.Le (renOf imps) r ∧ (∀ (b : Nat) x, imps[b]? = some x → r b = some ⟨x.blk, x.off, none⟩ ∧ cellsOf H b = some x.cs) ∧
      r imps.length = some ⟨blk, off, none⟩ ∧ H.t.get imps.length = some (.ro cs) := by
  obtain ⟨t, ht⟩ := tr_of (fun b => if b = imps.length then some (.ro cs) else (imps[b]?).map fun x => .ro x.cs) (imps.length + 1)
  let r : Ren := fun b => if b = imps.length then some ⟨blk, off, none⟩ else (imps[b]?).map fun x => ⟨x.blk, x.off, none⟩
  have hle : Ren.Le (renOf imps) r := fun b loc e => by
    unfold renOf at e
    have hlt : b < imps.length := by
      rcases Nat.lt_or_ge b imps.length with q | q
      · exact q
      · rw [List.getElem?_eq_none q] at e; cases e
    simp only [r]
    rw [if_neg (by omega)]; exact e
  have hr : ∀ (b : Nat) loc, r b = some loc → (b = imps.length ∧ loc = ⟨blk, off, none⟩ ∧ t.get b = some (.ro cs)) ∨ ∃ x, imps[b]? = some x ∧ b < imps.length ∧ loc = ⟨x.blk, x.off, none⟩ ∧ t.get b = some (.ro x.cs) := by
    intro b loc e
    simp only [r] at e
    by_cases hb : b = imps.length
    · rw [if_pos hb] at e
      cases e
      exact .inl ⟨hb, rfl, by rw [ht, if_pos (by omega), if_pos hb]⟩
    · rw [if_neg hb] at e
      cases hx : imps[b]? with
      | none => rw [hx] at e; cases e
      | some x =>
        rw [hx] at e
        simp at e
        have hlt := get_lt hx
        exact .inr ⟨x, rfl, hlt, e.symm, by rw [ht, if_pos (by omega), if_neg hb, hx]; rfl⟩
  have low : ∀ {g o : Nat} {v : Value}, w.cell? ⟨g, o, none⟩ = some v → g < w.heap.size := fun {g o v} hv => by
    unfold World.cell? at hv
    rcases Nat.lt_or_ge g w.heap.size with q | q
    · exact q
    · rw [Array.getElem?_eq_none q] at hv; cases hv
  refine ⟨r, { next := imps.length + 1, t }, ⟨?_, ?_, ?_, Nat.le_refl _⟩, rfl, ?_, hle, ?_, by simp [r], ?_⟩
  · intro b loc e
    rcases hr b loc e with ⟨hb, rfl, hg⟩ | ⟨x, hx, hlt, rfl, hg⟩
    · refine ⟨by show b < imps.length + 1; omega, ?_⟩
      show Dm _ _ _ (t.get b)
      rw [hg]
      cases hc : cs with
      | nil => exact .inl rfl
      | cons v l =>
        obtain ⟨v', h1, _⟩ := hcs 0 v (by rw [hc]; rfl)
        exact .inr (low h1)
    · refine ⟨by show b < imps.length + 1; omega, ?_⟩
      show Dm _ _ _ (t.get b)
      rw [hg]
      cases hc : x.cs with
      | nil => exact .inl rfl
      | cons v l => exact .inr (low (h x (List.mem_of_getElem? hx) 0 v (by rw [hc]; rfl)).1)
  · intro b loc o e eo
    rcases hr b loc e with ⟨hb, rfl, hg⟩ | ⟨x, hx, hlt, rfl, hg⟩
    · rw [hg] at eo; cases eo
      refine ⟨rfl, fun i v ev => ?_⟩
      obtain ⟨v', h1, h2⟩ := hcs i v ev
      unfold World.cell? at h1
      simp only at h1
      split at h1
      · rename_i C e' f hC
        exact ⟨C, e', f, v', hC, by simpa using h1, h2.mono hle⟩
      · cases h1
    · rw [hg] at eo; cases eo
      refine ⟨rfl, fun i v ev => ?_⟩
      obtain ⟨h1, h2⟩ := h x (List.mem_of_getElem? hx) i v ev
      unfold World.cell? at h1
      simp only at h1
      split at h1
      · rename_i C e' f hC
        exact ⟨C, e', f, v, hC, by simpa using h1, flat1_vr h2⟩
      · cases h1
  · intro b b' loc loc' e e' _ hl _
    exfalso
    obtain ⟨o, h1, h2, h3⟩ := hl
    have h1 : t.get b = some o := h1
    rcases hr b loc e with ⟨_, _, hg⟩ | ⟨x, _, _, _, hg⟩ <;> (rw [hg] at h1; cases h1; cases h3)
  · intro b loc e
    show b < imps.length + 1
    rcases hr b loc e with ⟨hb, _, _⟩ | ⟨x, _, hlt, _, _⟩ <;> omega
  · intro b x hx
    have hlt := get_lt hx
    refine ⟨by simp only [r]; rw [if_neg (by omega), hx]; rfl, ?_⟩
    unfold cellsOf
    show (match t.get b with | some (.cells cs _ _) => some cs | some (.ro cs) => some cs | _ => none) = _
    rw [ht, if_pos (by omega), if_neg (by omega), hx]; rfl
  · show t.get imps.length = some (.ro cs)
    rw [ht, if_pos (by omega), if_pos rfl]
theorem imports_hoursR {P : Program} (pre : List Imp) {w : World} {lv : Value} {L : List HV} (hl : HL w lv L) (h : ∀ x ∈ pre, ∀ (i : Nat) v, x.cs[i]? = some v → w.cell? ⟨x.blk, x.off + i, none⟩ = some v ∧ flat1 v = true) :
    ∃ (r : Ren) (H : Hp) (la : Option Addr) (lcap : Nat) (hs : List Hr), Rel P r w.heap.size H w ∧ (∀ b loc, r b = some loc → b < H.next) ∧ pre.length < H.next ∧ (∀ (b : Nat) x, pre[b]? = some x → r b = some ⟨x.blk, x.off, none⟩ ∧ cellsOf H b = some x.cs) ∧
      VR r (.slice la L.length lcap) lv ∧ Sl H la L.length lcap (hrc hs) ∧ hs.length = L.length ∧ (∀ h ∈ hs, h.At H) ∧ ∀ b, la = some ⟨b, 0, none⟩ → H.t.get b = some (.ro (hrc hs)) := by
  obtain ⟨hs, e1, e2, e3⟩ := hours_abs (w := w) (imps := pre ++ L.flatMap HV.i) L pre rfl hl.q
  have himp : ∀ x ∈ pre ++ L.flatMap HV.i, ∀ (i : Nat) v, x.cs[i]? = some v → w.cell? ⟨x.blk, x.off + i, none⟩ = some v ∧ flat1 v = true := by
    intro x hx
    simp only [List.mem_append, List.mem_flatMap] at hx
    rcases hx with hx | ⟨y, hy, hx⟩
    · exact h x hx
    · have q := hl.q y hy
      simp only [HV.i, List.mem_cons, List.not_mem_nil, or_false] at hx
      rcases hx with rfl | rfl | rfl
      · exact q.g1.ok
      · exact q.g2.ok
      · exact q.g3.ok
  rcases hl.v with ⟨hv, rfl⟩ | ⟨blk, off, cap, rfl, hcap, hcells⟩
  · obtain ⟨r, H, h1, h2, h3, h4, h5, h6, h7⟩ := imports2R (P := P) (pre ++ [].flatMap HV.i) w himp 0 0 [] (fun i v e => by simp at e)
    have hpl : pre.length < H.next := by rw [h2]; simp
    have hAt : ∀ x ∈ hs, x.At H := e3 H (fun b x hx => ⟨by rw [h2]; have := get_lt hx; omega, (h5 b x hx).2⟩)
    have hs0 : hs = [] := List.eq_nil_of_length_eq_zero e1
    subst hs0
    rcases hv with rfl | ⟨a', rfl⟩
    · exact ⟨r, H, none, 0, [], h1, h3, hpl, fun b x hx => h5 b x (by simpa using hx), .nilSlice, .inl ⟨.inl rfl, rfl, rfl, rfl⟩, rfl, hAt, fun b e => by cases e⟩
    · exact ⟨r, H, some ⟨0, 0, some 0⟩, 0, [], h1, h3, hpl, fun b x hx => h5 b x (by simpa using hx), .weird, .inl ⟨.inr rfl, rfl, rfl, rfl⟩, rfl, hAt, fun b e => by cases e⟩
  · obtain ⟨r, H, h1, h2, h3, h4, h5, h6, h7⟩ := imports2R (P := P) (pre ++ L.flatMap HV.i) w himp blk off (hrc hs) (fun i v e => by
      have hlt := get_lt e
      have hlt2 : i < (L.flatMap HV.f).length := by rw [← e2.1]; exact hlt
      have hu := List.getElem?_eq_getElem hlt2
      exact ⟨_, hcells i _ hu, e2.2 i v _ e hu⟩)
    have hpl : pre.length < H.next := by rw [h2]; simp; omega
    have hAt : ∀ x ∈ hs, x.At H := e3 H (fun b x hx => ⟨by rw [h2]; have := get_lt hx; omega, (h5 b x hx).2⟩)
    refine ⟨r, H, some ⟨(pre ++ L.flatMap HV.i).length, 0, none⟩, cap, hs, h1, h3, hpl, fun b x hx => h5 b x (by
      have := get_lt hx
      rw [List.getElem?_append_left this]; exact hx), ?_, .inr ⟨_, rfl, ⟨by rw [h2]; omega, by unfold cellsOf; rw [h7]⟩, hcap⟩, e1, hAt, fun b e => by cases e; exact h7⟩
    have := VR.slice (o := 0) (n := L.length) (c := cap) h6 rfl hcap
    simpa using this

theorem conv_8 (x : Nat) (h2 : x ≤ 255) {S : Rg} {n : Nat} {o : Operand} {d : Option Nat} (hx : evS S o = some (.int .u8 (x : Int))) : pureOp Try.prog (frS n S) ⟨d, .convert 5 3 o, 3, "", #[], none⟩ = some (iv x) := by
  have e : ∀ y : Int, prun Try.prog (Go.convert 5 3 (.int .u8 y)) = some (.int .i64 (IntKind.i64.wrap y)) := fun y => by kernel_rfl
  unfold pureOp
  simp only [ev_frS, hx, flat, flat1, cond_true, e, wrap_i64 (x := (x : Int)) ⟨(by omega), (by omega)⟩]
section
variable {kn : FuncId → Option Bool} {lo : Nat} {H : Hp}
theorem then9_piece {S : Rg} {K : Exit → Rg → Hp → Prop} {b4 : Nat} {pv gv wv v2 v9 v10 v12 : Value} (h4 : Rd H b4 [pv, gv]) (o1 : one pv = true) (o2 : one gv = true) (hlo : lo ≤ H.next)
    (hS : Subs [(1, wv), (2, v2), (4, pt b4), (9, v9), (10, v10), (12, v12)] S)
    (hK : ∀ S' H', Subs [(2, v2), (4, pt b4), (9, v9), (10, v10), (12, v12), (13, wv), (14, pt H.next)] S' → Keep H H' [] → Cl H' H.next [pv, gv] → K .normal S' H') :
    Tri Try.prog kn lo 182 false (at_ Try.f9 [1, 1, 1, 1, 1, 0]) S H K := by
  refine tri_piece L9t55 hS ?_
  refine wD_dreg ?_
  refine wD_mov (v := wv) rfl ?_
  refine wD_lda (b := b4) (o := 0) rfl h4 (show row 2 _ _ = some [pv, gv] from rfl) ?_
  refine wD_alc ?_
  intro H2 k2 n2 c2
  refine wD_mov (v := wv) rfl ?_
  refine wD_sta (b := H.next) (o := 0) (v := .agg #[pv, gv]) rfl rfl c2 (by omega) rfl (by show ([pv, gv] : List Value).all one = true; simp [o1, o2]) (by simp) ?_
  intro H3 k3 n3 c3
  have c3 : Cl H3 H.next [pv, gv] := c3
  refine wD_end (by repeat' first | exact True.intro | exact (fun h => h) | refine And.intro ?_ ?_) ?_
  exact hK _ _ ⟨rfl, rfl, rfl, rfl, rfl, rfl, rfl, trivial⟩ (k2.new k3 (fun b hb => .inr (by simp at hb; omega))) c3
theorem flow9_piece {S : Rg} {K : Exit → Rg → Hp → Prop} {v2 v4 v9 v10 v12 v13 v14 : Value}
    (hS : Subs [(2, v2), (4, v4), (9, v9), (10, v10), (12, v12), (13, v13), (14, v14)] S)
    (hK : ∀ S' H', Subs [(2, v2), (4, v4), (9, v9), (10, v10), (12, v12), (13, v13), (14, v14), (15, pt H.next)] S' → Keep H H' [] → Cl H' H.next zero8 → K .normal S' H') :
    Tri Try.prog kn lo 182 false (at_ Try.f9 [1, 1, 1, 1, 1, 1, 0]) S H K := by
  refine tri_piece L9t15 hS ?_
  intro H2 hH2; obtain ⟨k2, n2, c2⟩ := new_facts hH2
  exact hK _ _ ⟨rfl, rfl, rfl, rfl, rfl, rfl, rfl, rfl, trivial⟩ k2 c2
theorem func9_piece {S : Rg} {K : Exit → Rg → Hp → Prop} {v2 v4 v9 v10 v12 v13 v14 v15 : Value}
    (hS : Subs [(2, v2), (4, v4), (9, v9), (10, v10), (12, v12), (13, v13), (14, v14), (15, v15)] S)
    (hK : ∀ S', Subs [(2, v2), (4, v4), (9, v9), (10, v10), (12, v12), (13, v13), (14, v14), (15, v15), (16, f39v)] S' → K .normal S' H) :
    Tri Try.prog kn lo 182 false (at_ Try.f9 [1, 1, 1, 1, 1, 1, 1, 0]) S H K := by
  refine tri_piece L9t16 hS ?_
  exact hK _ ⟨rfl, rfl, rfl, rfl, rfl, rfl, rfl, rfl, rfl, trivial⟩
theorem last9_piece {S : Rg} {K : Exit → Rg → Hp → Prop} {a9 a13 : Option Addr} {wn c9 c13 b10 b15 : Nat} {l : List (Int × Int)} {x1 x2 x3 x4 x5 x6 x7 x8 : Int} (hkn : kn 15 = some true) (h9 : Sl H a9 wn c9 (spc l)) (h13 : Sl H a13 wn c13 (spc l)) (hl : l.length = wn) (hwn : wn ≤ 1000) (h10 : Rd H b10 [iv x1, iv x2, iv x3, iv x4, iv x5, iv x6, iv x7, iv x8]) (h15 : Rd H b15 [iv x1, iv x2, iv x3, iv x4, iv x5, iv x6, iv x7, iv x8])
    (hS : Subs [(9, .slice a9 wn c9), (10, pt b10), (13, .slice a13 wn c13), (15, pt b15)] S)
    (hK : ∀ S' H', lk S' 8 = some (.bool true) → K .ret S' H') :
    Tri Try.prog kn lo 182 false (at_ Try.f9 [1, 1, 1, 1, 1, 1, 1, 1, 1]) S H K := by
  refine tri_piece L9t171 hS ?_
  have f22 := spans_same (kn := kn) (lo := lo) h13 h9 hl hwn
  refine Exists.intro _ (Exists.intro _ (And.intro (callX_args f22) ?_))
  refine Exists.intro _ (Exists.intro _ (And.intro h15.of (And.intro (show row 8 _ _ = some [iv x1, iv x2, iv x3, iv x4, iv x5, iv x6, iv x7, iv x8] from rfl) ?_)))
  refine Exists.intro _ (Exists.intro _ (And.intro h10.of (And.intro (show row 8 _ _ = some [iv x1, iv x2, iv x3, iv x4, iv x5, iv x6, iv x7, iv x8] from rfl) ?_)))
  refine And.intro rfl (Exists.intro (.bool true) (And.intro (pur_eql37 (x1 := x1) (x2 := x2) (x3 := x3) (x4 := x4) (x5 := x5) (x6 := x6) (x7 := x7) (x8 := x8) rfl rfl rfl) ?_))
  refine And.intro rfl (Exists.intro (.bool true) (And.intro rfl ?_))
  refine Exists.intro _ (Exists.intro _ (And.intro (callX_known hkn) ?_))
  refine And.intro rfl (Exists.intro (.bool true) (And.intro rfl ?_))
  exact hK _ _ rfl
theorem law_split (hkn : kn 15 = some true) {q : BQ} {cut : Nat} (hcut : cut ≤ 255) (hc : q.c.At H) (hl : Sl H q.la q.ln q.lcap (hrc q.hs)) (hro : ∀ b, q.la = some ⟨b, 0, none⟩ → H.t.get b = some (.ro (hrc q.hs))) (hln : q.hs.length = q.ln) (hh : ∀ h ∈ q.hs, h.At H) (hlo : lo ≤ H.next) :
    ∃ H', FnX Try.prog kn lo 9 [q.c.cv, q.c.wv, .slice q.la q.ln q.lcap, .int .u8 cut] H (.bool true) H' := by
  have key := fnX_lv (kn := kn) (lo := lo) (H := H) (args := [q.c.cv, q.c.wv, .slice q.la q.ln q.lcap, .int .u8 cut]) (Q := fun v H' => v = .bool true) Try.func9 B9 N9 Z9 V9 (by simp) ?_
  · obtain ⟨v, H', hf, rfl⟩ := key; exact ⟨H', hf⟩
  intro H1 hH1; obtain ⟨k1, n1, c1⟩ := new_facts hH1; clear hH1
  have c1 : Cl H1 H.next [.slice q.c.pa q.c.pn q.c.pcap, .slice q.c.ga q.c.gn q.c.gcap] := c1
  have m1 := k1.1
  have al : ∀ (H9 : Hp) (K : Value → Hp → Prop), K (.bool true) H9 → ∃ v H', CallsX Try.prog kn lo (.fn (.func 15) #[]) [] H9 v H' ∧ K v H' := fun H9 K h => ⟨_, _, callX_known hkn, h⟩
  refine callB many_ok ?_
  intro t2 H2 h2 k2
  have k02 := k1.trans k2
  have m2 := k02.1
  cases t2
  rotate_left
  · repeat (refine And.intro rfl (Exists.intro (.bool true) (And.intro rfl ?_)))
    refine condT ?_
    refine al _ _ ?_
    exact And.intro trivial (Exists.intro _ (And.intro rfl (rfl)))
  have hmany : q.ln ≤ 205 := by
    simp [manyB] at h2; omega
  have c1 := k2.cl c1 (by simp)
  refine Exists.intro _ (Exists.intro _ (And.intro c1.of (And.intro (show row 2 _ _ = some [.slice q.c.pa q.c.pn q.c.pcap, .slice q.c.ga q.c.gn q.c.gcap] from rfl) ?_)))
  refine callB (great_ok (lo := lo) (c := q.c) (k02.sl0 hl) hln (by omega) (by omega)) ?_
  intro t3 H3 h3 k3
  have k03 := k02.trans k3
  have m3 := k03.1
  cases t3
  rotate_left
  · repeat (refine And.intro rfl (Exists.intro (.bool true) (And.intro rfl ?_)))
    refine condT ?_
    refine al _ _ ?_
    exact And.intro trivial (Exists.intro _ (And.intro rfl (rfl)))
  refine And.intro rfl (Exists.intro (.bool false) (And.intro rfl ?_))
  refine condF ?_
  have c1 := k3.cl c1 (by simp)
  obtain ⟨x1, x2, x3, x4, x5, x6, x7, x8, hx⟩ := runF_eight q
  refine Exists.intro _ (Exists.intro _ (And.intro c1.of (And.intro (show row 2 _ _ = some [.slice q.c.pa q.c.pn q.c.pcap, .slice q.c.ga q.c.gn q.c.gcap] from rfl) ?_)))
  obtain ⟨v5, H5, h5, k5, p5⟩ := run_ok (kn := kn) (lo := lo) (H := H3) (q := q) (hc.keep k03) (k03.sl0 hl) hln (fun h hm => (hh h hm).keep k03) (by omega)
  obtain ⟨a5, cap5, rfl, s5⟩ := run_uni p5.toB hc
  rw [hx] at h5
  have m5 := k5.1
  refine Exists.intro _ (Exists.intro _ (And.intro (callX_args h5) ?_))
  refine And.intro rfl (Exists.intro (_) (And.intro rfl ?_))
  refine And.intro rfl (Exists.intro (_) (And.intro rfl ?_))
  refine And.intro rfl (Exists.intro (_) (And.intro rfl ?_))
  intro H6 hH6; obtain ⟨k6, n6, c6⟩ := new_facts hH6; clear hH6
  have m6 := k6.1
  obtain ⟨_, e7, l7, g7⟩ := id c6
  refine Exists.intro _ (Exists.intro _ (Exists.intro _ (And.intro g7 (And.intro (by omega) (And.intro rfl (And.intro rfl (And.intro (by simp) ?_)))))))
  intro H7 hH7; obtain ⟨k7, n7, c7⟩ := up_facts c6 hH7; clear hH7
  have c7 : Cl H7 H5.next [iv x1, iv x2, iv x3, iv x4, iv x5, iv x6, iv x7, iv x8] := c7
  have k57 : Keep H5 H7 [] := k6.new k7 (fun b hb => .inr (by simp at hb; omega))
  have s5 := k57.sl0 s5
  have k37 := k5.trans k57
  have c1 := k37.cl c1 (by simp)
  have k07 := k03.trans k37
  have m7 := k07.1
  refine And.intro (fun hne => ?_) (fun heq => ?_)
  · refine al _ _ ?_
    exact And.intro trivial (Exists.intro _ (And.intro rfl (rfl)))
  have he : checkE q.c q.hs q.ln = 0 := by simpa using heq
  obtain ⟨v, ok2, ok3⟩ := check_vd he hc.lp hc.lg hc.lw
  have hwp := v.wp; have h16 := v.h16
  have hrl := runL_len hc he
  have hrf : [iv x1, iv x2, iv x3, iv x4, iv x5, iv x6, iv x7, iv x8] = flowsV (foG false q.c q.hs q.ln).2 (foG true q.c q.hs q.ln).2 := by
    rw [← hx]; show runF q = flowsV q.s q.t; unfold runF; rw [if_pos he]
  have hll : runL q = (foG false q.c q.hs q.ln).2.ws.zip (foG true q.c q.hs q.ln).2.ws := by
    show runL q = q.s.ws.zip q.t.ws; unfold runL; rw [if_pos he]
  obtain ⟨k, hk⟩ : ∃ k : Nat, (cut : Int) % ((q.ln : Int) + 1) = (k : Int) := ⟨cut % (q.ln + 1), by simp [Int.natCast_emod]⟩
  refine And.intro rfl (Exists.intro (iv cut) (And.intro (conv_8 cut hcut rfl) ?_))
  refine And.intro (show InR ((q.ln : Int) + 1) from ⟨by omega, by omega⟩) ?_
  refine And.intro (show (0 : Int) ≤ (cut : Int) by omega) (And.intro (show (0 : Int) < (q.ln : Int) + 1 by omega) (And.intro (show InR (cut : Int) from ⟨by omega, by omega⟩) (And.intro (show InR ((q.ln : Int) + 1) from ⟨by omega, by omega⟩) ?_)))
  refine then9_piece (b4 := H.next) c1.rd rfl rfl (by omega) (v12 := iv k) (v9 := .slice a5 q.c.wn cap5) ⟨rfl, rfl, rfl, by show some (Value.slice a5 (runL q).length cap5) = _; rw [hrl], rfl, by show some (iv ((cut : Int) % ((q.ln : Int) + 1))) = _; rw [hk], trivial⟩ ?_
  intro S8 H8 hS8 k8 c14
  have m8 := k8.1
  have lt14 := c14.lt
  refine flow9_piece hS8 ?_
  intro S9 H9 hS9 k9 c15
  have m9 := k9.1
  refine func9_piece hS9 ?_
  intro S10 hS10
  have k79 := k8.trans k9
  have k09 := k07.trans k79
  have hc9 := hc.keep k09
  have c7' := k79.cl c7 (by simp)
  rw [hrf] at c7'
  have s9 := k79.sl0 s5
  rw [hrl, hll] at s9
  have lt7 := c7.lt
  have old : ∀ (a : Option Addr) (n cap : Nat) (cs : List Value), Sl H a n cap cs → ∀ b, a = some ⟨b, 0, none⟩ → b < H.next := fun a n cap cs s b e => by
    rcases s with ⟨h | h, _⟩ | ⟨b', e', hr, _⟩
    · rw [h] at e; cases e
    · rw [h] at e; cases e
    · rw [e'] at e; cases e; exact hr.lt
  have old7 : ∀ b, a5 = some ⟨b, 0, none⟩ → b < H7.next := fun b e => by
    rcases s5 with ⟨h | h, _⟩ | ⟨b', e', hr, _⟩
    · rw [h] at e; cases e
    · rw [h] at e; cases e
    · rw [e'] at e; cases e; exact hr.lt
  have hll2 : ((foG false q.c q.hs q.ln).2.ws.zip (foG true q.c q.hs q.ln).2.ws).length = q.c.wn := by rw [← hll, hrl]
  refine tri_piece (S0 := [(2, .slice q.la q.ln q.lcap), (4, pt H.next), (9, .slice a5 q.c.wn cap5), (10, pt H5.next), (12, iv k), (13, q.c.wv), (14, pt H7.next), (15, pt H8.next), (16, f39v)]) L9t57 hS10 ?_
  refine loop9 (F := H) (c := q.c) (hs := q.hs) (k := k) (b14 := H7.next) (b15 := H8.next) (capA := q.c.gcap) (w0 := ⟨q.c.ga, q.c.gcap, q.c.wa, q.c.wcap, 0⟩) v hc.p hl hro hln hh ok3 ok2 hlo k09 (by omega) (by omega) (by omega) (k79.cl c1 (by simp)) (by omega) (by omega) c7' (by omega) (by omega) s9 (fun b e => by have := old7 b e; omega) (k9.cl c14 (by simp)) c15 hc9.g hc9.w
    (fun b e => by have := old _ _ _ _ hc.g b e; omega) (fun b e => by have := old _ _ _ _ hc.w b e; omega) (zip_self _) rfl ⟨rfl, rfl, rfl, rfl, rfl, rfl, rfl, rfl, rfl, rfl, rfl, rfl, trivial⟩ ?_
  intro w S11 H11 hS11 k11 c15' sw
  have h10' := k11.cl c7' (by simp; omega)
  rw [← hrf] at h10' c15'
  refine last9_piece hkn (k11.sl s9 (fun b e => by have := old7 b e; simp; omega)) sw hll2 (by omega) h10'.rd c15'.rd hS11 ?_
  intro S12 H12 h8
  refine And.intro trivial (Exists.intro [.bool true] (And.intro ?_ rfl))
  show resS Try.prog S12 _ [.tmp 8] = _
  simp only [resS, h8]
end
end Go.Ax

import Derived.Test.YtfdapdcfnognfaaAxW8
import Derived.Test.YtfdapdcfnognfaaAxR
import Derived.Test.YtfdapdcfnognfaaXb
import Derived.Test.YtfdapdcfnognfaaXr
set_option linter.all false
namespace Go.Ax
open Go Go.RowKit Go.Proofs
end Go.Ax
namespace Go.Ax
open Go Go.RowKit Go.Proofs
section
variable {kn : FuncId → Option Bool} {lo : Nat} {H : Hp}
/-- Every take gets all. -/
def satB : List Tk → St → Bool
  | [], _ => true
  | t :: r, s => decide (t.amount ≤ s.ws.getD t.pond.toNat 0) && satB r (takeS s t)
end
end Go.Ax
namespace Go.Ax
open Go Go.RowKit Go.Proofs
/-- A strict course in the heap; it lies at L or above. -/
structure CrsZ (c : Ch) (g : Bool) (L : Nat) (p : Wh) (H : Hp) (gs : List Gt) (s : St) : Prop where
  hc : Cl H p.k (Co.mk (bdv g) (.slice c.pa c.pn c.pcap) (.slice p.ga c.gn p.gcap) p.wb c.wn c.wn true s.came s.seeped s.river s.taken).cells
  hw : Cl H p.wb (ints s.ws)
  hg : Own L H p.ga c.gn (gtc gs)
  hp : Sl H c.pa c.pn c.pcap (pdc c.ponds)
  lg : gs.length = c.gn
  lws : s.ws.length = c.wn
  lk : L ≤ p.k
  lw : L ≤ p.wb
  ne : p.k ≠ p.wb
  gc : p.k ∉ gl p.ga
  gw : p.wb ∉ gl p.ga
  op : ∀ b, c.pa = some ⟨b, 0, none⟩ → b < L
theorem CrsZ.off {c : Ch} {g : Bool} {L : Nat} {p : Wh} {H : Hp} {gs : List Gt} {s : St} (h : CrsZ c g L p H gs s) {b : Nat} (hb : b < L) : b ∉ p.W := by
  intro q
  simp only [Wh.W, List.mem_cons] at q
  have h1 := h.lk; have h2 := h.lw
  rcases q with q | q | q
  · omega
  · omega
  · rcases h.hg with ⟨e, _⟩ | ⟨gb, e, hl, _⟩
    · rw [e] at q; simp [gl] at q
    · rw [mem_gl e] at q; simp at q; omega
theorem CrsZ.offNew {c : Ch} {g : Bool} {L : Nat} {p : Wh} {H : Hp} {gs : List Gt} {s : St} (h : CrsZ c g L p H gs s) {b : Nat} (hb : H.next ≤ b) : b ∉ p.W := by
  intro q
  simp only [Wh.W, List.mem_cons] at q
  have h1 := h.hc.lt; have h2 := h.hw.lt
  rcases q with q | q | q
  · omega
  · omega
  · rcases h.hg with ⟨e, _⟩ | ⟨gb, e, hl, hcl⟩
    · rw [e] at q; simp [gl] at q
    · rw [mem_gl e] at q; have := hcl.lt; simp at q; omega
theorem CrsZ.keep {c : Ch} {g : Bool} {L : Nat} {p : Wh} {H H1 : Hp} {gs : List Gt} {s : St} (h : CrsZ c g L p H gs s) (k : Keep H H1 []) : CrsZ c g L p H1 gs s :=
  ⟨k.cl h.hc (by simp), k.cl h.hw (by simp), h.hg.keep k (fun _ _ => by simp), k.sl0 h.hp, h.lg, h.lws, h.lk, h.lw, h.ne, h.gc, h.gw, h.op⟩

theorem CrsZ.keepW {c : Ch} {g : Bool} {L : Nat} {p : Wh} {H H1 : Hp} {gs : List Gt} {s : St} {w : List Nat} (h : CrsZ c g L p H gs s) (k : Keep H H1 w) (hw : ∀ b, b ∈ w → b ∉ p.W) (hp : Off w c.pa) : CrsZ c g L p H1 gs s := by
  have a : p.k ∉ w := fun q => hw _ q (by simp [Wh.W])
  have b : p.wb ∉ w := fun q => hw _ q (by simp [Wh.W])
  exact ⟨k.cl h.hc a, k.cl h.hw b, h.hg.keep k (fun b e q => hw _ q (by simp [Wh.W, mem_gl e])), k.sl h.hp hp, h.lg, h.lws, h.lk, h.lw, h.ne, h.gc, h.gw, h.op⟩


/-- In an hour every take gets all. -/
def satF (c : Ch) (g : Bool) (h : Hr) (gs : List Gt) (s : St) : Bool := satB h.ts (gatesS (boardsF h gs) (comesS (mkX c h ⟨0, 0, none, 0⟩ g 0) s))
end Go.Ax
namespace Go.Ax
open Go Go.RowKit Go.Proofs
end Go.Ax
namespace Go.Ax
open Go Go.RowKit Go.Proofs
/-- The hour that is yielded: its takes lie anew, with one more. -/
def Hr.more (h : Hr) (m : Tk) (a : Option Addr) (cap : Nat) : Hr := { h with ta := a, tn := h.tn + 1, tcap := cap, ts := h.ts ++ [m] }
structure HrsM (b1 b2 : Nat) (la : Option Addr) (ln lcap : Nat) (hs : List Hr) (ma : Option Addr) (mcap : Nat) (m : Tk) (H : Hp) : Prop where
  c1 : Rd H b1 [.slice la ln lcap]
  c2 : Rd H b2 [.slice ma 1 mcap]
  l : Sl H la ln lcap (hrc hs)
  ln : hs.length = ln
  h : ∀ h ∈ hs, h.At H
  m : Sl H ma 1 mcap (tkc [m])
theorem HrsM.keep {b1 b2 : Nat} {la : Option Addr} {ln lcap : Nat} {hs : List Hr} {ma : Option Addr} {mcap : Nat} {m : Tk} {H H1 : Hp} (a : HrsM b1 b2 la ln lcap hs ma mcap m H) (k : Keep H H1 []) : HrsM b1 b2 la ln lcap hs ma mcap m H1 :=
  ⟨k.rd a.c1 (by simp), k.rd a.c2 (by simp), k.sl0 a.l, a.ln, fun x hx => (a.h x hx).keep k, k.sl0 a.m⟩

end Go.Ax
namespace Go.Ax
open Go Go.RowKit Go.Proofs
/-- Does all go well? By plain data. -/
def goGo (c : Ch) (ms : List Int) (m : Tk) : List Gt → St → List Hr → Bool
  | _, _, [] => true
  | gs, s, h :: r => satF c false (h.more m none 0) gs s && match firstB (hourF c false (h.more m none 0) gs s).ws ms 0 with
    | some _ => false
    | none => goGo c ms m (boardsF h gs) (hourF c false (h.more m none 0) gs s) r
def foM (c : Ch) (hs : List Hr) (m : Tk) (i : Nat) : List Gt × St := (hs.take i).foldl (fun x h => (boardsF h x.1, hourF c false (h.more m none 0) x.1 x.2)) (c.gs, s0 false c)

structure GW where
  b1 : Nat
  b2 : Nat
  b3 : Nat
  b5 : Nat
  b6 : Nat
  r : Nat
def GW.all (x : GW) : List Nat := [x.b1, x.b2, x.b3, x.b5, x.b6, x.r]
structure GQ where
  c : Ch
  la : Option Addr
  ln : Nat
  lcap : Nat
  hs : List Hr
  ma : Option Addr
  mn : Nat
  mcap : Nat
  ms : List Int
  ea : Option Addr
  ecap : Nat
  m : Tk
structure GQ.Off (q : GQ) (w : List Nat) : Prop where
  p : Go.Ax.Off w q.c.pa
  l : Go.Ax.Off w q.la
  m : Go.Ax.Off w q.ma
  e : Go.Ax.Off w q.ea
  h : ∀ h ∈ q.hs, Go.Ax.Off w h.ba ∧ Go.Ax.Off w h.ca ∧ Go.Ax.Off w h.ta
def GQ.go (q : GQ) : Bool := goGo q.c q.ms q.m q.c.gs (s0 false q.c) q.hs
structure GE (q : GQ) (x : GW) (p : Wh) (H : Hp) : Prop where
  hrs : HrsM x.b1 x.b2 q.la q.ln q.lcap q.hs q.ea q.ecap q.m H
  b3 : Rd H x.b3 [pt p.k]
  b5 : Rd H x.b5 [.slice q.ma q.mn q.mcap]
  ms : Sl H q.ma q.mn q.mcap (ints q.ms)
  b6 : ∃ v, Cl H x.b6 [v]
  dfr : x.r < H.next ∧ H.t.get x.r = some (.dfr (some []))
theorem GE.keep {q : GQ} {x : GW} {p : Wh} {H H1 : Hp} {w : List Nat} (h : GE q x p H) (k : Keep H H1 w) (o : q.Off w) (hx : ∀ b ∈ x.all, b ∉ w) : GE q x p H1 := by
  have m : ∀ b, b ∈ x.all → b ∉ w := hx
  refine ⟨⟨k.rd h.hrs.c1 (m _ (by simp [GW.all])), k.rd h.hrs.c2 (m _ (by simp [GW.all])), k.sl h.hrs.l o.l, h.hrs.ln, fun y hy => ?_, k.sl h.hrs.m o.e⟩, k.rd h.b3 (m _ (by simp [GW.all])), k.rd h.b5 (m _ (by simp [GW.all])), k.sl h.ms o.m, ?_, ?_⟩
  · have a := h.hrs.h y hy
    obtain ⟨o1, o2, o3⟩ := o.h y hy
    exact ⟨k.sl a.b o1, k.sl a.c o2, k.sl a.t o3, a.lb, a.lc, a.lt⟩
  · obtain ⟨v, hv⟩ := h.b6; exact ⟨v, k.cl hv (m _ (by simp [GW.all]))⟩
  · exact ⟨Nat.lt_of_lt_of_le h.dfr.1 k.1, by rw [k.2 _ h.dfr.1 (m _ (by simp [GW.all]))]; exact h.dfr.2⟩
theorem offG_nil (q : GQ) : q.Off [] := ⟨fun _ _ => by simp, fun _ _ => by simp, fun _ _ => by simp, fun _ _ => by simp, fun _ _ => ⟨fun _ _ => by simp, fun _ _ => by simp, fun _ _ => by simp⟩⟩

noncomputable abbrev asg63 : Code := at_ Try.f63 [1, 1, 1, 0, 1, 0, 0]
noncomputable abbrev body63 : Code := at_ Try.f63 [1, 1, 1, 0, 1, 0, 1]
abbrev S63 (x : GW) : Rg := [(3, pt x.b3), (5, pt x.b5), (6, pt x.b6)]
structure GJ (lo : Nat) (H : Hp) (q : GQ) (L : Nat) (p : Wh) (x : GW) (l : Nat) (i : Nat) (H' : Hp) : Prop where
  crs : CrsZ q.c false L p H' (foM q.c q.hs q.m i).1 (foM q.c q.hs q.m i).2
  ah : Ahead q.c.ponds (i * perHour) (foM q.c q.hs q.m i).2
  gts : (foM q.c q.hs q.m i).1.all (fun g => gateB g q.c.pn) = true
  go : q.go = goGo q.c q.ms q.m (foM q.c q.hs q.m i).1 (foM q.c q.hs q.m i).2 (q.hs.drop i)
  le : GE q x p H'
  lp : Lp Try.prog H' l .ready none 31 (S63 x) [16, 17] asg63 body63 x.r
  ll : l < H'.next
  lo : lo ≤ H'.next
  kp : Keep H H' p.W
section
variable {kn : FuncId → Option Bool} {lo L l : Nat} {H : Hp} {q : GQ} {p : Wh} {x : GW}
theorem GJ.keep0 {i : Nat} {H1 H2 : Hp} (j : GJ lo H q L p x l i H1) (k : Keep H1 H2 []) : GJ lo H q L p x l i H2 :=
  ⟨j.crs.keep k, j.ah, j.gts, j.go, j.le.keep k (offG_nil q) (fun _ _ => by simp), j.lp.keep k j.ll (by simp), Nat.lt_of_lt_of_le j.ll k.1, Nat.le_trans j.lo k.1, j.kp.trans (k.mono (by simp))⟩
end
end Go.Ax
namespace Go.Ax
open Go Go.RowKit Go.Proofs
end Go.Ax
namespace Go.Ax
open Go Go.RowKit Go.Proofs
end Go.Ax
namespace Go.Ax
open Go Go.RowKit Go.Proofs
structure MQ where
  c : Ch
  la : Option Addr
  ln : Nat
  lcap : Nat
  hs : List Hr
  ma : Option Addr
  mn : Nat
  mcap : Nat
  ms : List Int
  pond : Int
def MQ.g (q : MQ) (a : Nat) : Bool := goGo q.c q.ms ⟨q.pond, a⟩ q.c.gs (s0 false q.c) q.hs
structure MQ.At (q : MQ) (H : Hp) : Prop where
  c : q.c.At H
  l : Sl H q.la q.ln q.lcap (hrc q.hs)
  ln : q.hs.length = q.ln
  h : ∀ h ∈ q.hs, h.At H
  m : Sl H q.ma q.mn q.mcap (ints q.ms)
  ml : q.ms.length = q.mn
theorem MQ.At.keep {q : MQ} {H H1 : Hp} (a : q.At H) (k : Keep H H1 []) : q.At H1 := ⟨a.c.keep k, k.sl0 a.l, a.ln, fun h hm => (a.h h hm).keep k, k.sl0 a.m, a.ml⟩
/-- What Most has seen to before. -/
structure MQ.Vd (q : MQ) : Prop where
  c : q.c.Vd
  ln : q.ln ≤ 200
  hv : ∀ h ∈ q.hs, hourB h q.c.pn q.c.gn = true
  mn : q.mn = q.c.pn
  p : indexB q.pond q.c.pn = true
/-- The arguments of Most, boxed. -/
structure MB (q : MQ) (bc bw bl bm bp : Nat) (H : Hp) : Prop where
  c : Rd H bc [.slice q.c.pa q.c.pn q.c.pcap, .slice q.c.ga q.c.gn q.c.gcap]
  w : Rd H bw [q.c.wv]
  l : Rd H bl [.slice q.la q.ln q.lcap]
  m : Rd H bm [.slice q.ma q.mn q.mcap]
  p : Rd H bp [iv q.pond]
theorem MB.keep {q : MQ} {bc bw bl bm bp : Nat} {H H1 : Hp} (a : MB q bc bw bl bm bp H) (k : Keep H H1 []) : MB q bc bw bl bm bp H1 := ⟨k.rd a.c (by simp), k.rd a.w (by simp), k.rd a.l (by simp), k.rd a.m (by simp), k.rd a.p (by simp)⟩
end Go.Ax
namespace Go.Ax
open Go Go.RowKit Go.Proofs
/-- All goes well with so much, and not with one litre more. -/
def MQ.is (q : MQ) (m : Nat) : Prop := m ≤ 68719476736 ∧ q.g m = true ∧ (m = 68719476736 ∨ q.g (m + 1) = false)
def MQ.args (q : MQ) : Bool := leastB q.c.ponds q.ms q.c.pn q.mn && indexB q.pond q.c.pn
/-- What Most returns. -/
def MQ.res (q : MQ) (n e : Int) : Prop :=
  (checkE q.c q.hs q.ln ≠ 0 ∧ n = 0 ∧ e = checkE q.c q.hs q.ln) ∨ (checkE q.c q.hs q.ln = 0 ∧ q.args = false ∧ n = 0 ∧ e = 2) ∨ (checkE q.c q.hs q.ln = 0 ∧ q.args = true ∧ q.g 0 = false ∧ n = 0 ∧ e = 4) ∨
    (checkE q.c q.hs q.ln = 0 ∧ q.args = true ∧ e = 0 ∧ ∃ m : Nat, n = m ∧ q.is m)
theorem MQ.vd {q : MQ} {H : Hp} (hq : q.At H) (he : checkE q.c q.hs q.ln = 0) (ha : q.args = true) : q.Vd := by
  have hok : q.c.ok = true ∧ q.ln ≤ 200 ∧ ∀ h ∈ q.hs, hourB h q.c.pn q.c.gn = true := by
    unfold checkE at he
    split at he
    · omega
    · rename_i w
      split at he
      · rename_i w2
        simp only [Bool.and_eq_true] at w2
        exact ⟨w2.1, by omega, List.all_eq_true.1 w2.2⟩
      · omega
  obtain ⟨ok1, ok2, ok3⟩ := hok
  simp only [MQ.args, Bool.and_eq_true] at ha
  refine ⟨Ch.vd ok1 hq.c.lp hq.c.lg hq.c.lw, ok2, ok3, ?_, ha.2⟩
  have ht := ha.1
  simp only [leastB, Bool.and_eq_true] at ht
  have := ht.1; simp at this; omega

end Go.Ax

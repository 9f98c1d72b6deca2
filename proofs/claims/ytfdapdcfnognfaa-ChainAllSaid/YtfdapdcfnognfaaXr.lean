import Derived.Test.YtfdapdcfnognfaaAxW4
import Derived.Test.YtfdapdcfnognfaaChecked
import Derived.Test.YtfdapdcfnognfaaXq
set_option linter.all false
namespace Go.Ax
open Go Go.RowKit Go.Proofs
end Go.Ax
namespace Go.Ax
open Go Go.RowKit Go.Proofs
section
variable {kn : FuncId → Option Bool} {lo : Nat} {F H : Hp}
theorem Own.sl {L : Nat} {a : Option Addr} {n cap : Nat} {cs : List Value} (h : Own L H a n cs) (hc : n ≤ cap) (hb : ∃ b, a = some ⟨b, 0, none⟩) : Sl H a n cap cs := by
  obtain ⟨b, rfl⟩ := hb
  rcases h with ⟨e, _⟩ | ⟨b', e, _, hcl⟩
  · cases e
  · cases e; exact .inr ⟨_, rfl, hcl.rd, hc⟩
end
end Go.Ax
namespace Go.Ax
open Go Go.RowKit Go.Proofs
end Go.Ax
namespace Go.Ax
open Go Go.RowKit Go.Proofs
structure Sx where
  b9 : Nat
  wb : Nat
  cap : Nat
def Sx.W (p : Sx) : List Nat := [p.b9, p.wb]
def Sx.cells (p : Sx) (n : Nat) (s : St) (b : Bool) : List Value := [.slice (some ⟨p.wb, 0, none⟩) n p.cap, iv s.came, iv s.seeped, iv s.river, iv s.taken, .bool b]
structure SAt (n lo : Nat) (p : Sx) (H : Hp) (s : St) (b : Bool) : Prop where
  hS : Cl H p.b9 (p.cells n s b)
  hP : Cl H p.wb (ints s.ws)
  lws : s.ws.length = n
  l9 : lo ≤ p.b9
  lP : lo ≤ p.wb
  ne : p.b9 ≠ p.wb
section
variable {n lo : Nat} {p : Sx} {H H1 : Hp} {s : St} {b : Bool}
theorem SAt.keep0 (h : SAt n lo p H s b) (k : Keep H H1 []) : SAt n lo p H1 s b := ⟨k.cl h.hS (by simp), k.cl h.hP (by simp), h.lws, h.l9, h.lP, h.ne⟩
end
structure SE (c : Ch) (ga' : Option Addr) (gcap' : Nat) (gs' : List Gt) (h : Hr) (b4 b6 : Nat) (p : Sx) (F : Hp) : Prop where
  e4 : Rd F b4 [.slice c.pa c.pn c.pcap, .slice ga' c.gn gcap']
  e6 : Rd F b6 h.v
  hp : Sl F c.pa c.pn c.pcap (pdc c.ponds)
  hg : Sl F ga' c.gn gcap' (gtc gs')
  hh : h.At F
  lg : gs'.length = c.gn
  o4 : b4 ∉ p.W
  o6 : b6 ∉ p.W
  op : Off p.W c.pa
  og : Off p.W ga'
  ob : Off p.W h.ba
  oc : Off p.W h.ca
  ot : Off p.W h.ta
theorem SE.keep {c : Ch} {ga' : Option Addr} {gcap' : Nat} {gs' : List Gt} {h : Hr} {b4 b6 : Nat} {p : Sx} {F H : Hp} {w : List Nat} (t : SE c ga' gcap' gs' h b4 b6 p F) (k : Keep F H w) (hw : ∀ b, b ∈ w → b ∈ p.W) : SE c ga' gcap' gs' h b4 b6 p H := by
  have k := k.mono hw
  exact ⟨k.rd t.e4 t.o4, k.rd t.e6 t.o6, k.sl t.hp t.op, k.sl t.hg t.og, ⟨k.sl t.hh.b t.ob, k.sl t.hh.c t.oc, k.sl t.hh.t t.ot, t.hh.lb, t.hh.lc, t.hh.lt⟩, t.lg, t.o4, t.o6, t.op, t.og, t.ob, t.oc, t.ot⟩
end Go.Ax
namespace Go.Ax
open Go Go.RowKit Go.Proofs
end Go.Ax
namespace Go.Ax
open Go Go.RowKit Go.Proofs
end Go.Ax
namespace Go.Ax
open Go Go.RowKit Go.Proofs
/-- As hourB, with room for some more takes. -/
def hourW (h : Hr) (pn gn : Nat) : Bool := !(decide ((h.bn : Int) > 32)) && !((h.cn : Int) != (pn : Int)) && !(decide ((h.tn : Int) > 40)) &&
  (h.bs.all fun b => indexB b.gate gn && boardsB b.boards) && (h.cs.all fun s => withinB s.1 s.2 68719476736) && (h.ts.all fun t => indexB t.pond pn && waterB t.amount)
end Go.Ax

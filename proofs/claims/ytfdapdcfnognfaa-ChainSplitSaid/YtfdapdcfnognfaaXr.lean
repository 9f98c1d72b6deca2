import Derived.Test.YtfdapdcfnognfaaAxW4
import Derived.Test.YtfdapdcfnognfaaChecked
import Derived.Test.YtfdapdcfnognfaaXq
set_option linter.all false
namespace Go.Ax
open Go Go.RowKit Go.Proofs
theorem N16 : Try.f16.ntmps = 39 := by kernel_rfl
theorem Z16 : Try.f16.results.toList = ((List.toArray [(.tmp 6), (.tmp 7), (.cell 8 37), (.tmp 9)]) : Array ResultVar).toList := by kernel_rfl
theorem B16 : Try.f16.body = some (at_ Try.f16 []) := by kernel_rfl
noncomputable def R16 : RC := (.seq (.reg [⟨(some 3), none, (.box 25 (.tmp 0))⟩, ⟨(some 5), none, (.box 30 (.tmp 2))⟩, ⟨(some 6), none, (.mov (.const (.slice none 0 0)))⟩, ⟨(some 7), none, (.mov (.const (.slice none 0 0)))⟩, ⟨(some 8), none, (.alc 37 [(.int .i64 0), (.int .i64 0), (.int .i64 0), (.int .i64 0), (.int .i64 0), (.int .i64 0), (.int .i64 0), (.int .i64 0)])⟩, ⟨(some 9), none, (.mov (.const (.int .i64 0)))⟩])
  (.seq (.reg [⟨(some 14), none, (.lda (.tmp 5) 3)⟩, ⟨(some 15), none, (.mem ⟨(some 15), (.buildSlice 47 1 (List.toArray [(0, (.tmp 14))])), 47, "", (List.toArray []), none⟩)⟩, ⟨(some 10), none, (.mov (.tmp 15))⟩])
  (.seq (.seq (.reg [⟨(some 16), none, (.lda (.tmp 3) 2)⟩, ⟨(some 17), none, (.mov (.tmp 1))⟩, ⟨(some 18), none, (.mov (.tmp 10))⟩, ⟨(some 19), none, (.call ⟨(.value (.func 44)), (List.toArray [(.tmp 16), (.tmp 17), (.tmp 18)]), (List.toArray [25, 26, 47])⟩ true)⟩, ⟨(some 11), none, (.mov (.tmp 19))⟩])
  (.seq (.reg [⟨(some 20), none, (.mov (.tmp 11))⟩, ⟨(some 21), none, (.cmp .neq (.tmp 20) (.const (.int .i64 0)))⟩])
  (.cond (.tmp 21) (.seq (.reg [⟨(some 22), none, (.pur ⟨(some 22), (.build 37 (List.toArray [])), 37, "", (List.toArray []), none⟩)⟩, ⟨(some 23), none, (.mov (.tmp 11))⟩, ⟨(some 6), none, (.mov (.const (.slice none 0 0)))⟩, ⟨(some 7), none, (.mov (.const (.slice none 0 0)))⟩, ⟨none, none, (.sta (.tmp 8) (.tmp 22) 8)⟩, ⟨(some 9), none, (.mov (.tmp 23))⟩])
  .ret)
  .skip)))
  (.seq (.reg [⟨(some 25), none, (.lda (.tmp 3) 2)⟩, ⟨(some 26), none, (.mov (.tmp 1))⟩, ⟨(some 27), none, (.mov (.tmp 10))⟩, ⟨(some 28), none, (.call ⟨(.value (.func 45)), (List.toArray [(.tmp 25), (.tmp 26), (.tmp 27)]), (List.toArray [25, 26, 47])⟩ true)⟩, ⟨(some 24), none, (.mov (.tmp 28))⟩, ⟨(some 29), none, (.pur ⟨(some 29), (.extract (.tmp 24) 0), 90, "", (List.toArray []), none⟩)⟩, ⟨(some 30), none, (.pur ⟨(some 30), (.extract (.tmp 24) 1), 90, "", (List.toArray []), none⟩)⟩, ⟨(some 12), none, (.mov (.tmp 29))⟩, ⟨(some 13), none, (.mov (.tmp 30))⟩])
  (.seq (.reg [⟨(some 31), none, (.mov (.tmp 12))⟩, ⟨(some 32), none, (.mov (.tmp 13))⟩, ⟨(some 33), none, (.call ⟨(.value (.func 46)), (List.toArray [(.tmp 31), (.tmp 32)]), (List.toArray [90, 90])⟩ true)⟩, ⟨(some 34), none, (.mov (.tmp 12))⟩, ⟨(some 35), none, (.call ⟨(.value (.func 47)), (List.toArray [(.tmp 34)]), (List.toArray [90])⟩ true)⟩, ⟨(some 36), none, (.mov (.tmp 12))⟩, ⟨(some 37), none, (.mov (.tmp 13))⟩, ⟨(some 38), none, (.call ⟨(.value (.func 48)), (List.toArray [(.tmp 36), (.tmp 37)]), (List.toArray [90, 90])⟩ true)⟩, ⟨(some 6), none, (.mov (.tmp 33))⟩, ⟨(some 7), none, (.mov (.tmp 35))⟩, ⟨none, none, (.sta (.tmp 8) (.tmp 38) 8)⟩, ⟨(some 9), none, (.mov (.const (.int .i64 0)))⟩])
  .ret)))))
theorem L16 : low Try.prog Try.f16.ntmps (at_ Try.f16 []) = some R16 := by kernel_rfl
theorem N22 : Try.f22.ntmps = 26 := by kernel_rfl
theorem Z22 : Try.f22.results.toList = ((List.toArray [(.tmp 4)]) : Array ResultVar).toList := by kernel_rfl
theorem B22 : Try.f22.body = some (at_ Try.f22 []) := by kernel_rfl
noncomputable def R22 : RC := (.seq (.reg [⟨(some 4), none, (.mov (.const (.bool false)))⟩])
  (.seq (.seq (.reg [⟨(some 6), none, (.mov (.tmp 0))⟩, ⟨(some 7), none, (.len (.tmp 6))⟩, ⟨(some 8), none, (.mov (.tmp 1))⟩, ⟨(some 9), none, (.len (.tmp 8))⟩, ⟨(some 10), none, (.cmp .neq (.tmp 7) (.tmp 9))⟩])
  (.cond (.tmp 10) (.seq (.reg [⟨(some 4), none, (.mov (.const (.bool false)))⟩])
  .ret)
  .skip))
  (.seq (.seq (.reg [⟨(some 5), none, (.mov (.const (.int .i64 0)))⟩])
  (.block 0 (.other (at_ Try.f22 [1, 1, 0, 1, 0]))))
  (.seq (.reg [⟨(some 4), none, (.mov (.const (.bool true)))⟩])
  .ret))))
theorem L22 : low Try.prog Try.f22.ntmps (at_ Try.f22 []) = some R22 := by kernel_rfl
theorem E22_1 : at_ Try.f22 [1, 1, 0, 1, 0] = .loop (at_ Try.f22 [1, 1, 0, 1, 0, 0]) := by kernel_rfl
noncomputable def R22x1 : RC := (.seq (.seq (.reg [⟨(some 11), none, (.mov (.tmp 5))⟩, ⟨(some 12), none, (.mov (.tmp 0))⟩, ⟨(some 13), none, (.len (.tmp 12))⟩, ⟨(some 14), none, (.cmp .lss (.tmp 11) (.tmp 13))⟩])
  (.cond (.tmp 14) .skip
  (.exit 0)))
  (.seq (.block 1 (.seq (.dreg [⟨(some 17), none, (.mov (.tmp 0))⟩, ⟨(some 18), none, (.mov (.tmp 5))⟩, ⟨(some 19), none, (.idx (.tmp 17) (.tmp 18) 2)⟩, ⟨(some 20), none, (.lda (.tmp 19) 2)⟩, ⟨(some 21), none, (.mov (.tmp 1))⟩, ⟨(some 22), none, (.mov (.tmp 5))⟩, ⟨(some 23), none, (.idx (.tmp 21) (.tmp 22) 2)⟩, ⟨(some 24), none, (.lda (.tmp 23) 2)⟩, ⟨(some 25), none, (.pur ⟨(some 25), (.binOp .neq 35 (.tmp 20) (.tmp 24) 35), 4, "", (List.toArray []), none⟩)⟩] [255, 112, 48, 0, 0, 7, 3, 0, 0])
  (.cond (.tmp 25) (.seq (.reg [⟨(some 4), none, (.mov (.const (.bool false)))⟩])
  .ret)
  .skip)))
  (.reg [⟨(some 15), none, (.mov (.tmp 5))⟩, ⟨(some 16), none, (.ari .add (.tmp 15) (.const (.int .i64 1)))⟩, ⟨(some 5), none, (.mov (.tmp 16))⟩])))
theorem L22x1 : low Try.prog Try.f22.ntmps (at_ Try.f22 [1, 1, 0, 1, 0, 0]) = some R22x1 := by kernel_rfl
theorem N47 : Try.f47.ntmps = 29 := by kernel_rfl
theorem Z47 : Try.f47.results.toList = ((List.toArray [(.tmp 2)]) : Array ResultVar).toList := by kernel_rfl
theorem B47 : Try.f47.body = some (at_ Try.f47 []) := by kernel_rfl
noncomputable def R47 : RC := (.seq (.reg [⟨(some 2), none, (.mov (.const (.slice none 0 0)))⟩])
  (.seq (.reg [⟨(some 6), none, (.mov (.tmp 0))⟩, ⟨(some 7), none, (.nilc (.tmp 6))⟩, ⟨(some 8), none, (.addo (.tmp 7) 2)⟩, ⟨(some 9), none, (.ld (.tmp 8) 1)⟩, ⟨(some 10), none, (.len (.tmp 9))⟩, ⟨(some 11), none, (.mem ⟨(some 11), (.makeSlice 33 (.tmp 10) (.tmp 10)), 33, "", (List.toArray []), none⟩)⟩, ⟨(some 3), none, (.mov (.tmp 11))⟩])
  (.seq (.seq (.reg [⟨(some 12), none, (.mov (.tmp 0))⟩, ⟨(some 13), none, (.nilc (.tmp 12))⟩, ⟨(some 14), none, (.addo (.tmp 13) 2)⟩, ⟨(some 15), none, (.ld (.tmp 14) 1)⟩, ⟨(some 16), none, (.len (.tmp 15))⟩, ⟨(some 17), none, (.mov (.const (.int .i64 0)))⟩])
  (.block 0 (.other (at_ Try.f47 [1, 1, 0, 1, 0]))))
  (.seq (.reg [⟨(some 28), none, (.mov (.tmp 3))⟩, ⟨(some 2), none, (.mov (.tmp 28))⟩])
  .ret))))
theorem L47 : low Try.prog Try.f47.ntmps (at_ Try.f47 []) = some R47 := by kernel_rfl
theorem E47_1 : at_ Try.f47 [1, 1, 0, 1, 0] = .loop (at_ Try.f47 [1, 1, 0, 1, 0, 0]) := by kernel_rfl
noncomputable def R47x1 : RC := (.seq (.reg [⟨(some 18), none, (.cmp .lss (.tmp 17) (.tmp 16))⟩])
  (.seq (.cond (.tmp 18) .skip
  (.exit 0))
  (.seq (.block 1 (.seq (.reg [⟨(some 19), none, (.mov (.tmp 17))⟩, ⟨(some 20), none, (.idx (.tmp 15) (.tmp 17) 6)⟩, ⟨(some 21), none, (.lda (.tmp 20) 6)⟩, ⟨(some 5), none, (.alc 81 [(.int .i64 0), (.int .i64 0), (.int .i64 0), (.int .i64 0), (.int .i64 0), (.int .i64 0)])⟩, ⟨(some 4), none, (.mov (.tmp 19))⟩, ⟨none, none, (.sta (.tmp 5) (.tmp 21) 6)⟩])
  (.reg [⟨(some 22), none, (.mov (.tmp 3))⟩, ⟨(some 23), none, (.mov (.tmp 4))⟩, ⟨(some 24), none, (.addo (.tmp 5) 4)⟩, ⟨(some 25), none, (.ld (.tmp 24) 1)⟩, ⟨(some 26), none, (.idx (.tmp 22) (.tmp 23) 1)⟩, ⟨none, none, (.st (.tmp 26) (.tmp 25))⟩])))
  (.reg [⟨(some 27), none, (.ari .add (.tmp 17) (.const (.int .i64 1)))⟩, ⟨(some 17), none, (.mov (.tmp 27))⟩]))))
theorem L47x1 : low Try.prog Try.f47.ntmps (at_ Try.f47 [1, 1, 0, 1, 0, 0]) = some R47x1 := by kernel_rfl
theorem N9 : Try.f9.ntmps = 182 := by kernel_rfl
theorem Z9 : Try.f9.results.toList = ((List.toArray [(.tmp 8)]) : Array ResultVar).toList := by kernel_rfl
theorem B9 : Try.f9.body = some (at_ Try.f9 []) := by kernel_rfl
theorem E9_1 : at_ Try.f9 [1, 1, 1, 1, 1, 1, 1, 1, 0, 1, 0] = .loop (at_ Try.f9 [1, 1, 1, 1, 1, 1, 1, 1, 0, 1, 0, 0]) := by kernel_rfl
theorem E9_2 : at_ Try.f9 [1, 1, 1, 1, 1, 1, 1, 1, 0, 1, 0, 0, 1, 1, 0, 0, 1, 1, 1, 1, 1, 0, 1, 0] = .loop (at_ Try.f9 [1, 1, 1, 1, 1, 1, 1, 1, 0, 1, 0, 0, 1, 1, 0, 0, 1, 1, 1, 1, 1, 0, 1, 0, 0]) := by kernel_rfl
noncomputable def R9x2 : RC := (.seq (.reg [⟨(some 138), none, (.cmp .lss (.tmp 137) (.tmp 136))⟩])
  (.seq (.cond (.tmp 138) .skip
  (.exit 2))
  (.seq (.block 3 (.seq (.reg [⟨(some 139), none, (.mov (.tmp 137))⟩, ⟨(some 140), none, (.idx (.tmp 135) (.tmp 137) 1)⟩, ⟨(some 141), none, (.ld (.tmp 140) 1)⟩, ⟨(some 27), none, (.mov (.tmp 139))⟩, ⟨(some 28), none, (.mov (.tmp 141))⟩])
  (.reg [⟨(some 142), none, (.addo (.tmp 14) 1)⟩, ⟨(some 143), none, (.ld (.tmp 142) 1)⟩, ⟨(some 144), none, (.mov (.tmp 27))⟩, ⟨(some 145), none, (.mov (.tmp 28))⟩, ⟨(some 146), none, (.idx (.tmp 143) (.tmp 144) 6)⟩, ⟨(some 147), none, (.addo (.tmp 146) 4)⟩, ⟨none, none, (.st (.tmp 147) (.tmp 145))⟩])))
  (.reg [⟨(some 148), none, (.ari .add (.tmp 137) (.const (.int .i64 1)))⟩, ⟨(some 137), none, (.mov (.tmp 148))⟩]))))
theorem L9x2 : low Try.prog Try.f9.ntmps (at_ Try.f9 [1, 1, 1, 1, 1, 1, 1, 1, 0, 1, 0, 0, 1, 1, 0, 0, 1, 1, 1, 1, 1, 0, 1, 0, 0]) = some R9x2 := by kernel_rfl
theorem N39 : Try.f39.ntmps = 24 := by kernel_rfl
theorem Z39 : Try.f39.results.toList = ((List.toArray []) : Array ResultVar).toList := by kernel_rfl
theorem B39 : Try.f39.body = some (at_ Try.f39 []) := by kernel_rfl
end Go.Ax
namespace Go.Ax
open Go Go.RowKit Go.Proofs
section
variable {kn : FuncId → Option Bool} {lo : Nat} {F H : Hp}
/-- The gates, copied: what kind of step it is. -/
theorem heap_append_own2 {a : Option Addr} {n cap b0 L : Nat} {gs : List Gt} (h0 : H.t.get b0 = some (.cells [] 81 false)) (hL : L ≤ b0) (hb0 : b0 < H.next) (hs : Sl H a n cap (gtc gs)) (hn : gs.length = n) (hb : n ≤ 1000) :
    ∃ a' cap' H' k, (∀ (m : Nat) (S : Rg) (d : Option Tmp) (x y : Operand) (ty : TypeId) (p : String), evS S x = some (.slice (some ⟨b0, 0, none⟩) 0 0) → evS S y = some (.slice a n cap) → heapOp Try.prog lo (frS m S) H ⟨d, .call ⟨.builtin .append, #[x, y], #[23, 23]⟩, ty, p, #[], none⟩ = some (.val (.slice a' n cap') H', k)) ∧
      (k = .pure ∨ k = .heavy) ∧ Keep H H' [] ∧ Own L H' a' n (gtc gs) ∧ (∀ b, a' = some ⟨b, 0, none⟩ → b < H'.next) ∧ n ≤ cap' ∧ ∃ b, a' = some ⟨b, 0, none⟩ := by
  rcases Nat.eq_zero_or_pos n with h | h
  · subst h
    have hg : gs = [] := List.eq_nil_of_length_eq_zero hn
    subst hg
    exact ⟨_, _, H, .pure, fun m S d x y ty p hx hy => heap_append_none se23 u23 hx hy hs rfl, .inl rfl, Keep.refl _ _, .inr ⟨b0, rfl, hL, hb0, _, _, h0⟩, (fun b e => by cases e; exact hb0), Nat.le_refl _, b0, rfl⟩
  · exact ⟨_, _, _, .heavy, fun m S d x y ty p hx hy => heap_append_empty se23 u23 h0 hx hy hs (by rw [gtc_len, hn]) (by omega) h, .inr rfl, (new_facts rfl).1, .inr ⟨H.next, rfl, by omega, (new_facts rfl).2.2⟩, (fun b e => by cases e; exact Nat.lt_succ_self _), Nat.le_refl _, H.next, rfl⟩
theorem Own.sl {L : Nat} {a : Option Addr} {n cap : Nat} {cs : List Value} (h : Own L H a n cs) (hc : n ≤ cap) (hb : ∃ b, a = some ⟨b, 0, none⟩) : Sl H a n cap cs := by
  obtain ⟨b, rfl⟩ := hb
  rcases h with ⟨e, _⟩ | ⟨b', e, _, hcl⟩
  · cases e
  · cases e; exact .inr ⟨_, rfl, hcl.rd, hc⟩
end
end Go.Ax
namespace Go.Ax
open Go Go.RowKit Go.Proofs
end Go.Ax
namespace Go.Ax
open Go Go.RowKit Go.Proofs
structure Sx where
  b9 : Nat
  wb : Nat
  cap : Nat
def Sx.W (p : Sx) : List Nat := [p.b9, p.wb]
def Sx.cells (p : Sx) (n : Nat) (s : St) (b : Bool) : List Value := [.slice (some ⟨p.wb, 0, none⟩) n p.cap, iv s.came, iv s.seeped, iv s.river, iv s.taken, .bool b]
structure SAt (n lo : Nat) (p : Sx) (H : Hp) (s : St) (b : Bool) : Prop where
  hS : Cl H p.b9 (p.cells n s b)
  hP : Cl H p.wb (ints s.ws)
  lws : s.ws.length = n
  l9 : lo ≤ p.b9
  lP : lo ≤ p.wb
  ne : p.b9 ≠ p.wb
section
variable {n lo : Nat} {p : Sx} {H H1 : Hp} {s : St} {b : Bool}
theorem SAt.keep0 (h : SAt n lo p H s b) (k : Keep H H1 []) : SAt n lo p H1 s b := ⟨k.cl h.hS (by simp), k.cl h.hP (by simp), h.lws, h.l9, h.lP, h.ne⟩
end
structure SE (c : Ch) (ga' : Option Addr) (gcap' : Nat) (gs' : List Gt) (h : Hr) (b4 b6 : Nat) (p : Sx) (F : Hp) : Prop where
  e4 : Rd F b4 [.slice c.pa c.pn c.pcap, .slice ga' c.gn gcap']
  e6 : Rd F b6 h.v
  hp : Sl F c.pa c.pn c.pcap (pdc c.ponds)
  hg : Sl F ga' c.gn gcap' (gtc gs')
  hh : h.At F
  lg : gs'.length = c.gn
  o4 : b4 ∉ p.W
  o6 : b6 ∉ p.W
  op : Off p.W c.pa
  og : Off p.W ga'
  ob : Off p.W h.ba
  oc : Off p.W h.ca
  ot : Off p.W h.ta
theorem SE.keep {c : Ch} {ga' : Option Addr} {gcap' : Nat} {gs' : List Gt} {h : Hr} {b4 b6 : Nat} {p : Sx} {F H : Hp} {w : List Nat} (t : SE c ga' gcap' gs' h b4 b6 p F) (k : Keep F H w) (hw : ∀ b, b ∈ w → b ∈ p.W) : SE c ga' gcap' gs' h b4 b6 p H := by
  have k := k.mono hw
  exact ⟨k.rd t.e4 t.o4, k.rd t.e6 t.o6, k.sl t.hp t.op, k.sl t.hg t.og, ⟨k.sl t.hh.b t.ob, k.sl t.hh.c t.oc, k.sl t.hh.t t.ot, t.hh.lb, t.hh.lc, t.hh.lt⟩, t.lg, t.o4, t.o6, t.op, t.og, t.ob, t.oc, t.ot⟩
end Go.Ax
namespace Go.Ax
open Go Go.RowKit Go.Proofs
section
variable {P : Program} {kn : FuncId → Option Bool} {lo n : Nat} {rd : Bool} {masks : List Nat} {r : List RO} {ks : List Kd} {S : Rg} {H : Hp} {K : Rg → Hp → Prop} {d : Option Nat} {x y : Operand}
theorem wD_st {b o : Nat} {cs : List Value} {v : Value} (hx : evS S x = some (.pointer (some ⟨b, o, none⟩))) (hy : evS S y = some v) (hc : Cl H b cs) (hl : lo ≤ b) (hv : v.cells.toList = [v]) (h1 : one v = true) (ho : o < cs.length)
    (h : ∀ H1, Keep H H1 [b] → H1.next = H.next → Cl H1 b (cs.set o v) → wDraw P kn lo n masks r (.store b :: ks) (putS S d undef) H1 K) : wDraw P kn lo n masks (⟨d, none, .st x y⟩ :: r) ks S H K := by
  simp only [wDraw, wRO, wRI, hx, hy]
  obtain ⟨_, e, l, g⟩ := id hc
  exact ⟨cs, e, l, g, hl, hv, h1, ho, fun H1 hH1 => by obtain ⟨a, b, c⟩ := up_facts hc hH1; exact h H1 a b c⟩
theorem wD_dreg {ops : List RO} {K : Exit → Rg → Hp → Prop} (h : wDraw P kn lo n masks ops [] S H fun S' H' => K .normal S' H') : wC P kn lo n rd (.dreg ops masks) S H K := h
end
end Go.Ax
namespace Go.Ax
open Go Go.RowKit Go.Proofs
end Go.Ax
namespace Go.Ax
open Go Go.RowKit Go.Proofs
end Go.Ax

import Derived.Test.YtfdapdcfnognfaaXr
set_option linter.all false
namespace Go.Ax
open Go Go.RowKit Go.Proofs
end Go.Ax
namespace Go.Ax
open Go Go.RowKit Go.Proofs
end Go.Ax
namespace Go.Ax
open Go Go.RowKit Go.Proofs
end Go.Ax
namespace Go.Ax
open Go Go.RowKit Go.Proofs
def Ch.okH (c : Ch) (h : Hr) : Bool := c.ok && hourB h c.pn c.gn
/-- the boards of gates -/
def bdsOf (gs : List Gt) : List Int := gs.map (·.boards)
section
variable {kn : FuncId → Option Bool} {lo : Nat} {F H : Hp} {c : Ch} {h : Hr}
theorem res_pass2 {S : Rg} {H : Hp} {v1 v2 v3 : Value} {y : Nat} {ds : List Value} (h6 : lk S 6 = some v1) (h7 : lk S 7 = some v2) (h8 : lk S 8 = some (pt y)) (h9 : lk S 9 = some v3) (hd : ds.length = 8) (q : Rd H y ds) :
    resS Try.prog S H [.tmp 6, .tmp 7, .cell 8 37, .tmp 9] = some [v1, v2, .agg ds.toArray, v3] := by
  obtain ⟨j, hj, ht⟩ := i37
  have e2 := load_all ag37 hj (cs := ds) (by omega) q
  simp only [resS, h6, h7, h8, h9, e2]
end
end Go.Ax
namespace Go.Ax
open Go Go.RowKit Go.Proofs
theorem check_okH (c : Ch) (h : Hr) : checkE c [h] 1 = if c.okH h = true then 0 else 1 := by
  unfold checkE Ch.okH
  rw [if_neg (by decide)]
  simp only [List.all_cons, List.all_nil, Bool.and_true]
section
variable {kn : FuncId → Option Bool} {lo : Nat} {H : Hp} {c : Ch} {h : Hr}
theorem boards_out {g : Bool} {L : Nat} {p : Wh} {gs : List Gt} {s : St} (hc : Crs c g L p H gs s) (hgb : c.gn ≤ 500) (hlo : lo ≤ H.next) :
    ∃ bb H', FnX Try.prog kn lo 47 [pt p.k] H (slv bb c.gn c.gn) H' ∧ Keep H H' [] ∧ H.next ≤ bb ∧ Cl H' bb (ints (bdsOf gs)) := by
  have key := fnX_low (kn := kn) (lo := lo) (H := H) (args := [pt p.k]) (Q := fun v H' => ∃ bb, v = slv bb c.gn c.gn ∧ Keep H H' [] ∧ H.next ≤ bb ∧ Cl H' bb (ints (bdsOf gs))) Try.func47 B47 N47 Z47 L47 (by simp) ?_
  · obtain ⟨v, H', q, bb, rfl, r⟩ := key; exact ⟨bb, H', q, r⟩
  have hlg := hc.lg
  have hk := hc.hc
  obtain ⟨i0, hi0, hby⟩ := i3
  refine Exists.intro _ (Exists.intro _ (And.intro hk.of (And.intro (show _ = some (.slice p.ga c.gn p.gcap) from rfl) ?_)))
  obtain ⟨H1, hH1⟩ : ∃ H1, H.new (.cells (ints (List.replicate c.gn 0)) 3 false) = H1 := ⟨_, rfl⟩
  refine And.intro rfl (Or.inr (And.intro rfl (Exists.intro _ (Exists.intro H1 (Exists.intro _ (And.intro ((heap_makeInts (m := c.gn) se33 z3 hi0 hby rfl rfl (by omega)).trans (by rw [hH1])) (And.intro (fun b e => by cases e) ?_)))))))
  obtain ⟨k1, n1, c1⟩ := new_facts hH1
  clear hH1
  have m1 := k1.1
  have hk1 := k1.cl hk (by simp)
  refine Exists.intro _ (Exists.intro _ (And.intro hk1.of (And.intro (show _ = some (.slice p.ga c.gn p.gcap) from rfl) ?_)))
  refine loop_low (fn := Try.f47) E47_1 N47 L47x1 (fun i : Nat => [(15, .slice p.ga c.gn p.gcap), (16, iv (c.gn : Int)), (17, iv (i : Int)), (3, slv H.next c.gn c.gn), (0, pt p.k)])
    (fun k i H' => i + k = c.gn ∧ Keep H H' [] ∧ Cl H' H.next (ints ((gs.take i).map (fun g => g.boards) ++ List.replicate (gs.length - i) 0))) c.gn 0 ⟨by omega, k1, by simpa [hlg] using c1⟩ ⟨rfl, rfl, rfl, rfl, rfl, trivial⟩ ?_
  rintro k i H' ⟨hik, hk', hcl⟩
  refine And.intro (fun hlt => ?_) (fun hge => ?_)
  · have hi : i < c.gn := by simpa using hlt
    have hg := hc.hg.keep hk' (fun b e => by simp)
    rcases hg with ⟨_, h0, _⟩ | ⟨gb, ega, _, hgc⟩
    · omega
    obtain ⟨x, hx⟩ := get_some (l := gs) (i := i) (by omega)
    rw [ega]
    refine Exists.intro i (And.intro rfl (And.intro hi ?_))
    refine Exists.intro _ (Exists.intro _ (And.intro hgc.rd.of (And.intro (row_flat (f := Gt.v) (fun _ _ => rfl) hx) ?_)))
    intro H2 hH2; obtain ⟨k2, n2, c2⟩ := new_facts hH2; clear hH2
    obtain ⟨_, e2, l2, g2⟩ := id c2
    have hkn := hk'.1
    refine Exists.intro _ (Exists.intro _ (Exists.intro _ (And.intro g2 (And.intro (by omega) (And.intro rfl (And.intro rfl (And.intro (by simp) ?_)))))))
    intro H3 hH3; obtain ⟨k3, n3, c3⟩ := up_facts c2 hH3; clear hH3
    have c3 : Cl H3 H'.next [iv x.fr, iv x.to, iv x.sill, iv x.step, iv x.boards, iv x.most] := c3
    refine Exists.intro _ (Exists.intro _ (And.intro c3.of (And.intro rfl ?_)))
    refine Exists.intro i (And.intro rfl (And.intro hi ?_))
    have hlt2 := hcl.lt
    have hc4 := k3.cl (k2.cl hcl (by simp)) (by simp; omega)
    obtain ⟨_, e4, l4, g4⟩ := id hc4
    refine Exists.intro _ (Exists.intro _ (Exists.intro _ (And.intro g4 (And.intro (by omega) (And.intro rfl (And.intro rfl (And.intro (by rw [ints_len]; simp; omega) ?_)))))))
    intro H5 hH5
    rw [Nat.zero_add, Nat.mul_one, ints_set, fill_set (g := fun g : Gt => g.boards) hx] at hH5
    obtain ⟨k5, n5, c5⟩ := up_facts hc4 hH5
    refine And.intro ⟨by omega, by omega⟩ ?_
    refine ⟨k - 1, i + 1, by omega, ⟨by omega, ?_, c5⟩, rfl, rfl, rfl, rfl, rfl, trivial⟩
    exact ((hk'.trans k2).new k3 (by simp; omega)).new k5 (by simp)
  · have hi : ¬ i < c.gn := by simpa using hge
    have e1 : gs.take i = gs := List.take_of_length_le (by omega)
    have e2 : gs.length - i = 0 := by omega
    rw [e1, e2] at hcl
    exact And.intro trivial (Exists.intro _ (And.intro rfl ⟨H.next, rfl, hk', Nat.le_refl _, by simpa [bdsOf] using hcl⟩))
end
end Go.Ax
namespace Go.Ax
open Go Go.RowKit Go.Proofs
end Go.Ax
namespace Go.Ax
open Go Go.RowKit Go.Proofs
theorem prun_bind {α β : Type} {P : Program} (m : Sem α) (f : α → Sem β) : prun P (m >>= f) = (prun P m).bind (fun a => prun P (f a)) := by
  show prun P (m.bind f) = _
  induction m with
  | pure a => rfl
  | program k ih => exact ih P
  | _ => rfl
theorem prun_pure {α : Type} {P : Program} (a : α) : prun P (pure a : Sem α) = some a := rfl
theorem prun_ite {α : Type} {P : Program} {c : Prop} [Decidable c] (a b : Sem α) : prun P (if c then a else b) = if c then prun P a else prun P b := by split <;> rfl
theorem same_struct {P : Program} {d : Nat} {t : TypeId} {xs : Array Value} {fs : Array Field} (hu : prun P (underlying t) = some (.struct fs)) (hp : P.stoodInHeld t = false)
    (hf : ∀ f ∈ fs.toList, ∃ v, prun P (part f.type xs f.offset) = some v ∧ prun P (Op.equalIn d f.type v v) = some true) :
    prun P (Op.equalIn (d + 1) t (.agg xs) (.agg xs)) = some true := by
  simp only [Op.equalIn, prun_bind, hu, Option.bind_some, show prun P program = some P from rfl, hp, Bool.false_eq_true, if_false]
  rw [← Array.forIn_toList]
  generalize fs.toList = l at hf
  induction l with
  | nil => rfl
  | cons f l ih =>
    obtain ⟨v, h1, h2⟩ := hf f (by simp)
    have ih := ih (fun g hg => hf g (by simp [hg]))
    simp only [List.forIn_cons, prun_bind, prun_ite]
    split
    · simp only [h1, h2, Option.bind_some, Bool.not_true, Bool.false_eq_true, if_false, prun_pure]
      exact ih
    · simp only [prun_pure, Option.bind_some]
      exact ih
theorem same_int {d : Nat} {x : Int} : prun Try.prog (Op.equalIn (d + 1) 3 (iv x) (iv x)) = some true := by
  have h : prun Try.prog (Op.equalIn (d + 1) 3 (iv x) (iv x)) = some (x == x) := by kernel_rfl
  rw [h]; simp
def fldsIn (P : Program) (t : TypeId) : Array Field :=
  match P.underlying t with
  | some (.struct fs) => fs
  | _ => #[]
theorem un35 : prun Try.prog (underlying 35) = some (.struct (fldsIn Try.prog 35)) := by kernel_rfl
theorem un37 : prun Try.prog (underlying 37) = some (.struct (fldsIn Try.prog 37)) := by kernel_rfl
theorem fs35 : (fldsIn Try.prog 35).toList.map (fun f => (f.type, f.offset)) = [(3, 0), (3, 1)] := by kernel_rfl
theorem fs37 : (fldsIn Try.prog 37).toList.map (fun f => (f.type, f.offset)) = [(35, 0), (35, 2), (35, 4), (35, 6)] := by kernel_rfl
theorem st35 : Program.stoodInHeld Try.prog 35 = false := by kernel_rfl
theorem st37 : Program.stoodInHeld Try.prog 37 = false := by kernel_rfl
theorem same_span {d : Nat} {a b : Int} : prun Try.prog (Op.equalIn (d + 2) 35 (sp a b) (sp a b)) = some true := by
  refine same_struct (xs := #[iv a, iv b]) un35 st35 ?_
  intro f hf
  have h : (f.type, f.offset) ∈ [(3, 0), (3, 1)] := by rw [← fs35]; exact List.mem_map.mpr ⟨f, hf, rfl⟩
  simp only [List.mem_cons, List.not_mem_nil, or_false, Prod.mk.injEq] at h
  rcases h with ⟨h1, h2⟩ | ⟨h1, h2⟩ <;> rw [h1, h2]
  · exact ⟨iv a, by kernel_rfl, same_int⟩
  · exact ⟨iv b, by kernel_rfl, same_int⟩
theorem same_flows {d : Nat} {x1 x2 x3 x4 x5 x6 x7 x8 : Int} : prun Try.prog (Op.equalIn (d + 3) 37 (.agg #[iv x1, iv x2, iv x3, iv x4, iv x5, iv x6, iv x7, iv x8]) (.agg #[iv x1, iv x2, iv x3, iv x4, iv x5, iv x6, iv x7, iv x8])) = some true := by
  refine same_struct un37 st37 ?_
  intro f hf
  have h : (f.type, f.offset) ∈ [(35, 0), (35, 2), (35, 4), (35, 6)] := by rw [← fs37]; exact List.mem_map.mpr ⟨f, hf, rfl⟩
  simp only [List.mem_cons, List.not_mem_nil, or_false, Prod.mk.injEq] at h
  rcases h with ⟨h1, h2⟩ | ⟨h1, h2⟩ | ⟨h1, h2⟩ | ⟨h1, h2⟩ <;> rw [h1, h2]
  · exact ⟨sp x1 x2, by kernel_rfl, same_span⟩
  · exact ⟨sp x3 x4, by kernel_rfl, same_span⟩
  · exact ⟨sp x5 x6, by kernel_rfl, same_span⟩
  · exact ⟨sp x7 x8, by kernel_rfl, same_span⟩
theorem eg35 {x y : Operand} {u v : Array Value} : prun Try.prog (eqGuard .neq 35 x y (.agg u) (.agg v)) = some () := by kernel_rfl
theorem eg37 {x y : Operand} {u v : Array Value} : prun Try.prog (eqGuard .eql 37 x y (.agg u) (.agg v)) = some () := by kernel_rfl
theorem neq_span {x y : Operand} {a b : Int} : prun Try.prog (do eqGuard .neq 35 x y (sp a b) (sp a b); binOp .neq 35 (sp a b) (sp a b)) = some (.bool false) := by
  rw [prun_bind, show prun Try.prog (eqGuard .neq 35 x y (sp a b) (sp a b)) = some () from eg35, Option.bind_some]
  show prun Try.prog (do pure (Value.bool (!(← Op.equalIn (9998 + 2) 35 (sp a b) (sp a b))))) = _
  rw [prun_bind, same_span]; rfl
theorem eql_flows {x y : Operand} {x1 x2 x3 x4 x5 x6 x7 x8 : Int} : prun Try.prog (do eqGuard .eql 37 x y (.agg #[iv x1, iv x2, iv x3, iv x4, iv x5, iv x6, iv x7, iv x8]) (.agg #[iv x1, iv x2, iv x3, iv x4, iv x5, iv x6, iv x7, iv x8]); binOp .eql 37 (.agg #[iv x1, iv x2, iv x3, iv x4, iv x5, iv x6, iv x7, iv x8]) (.agg #[iv x1, iv x2, iv x3, iv x4, iv x5, iv x6, iv x7, iv x8])) = some (.bool true) := by
  rw [prun_bind, eg37, Option.bind_some]
  show prun Try.prog (do pure (Value.bool (← Op.equalIn (9997 + 3) 37 (.agg #[iv x1, iv x2, iv x3, iv x4, iv x5, iv x6, iv x7, iv x8]) (.agg #[iv x1, iv x2, iv x3, iv x4, iv x5, iv x6, iv x7, iv x8])))) = _
  rw [prun_bind, same_flows]; rfl
end Go.Ax
namespace Go.Ax
open Go Go.RowKit Go.Proofs
theorem pur_neq35 {A : Fr} {o : Oper} {x y : Operand} {rt : TypeId} {a b : Int} (ho : o.op = .binOp .neq 35 x y rt) (hx : ev A x = some (sp a b)) (hy : ev A y = some (sp a b)) : pureOp Try.prog A o = some (.bool false) := by
  unfold pureOp
  simp only [ho, hx, hy]
  rw [show flat (sp a b) = true from rfl]
  simp only [Bool.and_self, cond_true, neq_span]
  rfl
theorem pur_eql37 {A : Fr} {o : Oper} {x y : Operand} {rt : TypeId} {x1 x2 x3 x4 x5 x6 x7 x8 : Int} (ho : o.op = .binOp .eql 37 x y rt) (hx : ev A x = some (.agg #[iv x1, iv x2, iv x3, iv x4, iv x5, iv x6, iv x7, iv x8])) (hy : ev A y = some (.agg #[iv x1, iv x2, iv x3, iv x4, iv x5, iv x6, iv x7, iv x8])) : pureOp Try.prog A o = some (.bool true) := by
  unfold pureOp
  simp only [ho, hx, hy]
  rw [show flat (.agg #[iv x1, iv x2, iv x3, iv x4, iv x5, iv x6, iv x7, iv x8]) = true from rfl]
  simp only [Bool.and_self, cond_true, eql_flows]
  rfl
section
variable {kn : FuncId → Option Bool} {lo : Nat} {H : Hp}
theorem spans_same {a1 a2 : Option Addr} {n c1 c2 : Nat} {l : List (Int × Int)} (h1 : Sl H a1 n c1 (spc l)) (h2 : Sl H a2 n c2 (spc l)) (hl : l.length = n) (hn : n ≤ 1000) :
    FnX Try.prog kn lo 22 [.slice a1 n c1, .slice a2 n c2] H (.bool true) H := by
  have key := fnX_low (kn := kn) (lo := lo) (H := H) (args := [.slice a1 n c1, .slice a2 n c2]) (Q := fun v H' => v = .bool true ∧ H' = H) Try.func22 B22 N22 Z22 L22 (by simp) ?_
  · obtain ⟨v, H', h, rfl, rfl⟩ := key; exact h
  refine And.intro (fun w => by simp at w) (fun _ => ?_)
  refine loop_low (fn := Try.f22) E22_1 N22 L22x1 (fun i : Nat => [(5, iv (i : Int)), (0, .slice a1 n c1), (1, .slice a2 n c2)])
    (fun k i H' => i + k = n ∧ H' = H) n 0 ⟨by omega, rfl⟩ ⟨rfl, rfl, rfl, trivial⟩ ?_
  rintro k i H' ⟨hik, rfl⟩
  refine And.intro (fun hlt => ?_) (fun hge => ?_)
  · have hi : i < n := by simpa using hlt
    rcases h1 with ⟨_, h0, _⟩ | ⟨b1, e1, r1, _⟩
    · omega
    rcases h2 with ⟨_, h0, _⟩ | ⟨b2, e2, r2, _⟩
    · omega
    obtain ⟨x, hx⟩ := get_some (l := l) (i := i) (by omega)
    rw [e1, e2]
    refine Exists.intro i (And.intro rfl (And.intro hi ?_))
    refine Exists.intro _ (Exists.intro _ (And.intro r1.of (And.intro (row_flat (f := fun s : Int × Int => [iv s.1, iv s.2]) (fun _ _ => rfl) hx) (And.intro r1.lt ?_))))
    refine Exists.intro i (And.intro rfl (And.intro hi ?_))
    refine Exists.intro _ (Exists.intro _ (And.intro r2.of (And.intro (row_flat (f := fun s : Int × Int => [iv s.1, iv s.2]) (fun _ _ => rfl) hx) (And.intro r2.lt ?_))))
    refine And.intro rfl (Exists.intro (.bool false) (And.intro (pur_neq35 (a := x.1) (b := x.2) rfl rfl rfl) ?_))
    refine And.intro (by repeat' first | exact True.intro | exact (fun h => h) | refine And.intro ?_ ?_) ?_
    refine condF ?_
    refine And.intro ⟨by omega, by omega⟩ ?_
    exact ⟨k - 1, i + 1, by omega, ⟨by omega, rfl⟩, rfl, rfl, rfl, trivial⟩
  · exact And.intro trivial (Exists.intro _ (And.intro rfl ⟨rfl, rfl⟩))
end
end Go.Ax
namespace Go.Ax
open Go Go.RowKit Go.Proofs
end Go.Ax
namespace Go.Ax
open Go Go.RowKit Go.Proofs
end Go.Ax
namespace Go.Ax
open Go Go.RowKit Go.Proofs
end Go.Ax

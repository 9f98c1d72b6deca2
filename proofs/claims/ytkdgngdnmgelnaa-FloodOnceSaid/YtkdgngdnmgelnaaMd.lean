import Derived.Test.YtkdgngdnmgelnaaMc
import Derived.Test.YtkdgngdnmgelnaaChecked
import Derived.Test.YtkdgngdnmgelnaaAxO
import Derived.Deep.Slices
import Derived.Deep.Fields
import Derived.ChangeSame
set_option linter.all false
/-
  Flood: the iterator of orders (61, 73) (written by program).
-/
namespace Go.Ax
open Go Go.RowKit Go.Proofs

theorem wN_alcS {P : Program} {kn : FuncId → Option Bool} {lo n : Nat} {r : List RO} {S : Rg} {H : Hp} {K : Rg → Hp → Prop} {d : Option Nat} {e : TypeId} {z : List Value} (h : ∀ H1, Keep H H1 [] → H1.next = H.next + 1 → Sc H1 H.next z → wOps P kn lo n r (putS S d (.pointer (some ⟨H.next, 0, none⟩))) H1 K) : wOps P kn lo n (⟨d, none, .alc e z⟩ :: r) S H K := by
  simp only [wOps, wRO, wRI]
  intro H1 hH1
  obtain ⟨k1, n1, _⟩ := new_facts hH1
  exact h H1 k1 n1 (new_sc hH1)
theorem up_sc {H H1 : Hp} {b : Nat} {cs cs' : List Value} {e : TypeId} (hc : Sc H b cs) (h : H.up b (.cells cs' e false) = H1) : Keep H H1 [b] ∧ H1.next = H.next ∧ Sc H1 b cs' := by
  obtain ⟨a, b1, c⟩ := up_facts hc.cl h
  refine ⟨a, b1, by rw [b1]; exact hc.1, e, ?_⟩
  rw [← h]
  show (H.t.set b _).get b = _
  rw [Tr.get_set, if_pos rfl]
theorem wN_stS {P : Program} {kn : FuncId → Option Bool} {lo n : Nat} {r : List RO} {S : Rg} {H : Hp} {K : Rg → Hp → Prop} {d : Option Nat} {x y : Operand} {b o : Nat} {cs : List Value} {v : Value} (hx : evS S x = some (.pointer (some ⟨b, o, none⟩))) (hy : evS S y = some v) (hc : Sc H b cs) (hl : lo ≤ b) (hv : v.cells.toList = [v]) (h1 : one v = true) (ho : o < cs.length)
    (h : ∀ H1, Keep H H1 [b] → H1.next = H.next → Sc H1 b (cs.set o v) → wOps P kn lo n r (putS S d undef) H1 K) : wOps P kn lo n (⟨d, none, .st x y⟩ :: r) S H K := by
  simp only [wOps, wRO, wRI, hx, hy]
  obtain ⟨_, e, g⟩ := id hc
  exact ⟨cs, e, false, g, hl, hv, h1, ho, fun H1 hH1 => by obtain ⟨a, b, c⟩ := up_sc hc hH1; exact h H1 a b c⟩
theorem u116 : Try.prog.underlying 116 = some (.array 7 3) := by kernel_rfl
theorem se26 : sliceElem Try.prog 26 = some (3, 1) := by kernel_rfl
theorem zo3 : zeroOf Try.prog 3 = some (.int .i64 0) := by kernel_rfl
theorem in3b : ∃ i, Try.prog.info? 3 = some i ∧ i.bytes ≤ 8 := by
  have h : (Try.prog.info? 3).map (fun i => Nat.ble i.bytes 8) = some true := by kernel_rfl
  cases e : Try.prog.info? 3 with
  | none => rw [e] at h; cases h
  | some i => rw [e] at h; exact ⟨i, rfl, Nat.le_of_ble_eq_true (by simpa using h)⟩
theorem heap_arr {lo n : Nat} {S : Rg} {H : Hp} {d : Option Tmp} {ty : TypeId} {x : Operand} {p : String} {b : Nat} {cs : List Value} (h0 : Sc H b cs) (hx : evS S x = some (pt b)) :
    heapOp Try.prog lo (frS n S) H ⟨d, .slice 116 x none none none, ty, p, #[], none⟩ = some (.val (slv b 7 7) H, .read b) := by
  obtain ⟨i, hi, hs⟩ := in3
  obtain ⟨_, e, h2⟩ := h0
  have b0 : boundOf (frS n S) 7 none = some 7 := rfl
  have b1 : boundOf (frS n S) 0 none = some 0 := rfl
  unfold heapOp
  simp only [ev_frS, hx, u116, hi, b0, b1, h2, hs, add_none, Nat.mul_one, Nat.add_zero]
  rfl
theorem heap_arrN {lo n : Nat} {S : Rg} {H : Hp} {d : Option Tmp} {ty : TypeId} {x y : Operand} {p : String} {b k : Nat} {cs : List Value} (h0 : Sc H b cs) (hk : k ≤ 7) (hx : evS S x = some (pt b)) (hy : evS S y = some (iv (k : Int))) :
    heapOp Try.prog lo (frS n S) H ⟨d, .slice 116 x none (some y) none, ty, p, #[], none⟩ = some (.val (slv b k 7) H, .read b) := by
  obtain ⟨i, hi, hs⟩ := in3
  obtain ⟨_, e, h2⟩ := h0
  have b0 : boundOf (frS n S) 7 (some y) = some k := by unfold boundOf; simp only [ev_frS, hy]
  have b1 : boundOf (frS n S) 0 none = some 0 := rfl
  unfold heapOp
  simp only [ev_frS, hx, u116, hi, b0, b1, h2, hs, add_none, Nat.mul_one, Nat.add_zero, Nat.ble_eq_true_of_le hk, Nat.ble_eq_true_of_le (Nat.zero_le k), Bool.and_self, cond_true]
  rfl
theorem heap_copy26 {lo : Nat} {H : Hp} {b r k : Nat} {cs zs : List Value} (hb : Sc H b zs) (hr : Sc H r cs) (hlo : lo ≤ b) (hz : zs.length = k) (hc : cs.length = 7) (hk : k ≤ 7) (h1 : cs.all one = true) :
    ∃ e, ∀ (n : Nat) (S : Rg) (d : Option Tmp) (x y : Operand) (ty : TypeId) (p : String), evS S x = some (slv b k k) → evS S y = some (slv r 7 7) → heapOp Try.prog lo (frS n S) H ⟨d, .call ⟨.builtin .copy, #[x, y], #[26, 26]⟩, ty, p, #[], none⟩ = some (.val (iv (k : Int)) (H.up b (.cells (cs.take k) e false)), .full) := by
  obtain ⟨_, e, h2⟩ := hb
  obtain ⟨_, e3, h3⟩ := hr
  have hm : Nat.min 7 k = k := Nat.min_eq_right hk
  have hrow : row (k * 1) cs 0 = some (cs.take k) := by
    unfold row
    simp only [List.drop_zero, Nat.mul_one, beq_eq, List.length_take, hc, Nat.min_eq_left hk, decide_true, cond_true]
  have hsr : srcCells H 1 (.slice (some ⟨r, 0, none⟩) k 7) = some (k, cs.take k) := by
    simp only [srcCells, cellsOf, h3, hrow]
  have hp : putRow zs 0 (cs.take k) = cs.take k := by
    have := putRow_all zs (cs.take k) [] (by rw [List.length_take, hc, hz]; omega)
    simpa using this
  have ha : (cs.take k).all one = true := by
    rw [List.all_eq_true] at h1 ⊢
    exact fun v hv => h1 v (List.mem_of_mem_take hv)
  refine ⟨e, fun n S d x y ty p hx hy => ?_⟩
  have hev : evs (frS n S) [x, y] = some [slv b k k, slv r 7 7] := by simp only [evs, ev_frS, hx, hy]
  have hbi : builtinV Try.prog lo H .copy #[26, 26] [slv b k k, slv r 7 7] = some (.val (iv (k : Int)) (H.up b (.cells (cs.take k) e false)), .full) := by
    have ht : (#[26, 26] : Array TypeId)[0]? = some 26 := rfl
    unfold builtinV
    simp only [ht, se26, hm, hsr, h2, hp, ha, hz, Nat.mul_one, Nat.zero_add, Nat.ble_eq_true_of_le hlo, Nat.ble_eq_true_of_le (Nat.le_refl k), Bool.and_self, cond_true]
    rfl
  unfold heapOp
  simp only [hev, hbi]
theorem pd_len {l : List Nat} (h : l.length ≤ 7) : (pd l).length = 7 := by unfold pd; simp; omega
theorem pd_take {l : List Nat} {n : Nat} (h : l.length = n) : (pd l).take n = l := by unfold pd; rw [← h, List.take_left]
theorem nts_take (l : List Nat) (n : Nat) : (nts l).take n = nts (l.take n) := by unfold nts; rw [List.map_take]
theorem nts_one (l : List Nat) : (nts l).all one = true := by
  unfold nts; rw [List.all_eq_true]
  intro v hv
  obtain ⟨x, _, rfl⟩ := List.mem_map.mp hv
  rfl
def ini (k : Nat) : List Nat := List.range k ++ List.replicate (7 - k) 0
theorem ini_len {k : Nat} (h : k ≤ 7) : (ini k).length = 7 := by unfold ini; simp; omega
theorem ini_step {k : Nat} (h : k < 7) : (ini k).set (0 + k * 1) k = ini (k + 1) := by
  unfold ini
  rw [Nat.zero_add, Nat.mul_one, List.set_append_right _ _ (by simp), List.length_range, Nat.sub_self]
  obtain ⟨d, hd⟩ : ∃ d, 7 - k = d + 1 := ⟨6 - k, by omega⟩
  rw [hd, List.replicate_succ, List.set_cons_zero, show 7 - (k + 1) = d by omega, List.range_succ, List.append_assoc]; rfl
theorem ini_pd {n : Nat} : ini n = pd (List.range n) := by unfold ini pd; rw [List.length_range]
theorem pd_small {n : Nat} {l : List Nat} (h : ∀ x ∈ l, x < n) (hn : n ≤ 7) : ∀ x ∈ pd l, x < 1000 := by
  intro x hx
  unfold pd at hx
  rcases List.mem_append.mp hx with hx | hx
  · have := h x hx; omega
  · have := (List.mem_replicate.mp hx).2; omega
section
variable {kn : FuncId → Option Bool} {lo : Nat} {H : Hp}

theorem orders_ok {n : Nat} : ∃ H', FnX Try.prog kn lo 61 [iv (n : Int)] H (.func (.func 73) #[] #[pt H.next]) H' ∧ Keep H H' [] ∧ H'.next = H.next + 1 ∧ Rd H' H.next [iv (n : Int)] := by
  have key := fnX_low (kn := kn) (lo := lo) (H := H) (args := [iv (n : Int)]) (Q := fun w H' => w = .func (.func 73) #[] #[pt H.next] ∧ Keep H H' [] ∧ H'.next = H.next + 1 ∧ Rd H' H.next [iv (n : Int)]) Try.func61 B61 N61 Z61 L61 (by simp) ?_
  · obtain ⟨w, H', h, rfl, q⟩ := key; exact ⟨H', h, q⟩
  refine wN_seq ?_
  refine wN_box (v := iv (n : Int)) rfl ?_
  intro H1 kH1 nH1 cH1
  have c1 : Cl H1 H.next [iv (n : Int)] := cH1
  refine wN_mov (v := .nilFunc) rfl ?_
  refine wN_end ?_
  refine wN_seq ?_
  refine wN_pur (v := .func (.func 73) #[] #[pt H.next]) rfl (by kernel_rfl) ?_
  refine wN_mov (v := .func (.func 73) #[] #[pt H.next]) rfl ?_
  refine wN_end ?_
  exact And.intro trivial (Exists.intro _ (And.intro rfl ⟨rfl, kH1, nH1, c1.rd⟩))
set_option maxRecDepth 100000 in
/-- All orders of n beds, one behind the other. -/
theorem iter73_ok {n l bc : Nat} (h1 : 1 ≤ n) (h7 : n ≤ 7) (hlo : lo ≤ H.next) (hbc : Rd H bc [iv (n : Int)]) (J D : List (List Nat) → Hp → Prop) (hJ0 : ∀ H1, Keep H H1 [] → J (perms n) H1) (hJe : ∀ s H1, J s H1 → Rd H1 bc [iv (n : Int)]) (hJm : ∀ s H1 H2, J s H1 → Keep H1 H2 [H.next] → J s H2)
    (step : ∀ o s H1 b, o.length = n → (∀ x ∈ o, x < n) → o.Nodup → J (o :: s) H1 → H.next < b → Sc H1 b (nts o) → ∃ t H', CallsX Try.prog kn lo (.fn (.yield l) #[]) [slv b n n] H1 (.bool t) H' ∧ (∀ cs, Sc H1 H.next cs → Sc H' H.next cs) ∧ (bif t then J s H' else D s H')) :
    ∃ H', FnX Try.prog kn lo 73 [.func (.yield l) #[] #[], pt bc] H unit H' ∧ (J [] H' ∨ ∃ s, D s H') := by
  have key := fnX_low (kn := kn) (lo := lo) (H := H) (args := [.func (.yield l) #[] #[], pt bc]) (Q := fun w H' => w = unit ∧ (J [] H' ∨ ∃ s, D s H')) Try.func73 B73 N73 Z73 L73 (by simp) ?_
  · obtain ⟨w, H', h, rfl, q⟩ := key; exact ⟨H', h, q⟩
  have lbc := hbc.lt
  refine wN_seq ?_
  refine wN_alcS ?_
  intro H1 kH1 nH1 sH1
  have hbc1 := kH1.rd hbc (by simp)
  refine wN_end ?_
  refine wN_seq ?_
  refine wN_ld (b := bc) (o := 0) (v := iv (n : Int)) rfl hbc1 rfl ?_
  refine wN_mov (v := iv 0) rfl ?_
  refine wN_end ?_
  have sH1 : Sc H1 H.next (nts (ini 0)) := sH1
  refine loop_low (fn := Try.f73) E73_1 N73 L73x1 (fun k : Nat => [(0, .func (.yield l) #[] #[]), (1, pt bc), (3, pt H.next), (6, iv (n : Int)), (7, iv (k : Int))])
    (fun q k H' => q + k = n ∧ Keep H H' [] ∧ Sc H' H.next (nts (ini k))) n 0 ⟨by omega, kH1, sH1⟩ ⟨rfl, rfl, rfl, rfl, rfl, trivial⟩ ?_
  rintro q k L1 ⟨hqk, hk, cr⟩
  refine wN_seq ?_
  refine wN_c_lss (a := (k : Int)) (b := (n : Int)) rfl rfl ?_
  refine wN_end ?_
  refine And.intro (fun q1 => ?_) (fun q1 => ?_)
  · have q1 : (k : Int) < (n : Int) := of_decide_eq_true q1
    first | refine wN_skip ?_ | skip
    refine wN_seq ?_
    refine wN_mov (v := iv (k : Int)) rfl ?_
    refine wN_mov (v := iv (k : Int)) rfl ?_
    refine wN_end ?_
    first | refine wN_reg ?_ | refine wN_blk ?_ | (refine wOps_nil ?_; refine wN_reg ?_)
    refine wN_mov (v := iv (k : Int)) rfl ?_
    refine wN_mov (v := iv (k : Int)) rfl ?_
    refine wN_idxa (b := H.next) (o := 0) (k := k) (j := (k : Int)) rfl rfl rfl (by omega) ?_
    refine wN_stS (b := H.next) (o := 0 + k * 1) (v := iv (k : Int)) rfl rfl cr hlo rfl rfl (by rw [nts_len, ini_len (by omega)]; omega) ?_
    intro H2 kH2 nH2 sH2
    have hk := hk.new kH2 (fun b hb => by simp at hb ⊢; omega)
    have cr : Sc H2 H.next (nts (ini (k + 1))) := by rw [nts_set, ini_step (by omega)] at sH2; exact sH2
    refine wN_end ?_
    first | refine wN_reg ?_ | refine wN_blk ?_ | (refine wOps_nil ?_; refine wN_reg ?_)
    refine wN_add (a := (k : Int)) (b := 1) rfl rfl ⟨by omega, by omega⟩ ?_
    refine wN_mov (v := iv ((k : Int) + 1)) rfl ?_
    refine wN_end ?_
    exact ⟨q - 1, k + 1, by omega, ⟨by omega, hk, cr⟩, rfl, rfl, rfl, rfl, rfl, trivial⟩
  · have q1 : ¬ ((k : Int) < (n : Int)) := of_decide_eq_false q1
    rw [show k = n by omega, ini_pd] at cr
    obtain ⟨r0, hp, hch⟩ := perms_first h1 h7
    have hJ := hJ0 _ hk
    have hall : ∀ y ∈ List.range n :: r0, y.length = n ∧ (∀ x ∈ y, x < n) ∧ y.Nodup := fun y hy => perms_mem.mp (by rw [hp]; exact hy)
    rw [hp] at hJ
    refine loop_low (fn := Try.f73) E73_2 N73 L73x2 (fun _ : List Nat × List (List Nat) => [(0, .func (.yield l) #[] #[]), (1, pt bc), (3, pt H.next)])
      (fun q x H' => q = x.2.length ∧ (∀ y ∈ x.1 :: x.2, y.length = n ∧ (∀ z ∈ y, z < n) ∧ y.Nodup) ∧ chain n x.1 x.2 = true ∧ J (x.1 :: x.2) H' ∧ Sc H' H.next (nts (pd x.1))) r0.length (List.range n, r0) ⟨rfl, hall, hch, hJ, cr⟩ ⟨rfl, rfl, rfl, trivial⟩ ?_
    rintro q ⟨o, s⟩ L2 ⟨hq, hall, hch, hJ, cr⟩
    simp only at hq hall hch hJ cr
    obtain ⟨hl, hon, hnd⟩ := hall o (by simp)
    have rc := hJe _ _ hJ
    have lr := cr.lt
    obtain ⟨i3, hi3, hb3⟩ := in3b
    refine wN_seq ?_
    refine wN_ld (b := bc) (o := 0) (v := iv (n : Int)) rfl rc rfl ?_
    have eA := fun (m : Nat) (S : Rg) (d : Option Tmp) (p q : Operand) (ty : TypeId) (s : String) => heap_makeInts (P := Try.prog) (lo := lo) (n := m) (S := S) (H := L2) (d := d) (x := p) (y := q) (ty := ty) (p := s) (m := n) se26 zo3 hi3 hb3
    refine wN_memh (k := .heavy) rfl (by kernel_rfl) (eA _ _ _ _ _ _ _ rfl rfl (by omega)) (fun x e => by cases e) ?_
    generalize hH3 : L2.new _ = H3
    obtain ⟨k3, n3, _⟩ := new_facts hH3
    have s3 := new_sc hH3
    refine wN_mov (v := slv L2.next n n) rfl ?_
    refine wN_end ?_
    have cr3 := k3.sc cr (by simp)
    refine wN_seq ?_
    refine wN_mov (v := slv L2.next n n) rfl ?_
    have eB := fun (m : Nat) (S : Rg) (d : Option Tmp) (p : Operand) (ty : TypeId) (s : String) => heap_arr (lo := lo) (n := m) (S := S) (d := d) (x := p) (ty := ty) (p := s) cr3
    refine wN_memh (k := .read H.next) rfl (by kernel_rfl) (eB _ _ _ _ _ _ rfl) (fun x e => by cases e; exact cr3.lt) ?_
    obtain ⟨e4, eC⟩ := heap_copy26 (lo := lo) (k := n) s3 cr3 (by omega) (by simp [ints]) (by rw [nts_len, pd_len (by omega)]) h7 (nts_one _)
    refine wN_memh (k := .full) rfl (by kernel_rfl) (eC _ _ _ _ _ _ _ rfl rfl) (fun x e => by cases e) ?_
    generalize hH4 : H3.up L2.next _ = H4
    obtain ⟨k4, n4, s4⟩ := up_sc s3 hH4
    rw [nts_take, pd_take hl] at s4
    refine wN_end ?_
    have k24 : Keep L2 H4 [] := k3.new k4 (fun b hb => by simp at hb ⊢; omega)
    have hJ4 := hJm _ _ _ hJ (k24.mono (by simp))
    have cr4 := k24.sc cr (by simp)
    obtain ⟨t, H5, f5, hsc, hJ5⟩ := step o s H4 L2.next hl hon hnd hJ4 lr s4
    have cr5 := hsc _ cr4
    refine wN_seq ?_
    refine wN_mov (v := .func (.yield l) #[] #[]) rfl ?_
    refine wN_mov (v := slv L2.next n n) rfl ?_
    refine wN_callf (vs := [slv L2.next n n]) rfl f5 ?_
    cases t
    · have hJ5 : D s H5 := hJ5
      refine wN_pur (v := .bool true) rfl rfl ?_
      refine wN_mov (v := .bool true) rfl ?_
      refine wN_gs rfl ?_
      refine wN_gs rfl ?_
      refine wN_gs rfl ?_
      refine wN_gs rfl ?_
      refine wN_pur (v := .bool true) rfl rfl ?_
      refine wN_end ?_
      refine condT ?_
      exact And.intro trivial (Exists.intro _ (And.intro rfl ⟨rfl, Or.inr ⟨s, hJ5⟩⟩))
    · have hJ5 : J s H5 := hJ5
      have rc5 := hJe _ _ hJ5
      refine wN_pur (v := .bool false) rfl rfl ?_
      refine wN_mov (v := .bool false) rfl ?_
      refine wN_g rfl (wN_ld (b := bc) (o := 0) (v := iv (n : Int)) rfl rc5 rfl ?_)
      have eD := fun (m : Nat) (S : Rg) (d : Option Tmp) (p q : Operand) (ty : TypeId) (s : String) => heap_arrN (lo := lo) (n := m) (S := S) (d := d) (x := p) (y := q) (ty := ty) (p := s) (k := n) cr5 h7
      refine wN_g rfl (wN_memh (k := .read H.next) rfl (by kernel_rfl) (eD _ _ _ _ _ _ _ rfl rfl) (fun x e => by cases e; exact cr5.lt) ?_)
      obtain ⟨w6, H6, f6, t6, rfl, k6, hor⟩ := advance_ok (kn := kn) (lo := lo) (H := H5) (b := H.next) (n := n) (cap := 7) (l := pd o) cr5 h1 h7 h7 (by rw [pd_len (by omega)]; exact h7) (pd_small hon h7) hlo
      refine wN_g rfl (wN_callf (vs := [slv H.next n 7]) rfl (callX_args f6) ?_)
      have hJ6 := hJm _ _ _ hJ5 k6
      rcases hor with ⟨rfl, l2, ha, c6⟩ | ⟨rfl, ha, c6⟩
      · refine wN_g rfl (wN_pur (v := .bool false) rfl rfl ?_)
        refine wN_pur (v := .bool false) rfl rfl ?_
        refine wN_end ?_
        refine condF ?_
        cases s with
        | nil => rw [chain_last hch] at ha; cases ha
        | cons o2 s2 =>
          obtain ⟨ea, hch2⟩ := chain_next hch
          rw [ea] at ha
          have e2 := Option.some.inj ha
          subst e2
          first | refine wN_skip ?_ | skip
          simp only [List.length_cons] at hq
          exact ⟨q - 1, (o2, s2), by omega, ⟨by show q - 1 = s2.length; omega, fun y hy => hall y (List.mem_cons_of_mem _ hy), hch2, hJ6, c6⟩, rfl, rfl, rfl, trivial⟩
      · refine wN_g rfl (wN_pur (v := .bool true) rfl rfl ?_)
        refine wN_pur (v := .bool true) rfl rfl ?_
        refine wN_end ?_
        refine condT ?_
        have hs : s = [] := by
          cases s with
          | nil => rfl
          | cons o2 s2 => obtain ⟨ea, _⟩ := chain_next hch; rw [ea] at ha; cases ha
        subst hs
        exact And.intro trivial (Exists.intro _ (And.intro rfl ⟨rfl, Or.inl hJ6⟩))
end
end Go.Ax

/-
  Flood: what is compared: isNaN (75), cmp.Compare (63), cmp.Or (62), slices.Compare (65), compare (47), compareWater (59) (written by program).
-/
namespace Go.Ax
open Go Go.RowKit Go.Proofs

def sg (a b : Int) : Int := if a < b then -1 else if a > b then 1 else 0
def fnz : List Int → Int
  | [] => 0
  | a :: r => if a ≠ 0 then a else fnz r
def lexC : List Int → List Int → Int
  | [], [] => 0
  | [], _ :: _ => -1
  | _ :: _, [] => 1
  | a :: r, b :: s => if sg a b ≠ 0 then sg a b else lexC r s
theorem drop_at {l : List Int} {i : Nat} {x : Int} (h : l[i]? = some x) : l.drop i = x :: l.drop (i + 1) := by
  have hi := get_lt h
  have e : l[i] = x := by rw [List.getElem?_eq_getElem hi] at h; exact Option.some.inj h
  rw [List.drop_eq_getElem_cons hi, e]
section
variable {kn : FuncId → Option Bool} {lo : Nat} {H : Hp}
theorem nan_ok {x : Int} : ∃ H', FnX Try.prog kn lo 75 [iv x] H (.bool false) H' ∧ Keep H H' [] := by
  have key := fnX_low (kn := kn) (lo := lo) (H := H) (args := [iv x]) (Q := fun w H' => w = .bool false ∧ Keep H H' []) Try.func75 B75 N75 Z75 L75 (by simp) ?_
  · obtain ⟨w, H', h, rfl, q⟩ := key; exact ⟨H', h, q⟩
  have hk := Keep.refl H []
  refine wN_seq ?_
  refine wN_mov (v := .bool false) rfl ?_
  refine wN_end ?_
  refine wN_seq ?_
  refine wN_mov (v := iv x) rfl ?_
  refine wN_mov (v := iv x) rfl ?_
  refine wN_c_neq (a := x) (b := x) rfl rfl ?_
  refine wN_mov (v := .bool (x != x)) rfl ?_
  refine wN_end ?_
  exact And.intro trivial (Exists.intro _ (And.intro rfl ⟨by simp [retV], hk⟩))
theorem cmp63_ok {x y : Int} : ∃ H', FnX Try.prog kn lo 63 [iv x, iv y] H (iv (sg x y)) H' ∧ Keep H H' [] := by
  have key := fnX_low (kn := kn) (lo := lo) (H := H) (args := [iv x, iv y]) (Q := fun w H' => w = iv (sg x y) ∧ Keep H H' []) Try.func63 B63 N63 Z63 L63 (by simp) ?_
  · obtain ⟨w, H', h, rfl, q⟩ := key; exact ⟨H', h, q⟩
  have hk := Keep.refl H []
  refine wN_seq ?_
  refine wN_mov (v := iv 0) rfl ?_
  refine wN_end ?_
  refine wN_seq ?_
  refine wN_mov (v := iv x) rfl ?_
  obtain ⟨H1, f1, k1⟩ := nan_ok (kn := kn) (lo := lo) (H := H) (x := x)
  refine wN_callf (vs := [iv x]) rfl (callX_args f1) ?_
  have hk := hk.trans k1
  refine wN_mov (v := .bool false) rfl ?_
  refine wN_end ?_
  refine wN_seq ?_
  refine wN_mov (v := iv y) rfl ?_
  obtain ⟨H2, f2, k2⟩ := nan_ok (kn := kn) (lo := lo) (H := H1) (x := y)
  refine wN_callf (vs := [iv y]) rfl (callX_args f2) ?_
  have hk := hk.trans k2
  refine wN_mov (v := .bool false) rfl ?_
  refine wN_end ?_
  refine wN_seq ?_
  refine wN_mov (v := .bool false) rfl ?_
  refine wN_end ?_
  refine condF ?_
  first | refine wN_skip ?_ | skip
  refine wN_seq ?_
  refine wN_mov (v := .bool false) rfl ?_
  refine wN_end ?_
  refine condF ?_
  first | refine wN_skip ?_ | skip
  refine wN_seq ?_
  refine wN_mov (v := iv x) rfl ?_
  refine wN_mov (v := iv y) rfl ?_
  refine wN_c_lss (a := x) (b := y) rfl rfl ?_
  refine wN_end ?_
  refine And.intro (fun q1 => ?_) (fun q1 => ?_)
  · have q1 : x < y := of_decide_eq_true q1
    refine wN_seq ?_
    refine wN_mov (v := iv (-1)) rfl ?_
    refine wN_end ?_
    exact And.intro trivial (Exists.intro _ (And.intro rfl ⟨by unfold sg; rw [if_pos q1]; rfl, hk⟩))
  · have q1 : ¬ x < y := of_decide_eq_false q1
    first | refine wN_skip ?_ | skip
    refine wN_seq ?_
    refine wN_mov (v := iv x) rfl ?_
    refine wN_mov (v := iv y) rfl ?_
    refine wN_c_gtr (a := x) (b := y) rfl rfl ?_
    refine wN_end ?_
    refine And.intro (fun q2 => ?_) (fun q2 => ?_)
    · have q2 : x > y := of_decide_eq_true q2
      refine wN_seq ?_
      refine wN_mov (v := iv 1) rfl ?_
      refine wN_end ?_
      exact And.intro trivial (Exists.intro _ (And.intro rfl ⟨by unfold sg; rw [if_neg q1, if_pos q2]; rfl, hk⟩))
    · have q2 : ¬ x > y := of_decide_eq_false q2
      first | refine wN_skip ?_ | skip
      refine wN_seq ?_
      refine wN_mov (v := iv 0) rfl ?_
      refine wN_end ?_
      exact And.intro trivial (Exists.intro _ (And.intro rfl ⟨by unfold sg; rw [if_neg q1, if_neg q2]; rfl, hk⟩))
theorem or62_ok {b m cap : Nat} {us : List Int} (rb : Rd H b (ints us)) (hl : us.length = m) (hm : m ≤ 1000) : ∃ H', FnX Try.prog kn lo 62 [slv b m cap] H (iv (fnz us)) H' ∧ Keep H H' [] := by
  have key := fnX_low (kn := kn) (lo := lo) (H := H) (args := [slv b m cap]) (Q := fun w H' => w = iv (fnz us) ∧ Keep H H' []) Try.func62 B62 N62 Z62 L62 (by simp) ?_
  · obtain ⟨w, H', h, rfl, q⟩ := key; exact ⟨H', h, q⟩
  have hk := Keep.refl H []
  refine wN_seq ?_
  refine wN_mov (v := iv 0) rfl ?_
  refine wN_end ?_
  refine wN_seq ?_
  refine wN_mov (v := iv 0) rfl ?_
  refine wN_end ?_
  refine wN_seq ?_
  refine wN_mov (v := slv b m cap) rfl ?_
  refine wN_len (m := m) rfl ?_
  refine wN_mov (v := iv 0) rfl ?_
  refine wN_end ?_
  refine loop_low (fn := Try.f62) E62_1 N62 L62x1 (fun i : Nat => [(2, iv 0), (3, iv 0), (6, slv b m cap), (7, iv (m : Int)), (8, iv (i : Int))])
    (fun q i H' => i + q = m ∧ Keep H H' [] ∧ fnz (us.drop i) = fnz us) m 0 ⟨by omega, hk, rfl⟩ ⟨rfl, rfl, rfl, rfl, rfl, trivial⟩ ?_
  rintro q i L1 ⟨hiq, hk, hf⟩
  have rb := hk.rd rb (by simp)
  refine wN_seq ?_
  refine wN_c_lss (a := (i : Int)) (b := (m : Int)) rfl rfl ?_
  refine wN_end ?_
  refine And.intro (fun q1 => ?_) (fun q1 => ?_)
  · have q1 : (i : Int) < (m : Int) := of_decide_eq_true q1
    obtain ⟨x, hx⟩ := get_some (l := us) (i := i) (by omega)
    rw [drop_at hx] at hf
    first | refine wN_skip ?_ | skip
    refine wN_seq ?_
    refine wN_idx (b := b) (o := 0) (k := i) (j := (i : Int)) rfl rfl rfl (by omega) ?_
    refine wN_ld (b := b) (o := 0 + i * 1) (v := iv x) rfl rb (ints_at hx) ?_
    refine wN_mov (v := iv x) rfl ?_
    refine wN_end ?_
    refine wN_seq ?_
    refine wN_mov (v := iv x) rfl ?_
    refine wN_mov (v := iv 0) rfl ?_
    refine wN_c_neq (a := x) (b := 0) rfl rfl ?_
    refine wN_end ?_
    refine And.intro (fun q2 => ?_) (fun q2 => ?_)
    · have q2 : x ≠ 0 := by simpa using q2
      refine wN_seq ?_
      refine wN_mov (v := iv x) rfl ?_
      refine wN_mov (v := iv x) rfl ?_
      refine wN_end ?_
      exact And.intro trivial (Exists.intro _ (And.intro rfl ⟨by rw [← hf, fnz, if_pos q2]; rfl, hk⟩))
    · have q2 : ¬ x ≠ 0 := by simpa using q2
      rw [fnz, if_neg q2] at hf
      first | refine wN_skip ?_ | skip
      first | refine wN_reg ?_ | refine wN_blk ?_ | (refine wOps_nil ?_; refine wN_reg ?_)
      refine wN_add (a := (i : Int)) (b := 1) rfl rfl ⟨by omega, by omega⟩ ?_
      refine wN_mov (v := iv ((i : Int) + 1)) rfl ?_
      refine wN_end ?_
      exact ⟨q - 1, i + 1, by omega, ⟨by omega, hk, hf⟩, rfl, rfl, rfl, rfl, rfl, trivial⟩
  · have q1 : ¬ ((i : Int) < (m : Int)) := of_decide_eq_false q1
    rw [List.drop_of_length_le (by omega)] at hf
    refine wN_seq ?_
    refine wN_mov (v := iv 0) rfl ?_
    refine wN_mov (v := iv 0) rfl ?_
    refine wN_end ?_
    exact And.intro trivial (Exists.intro _ (And.intro rfl ⟨by rw [← hf]; rfl, hk⟩))
theorem cmp65_ok {b m cap b2 m2 cap2 : Nat} {us vs : List Int} (rb : Rd H b (ints us)) (rc : Rd H b2 (ints vs)) (hl : us.length = m) (hl2 : vs.length = m2) (hm : m ≤ 1000) : ∃ H', FnX Try.prog kn lo 65 [slv b m cap, slv b2 m2 cap2] H (iv (lexC us vs)) H' ∧ Keep H H' [] := by
  have key := fnX_low (kn := kn) (lo := lo) (H := H) (args := [slv b m cap, slv b2 m2 cap2]) (Q := fun w H' => w = iv (lexC us vs) ∧ Keep H H' []) Try.func65 B65 N65 Z65 L65 (by simp) ?_
  · obtain ⟨w, H', h, rfl, q⟩ := key; exact ⟨H', h, q⟩
  have hk := Keep.refl H []
  refine wN_seq ?_
  refine wN_mov (v := iv 0) rfl ?_
  refine wN_end ?_
  refine wN_seq ?_
  refine wN_mov (v := slv b m cap) rfl ?_
  refine wN_len (m := m) rfl ?_
  refine wN_mov (v := iv 0) rfl ?_
  refine wN_end ?_
  refine loop_low (fn := Try.f65) E65_1 N65 L65x1 (fun i : Nat => [(0, slv b m cap), (1, slv b2 m2 cap2), (4, iv 0), (9, slv b m cap), (10, iv (m : Int)), (11, iv (i : Int))])
    (fun q i H' => i + q = m ∧ i ≤ m2 ∧ Keep H H' [] ∧ lexC (us.drop i) (vs.drop i) = lexC us vs) m 0 ⟨by omega, by omega, hk, rfl⟩ ⟨rfl, rfl, rfl, rfl, rfl, rfl, trivial⟩ ?_
  rintro q i L1 ⟨hiq, hi2, hk, hf⟩
  have rb := hk.rd rb (by simp)
  have rc := hk.rd rc (by simp)
  refine wN_seq ?_
  refine wN_c_lss (a := (i : Int)) (b := (m : Int)) rfl rfl ?_
  refine wN_end ?_
  refine And.intro (fun q1 => ?_) (fun q1 => ?_)
  · have q1 : (i : Int) < (m : Int) := of_decide_eq_true q1
    obtain ⟨x, hx⟩ := get_some (l := us) (i := i) (by omega)
    rw [drop_at hx] at hf
    first | refine wN_skip ?_ | skip
    refine wN_seq ?_
    refine wN_mov (v := iv (i : Int)) rfl ?_
    refine wN_idx (b := b) (o := 0) (k := i) (j := (i : Int)) rfl rfl rfl (by omega) ?_
    refine wN_ld (b := b) (o := 0 + i * 1) (v := iv x) rfl rb (ints_at hx) ?_
    refine wN_mov (v := iv (i : Int)) rfl ?_
    refine wN_mov (v := iv x) rfl ?_
    refine wN_end ?_
    refine wN_seq ?_
    refine wN_mov (v := iv (i : Int)) rfl ?_
    refine wN_mov (v := slv b2 m2 cap2) rfl ?_
    refine wN_len (m := m2) rfl ?_
    refine wN_c_geq (a := (i : Int)) (b := (m2 : Int)) rfl rfl ?_
    refine wN_end ?_
    refine And.intro (fun q2 => ?_) (fun q2 => ?_)
    · have q2 : (i : Int) ≥ (m2 : Int) := of_decide_eq_true q2
      rw [List.drop_of_length_le (l := vs) (by omega)] at hf
      refine wN_seq ?_
      refine wN_mov (v := iv 1) rfl ?_
      refine wN_end ?_
      exact And.intro trivial (Exists.intro _ (And.intro rfl ⟨by rw [← hf]; rfl, hk⟩))
    · have q2 : ¬ ((i : Int) ≥ (m2 : Int)) := of_decide_eq_false q2
      obtain ⟨y, hy⟩ := get_some (l := vs) (i := i) (by omega)
      rw [drop_at hy] at hf
      first | refine wN_skip ?_ | skip
      refine wN_seq ?_
      refine wN_mov (v := slv b2 m2 cap2) rfl ?_
      refine wN_mov (v := iv (i : Int)) rfl ?_
      refine wN_idx (b := b2) (o := 0) (k := i) (j := (i : Int)) rfl rfl rfl (by omega) ?_
      refine wN_ld (b := b2) (o := 0 + i * 1) (v := iv y) rfl rc (ints_at hy) ?_
      refine wN_mov (v := iv y) rfl ?_
      refine wN_end ?_
      refine wN_seq ?_
      refine wN_mov (v := iv x) rfl ?_
      refine wN_mov (v := iv y) rfl ?_
      obtain ⟨H1, f1, k1⟩ := cmp63_ok (kn := kn) (lo := lo) (H := L1) (x := x) (y := y)
      refine wN_callf (vs := [iv x, iv y]) rfl (callX_args f1) ?_
      have hk := hk.trans k1
      refine wN_mov (v := iv (sg x y)) rfl ?_
      refine wN_end ?_
      refine wN_seq ?_
      refine wN_mov (v := iv (sg x y)) rfl ?_
      refine wN_c_neq (a := sg x y) (b := 0) rfl rfl ?_
      refine wN_end ?_
      refine And.intro (fun q3 => ?_) (fun q3 => ?_)
      · have q3 : sg x y ≠ 0 := by simpa using q3
        refine wN_seq ?_
        refine wN_mov (v := iv (sg x y)) rfl ?_
        refine wN_mov (v := iv (sg x y)) rfl ?_
        refine wN_end ?_
        exact And.intro trivial (Exists.intro _ (And.intro rfl ⟨by rw [← hf, lexC, if_pos q3]; rfl, hk⟩))
      · have q3 : ¬ sg x y ≠ 0 := by simpa using q3
        rw [lexC, if_neg q3] at hf
        first | refine wN_skip ?_ | skip
        first | refine wN_reg ?_ | refine wN_blk ?_ | (refine wOps_nil ?_; refine wN_reg ?_)
        refine wN_add (a := (i : Int)) (b := 1) rfl rfl ⟨by omega, by omega⟩ ?_
        refine wN_mov (v := iv ((i : Int) + 1)) rfl ?_
        refine wN_end ?_
        exact ⟨q - 1, i + 1, by omega, ⟨by omega, by omega, hk, hf⟩, rfl, rfl, rfl, rfl, rfl, rfl, trivial⟩
  · have q1 : ¬ ((i : Int) < (m : Int)) := of_decide_eq_false q1
    rw [List.drop_of_length_le (l := us) (by omega)] at hf
    refine wN_seq ?_
    refine wN_mov (v := slv b m cap) rfl ?_
    refine wN_len (m := m) rfl ?_
    refine wN_mov (v := slv b2 m2 cap2) rfl ?_
    refine wN_len (m := m2) rfl ?_
    refine wN_c_lss (a := (m : Int)) (b := (m2 : Int)) rfl rfl ?_
    refine wN_end ?_
    refine And.intro (fun q2 => ?_) (fun q2 => ?_)
    · have q2 : (m : Int) < (m2 : Int) := of_decide_eq_true q2
      obtain ⟨y, hy⟩ := get_some (l := vs) (i := i) (by omega)
      rw [drop_at hy] at hf
      refine wN_seq ?_
      refine wN_mov (v := iv (-1)) rfl ?_
      refine wN_end ?_
      exact And.intro trivial (Exists.intro _ (And.intro rfl ⟨by rw [← hf]; rfl, hk⟩))
    · have q2 : ¬ ((m : Int) < (m2 : Int)) := of_decide_eq_false q2
      rw [List.drop_of_length_le (l := vs) (by omega)] at hf
      first | refine wN_skip ?_ | skip
      refine wN_seq ?_
      refine wN_mov (v := iv 0) rfl ?_
      refine wN_end ?_
      exact And.intro trivial (Exists.intro _ (And.intro rfl ⟨by rw [← hf]; rfl, hk⟩))
end
end Go.Ax

/-
  Flood: a course is compared with another one (47, 59) (written by program).
-/
namespace Go.Ax
open Go Go.RowKit Go.Proofs

theorem heap_build3 {lo n : Nat} {S : Rg} {H : Hp} {d : Option Tmp} {ty : TypeId} {p : String} {x y z : Operand} {a b c : Int} (hx : evS S x = some (iv a)) (hy : evS S y = some (iv b)) (hz : evS S z = some (iv c)) :
    heapOp Try.prog lo (frS n S) H ⟨d, .buildSlice 26 3 #[(0, x), (1, y), (2, z)], ty, p, #[], none⟩ = some (.val (slv H.next 3 3) (H.new (.cells (ints [a, b, c]) 3 false)), .heavy) := by
  unfold heapOp
  simp only [partsOf, ev_frS, hx, hy, hz, se26, zo3]
  rfl
theorem heap_build2 {lo n : Nat} {S : Rg} {H : Hp} {d : Option Tmp} {ty : TypeId} {p : String} {x y : Operand} {a b : Int} (hx : evS S x = some (iv a)) (hy : evS S y = some (iv b)) :
    heapOp Try.prog lo (frS n S) H ⟨d, .buildSlice 26 2 #[(0, x), (1, y)], ty, p, #[], none⟩ = some (.val (slv H.next 2 2) (H.new (.cells (ints [a, b]) 3 false)), .heavy) := by
  unfold heapOp
  simp only [partsOf, ev_frS, hx, hy, se26, zo3]
  rfl
/-- a course as it is handed on: its order, its beds, its water -/
abbrev cvc (sb cap bb n : Nat) (x : Fs) : List Value := [slv sb n cap, slv bb n n, iv x.t1, iv x.t2, iv x.l1, iv x.l2, iv x.s1, iv x.s2, iv x.r1, iv x.r2]
abbrev cvv (sb cap bb n : Nat) (x : Fs) : Value := .agg (cvc sb cap bb n x).toArray
def cpB (x y : Fs) (us vs : List Int) : Int := fnz [sg x.d2 y.d2, sg x.t2 y.t2, lexC us vs]
def cwB (x y : Fs) (us vs : List Int) : Int := fnz [sg x.t2 y.t2, cpB x y us vs]
/-- where a course lies -/
structure Cq (H : Hp) (sb bb n : Nat) (x : Fs) (us : List Int) : Prop where
  ro : Sc H sb (ints us)
  rb : ∃ L : List Fs, Rd H bb (flc L) ∧ L[n - 1]? = some x
  ln : us.length = n
theorem Cq.keep {H H1 : Hp} {W : List Nat} {sb bb n : Nat} {x : Fs} {us : List Int} (c : Cq H sb bb n x us) (k : Keep H H1 W) (h1 : sb ∉ W) (h2 : bb ∉ W) : Cq H1 sb bb n x us :=
  ⟨k.sc c.ro h1, by obtain ⟨L, h, q⟩ := c.rb; exact ⟨L, k.rd h h2, q⟩, c.ln⟩
section
variable {kn : FuncId → Option Bool} {lo : Nat} {H : Hp}
set_option maxRecDepth 100000 in
theorem compare_ok {sb cap bb sb2 cap2 bb2 n : Nat} {x y : Fs} {us vs : List Int} (h1 : 1 ≤ n) (h7 : n ≤ 7) (hlo : lo ≤ H.next) (ca : Cq H sb bb n x us) (cb : Cq H sb2 bb2 n y vs) : ∃ H', FnX Try.prog kn lo 47 [cvv sb cap bb n x, cvv sb2 cap2 bb2 n y] H (iv (cpB x y us vs)) H' ∧ Keep H H' [] := by
  have key := fnX_low (kn := kn) (lo := lo) (H := H) (args := [cvv sb cap bb n x, cvv sb2 cap2 bb2 n y]) (Q := fun w H' => w = iv (cpB x y us vs) ∧ Keep H H' []) Try.func47 B47 N47 Z47 L47 (by simp) ?_
  · obtain ⟨w, H', h, rfl, q⟩ := key; exact ⟨H', h, q⟩
  have hk := Keep.refl H []
  refine wN_seq ?_
  refine wN_box (v := cvv sb cap bb n x) rfl ?_
  intro H1 k1 n1 c1
  have c1 : Cl H1 H.next (cvc sb cap bb n x) := c1
  refine wN_box (v := cvv sb2 cap2 bb2 n y) rfl ?_
  intro H2 k2 n2 c2
  have c2 : Cl H2 H1.next (cvc sb2 cap2 bb2 n y) := c2
  have c1 := k2.cl c1 (by simp)
  have k02 := k1.trans k2
  have ca := ca.keep k02 (by simp) (by simp)
  have cb := cb.keep k02 (by simp) (by simp)
  refine wN_mov (v := iv 0) rfl ?_
  refine wN_end ?_
  refine wD_seq ?_
  refine wD_lda (b := H.next) (o := 0) rfl c1.rd (show row 10 _ 0 = some (cvc sb cap bb n x) from rfl) ?_
  obtain ⟨La, ra, hxa⟩ := id ca.rb
  obtain ⟨H3, f3, k3⟩ := last_ok (kn := kn) (lo := H2.next) (H := H2) (bb := bb) (k := n) (cap := n) (ov := slv sb n cap) (x := x) (y := x) ra hxa (by omega) (by omega) (by omega)
  refine wD_callh (vs := [cvv sb cap bb n x]) rfl (by kernel_rfl) (callX_args f3) ?_
  have c1 := k3.cl c1 (by simp)
  have c2 := k3.cl c2 (by simp)
  have ca := ca.keep k3 (by simp) (by simp)
  have cb := cb.keep k3 (by simp) (by simp)
  have k02 := k02.trans k3
  have mk3 := k3.1
  refine wD_pur (v := .agg #[iv x.d1, iv x.d2]) rfl (by kernel_rfl) ?_
  refine wD_pur (v := iv x.d2) rfl (by kernel_rfl) ?_
  refine wD_lda (b := H1.next) (o := 0) rfl c2.rd (show row 10 _ 0 = some (cvc sb2 cap2 bb2 n y) from rfl) ?_
  obtain ⟨Lb, rb, hxb⟩ := id cb.rb
  obtain ⟨H4, f4, k4⟩ := last_ok (kn := kn) (lo := H3.next) (H := H3) (bb := bb2) (k := n) (cap := n) (ov := slv sb2 n cap2) (x := y) (y := y) rb hxb (by omega) (by omega) (by omega)
  refine wD_callh (vs := [cvv sb2 cap2 bb2 n y]) rfl (by kernel_rfl) (callX_args f4) ?_
  have c1 := k4.cl c1 (by simp)
  have c2 := k4.cl c2 (by simp)
  have ca := ca.keep k4 (by simp) (by simp)
  have cb := cb.keep k4 (by simp) (by simp)
  have k02 := k02.trans k4
  have mk4 := k4.1
  refine wD_pur (v := .agg #[iv y.d1, iv y.d2]) rfl (by kernel_rfl) ?_
  refine wD_pur (v := iv y.d2) rfl (by kernel_rfl) ?_
  obtain ⟨H5, f5, k5⟩ := cmp63_ok (kn := kn) (lo := H4.next) (H := H4) (x := x.d2) (y := y.d2)
  refine wD_callh (vs := [iv x.d2, iv y.d2]) rfl (by kernel_rfl) (callX_args f5) ?_
  have c1 := k5.cl c1 (by simp)
  have c2 := k5.cl c2 (by simp)
  have ca := ca.keep k5 (by simp) (by simp)
  have cb := cb.keep k5 (by simp) (by simp)
  have k02 := k02.trans k5
  have mk5 := k5.1
  refine wD_addo (b := H.next) (o := 0) rfl ?_
  refine wD_addo (b := H.next) (o := 0 + 2) rfl ?_
  refine wD_addo (b := H.next) (o := 0 + 2 + 0) rfl ?_
  refine wD_ld (b := H.next) (o := 0 + 2 + 0 + 1) (v := iv x.t2) rfl c1.rd rfl ?_
  refine wD_addo (b := H1.next) (o := 0) rfl ?_
  refine wD_addo (b := H1.next) (o := 0 + 2) rfl ?_
  refine wD_addo (b := H1.next) (o := 0 + 2 + 0) rfl ?_
  refine wD_ld (b := H1.next) (o := 0 + 2 + 0 + 1) (v := iv y.t2) rfl c2.rd rfl ?_
  obtain ⟨H6, f6, k6⟩ := cmp63_ok (kn := kn) (lo := H5.next) (H := H5) (x := x.t2) (y := y.t2)
  refine wD_callh (vs := [iv x.t2, iv y.t2]) rfl (by kernel_rfl) (callX_args f6) ?_
  have c1 := k6.cl c1 (by simp)
  have c2 := k6.cl c2 (by simp)
  have ca := ca.keep k6 (by simp) (by simp)
  have cb := cb.keep k6 (by simp) (by simp)
  have k02 := k02.trans k6
  have mk6 := k6.1
  refine wD_addo (b := H.next) (o := 0) rfl ?_
  refine wD_ld (b := H.next) (o := 0 + 0) (v := slv sb n cap) rfl c1.rd rfl ?_
  refine wD_addo (b := H1.next) (o := 0) rfl ?_
  refine wD_ld (b := H1.next) (o := 0 + 0) (v := slv sb2 n cap2) rfl c2.rd rfl ?_
  obtain ⟨H7, f7, k7⟩ := cmp65_ok (kn := kn) (lo := lo) (H := H6) (m := n) (cap := cap) (m2 := n) (cap2 := cap2) ca.ro.cl.rd cb.ro.cl.rd ca.ln cb.ln (by omega)
  refine wD_callf (vs := [slv sb n cap, slv sb2 n cap2]) rfl (callX_args f7) ?_
  have c1 := k7.cl c1 (by simp)
  have c2 := k7.cl c2 (by simp)
  have ca := ca.keep k7 (by simp) (by simp)
  have cb := cb.keep k7 (by simp) (by simp)
  have k02 := k02.trans k7
  have mk7 := k7.1
  have e8 := fun (m : Nat) (S : Rg) (d : Option Tmp) (p q r : Operand) (ty : TypeId) (s : String) => heap_build3 (lo := lo) (n := m) (S := S) (H := H7) (d := d) (x := p) (y := q) (z := r) (ty := ty) (p := s) (a := sg x.d2 y.d2) (b := sg x.t2 y.t2) (c := lexC us vs)
  refine wD_memh (k := .heavy) rfl (by kernel_rfl) (e8 _ _ _ _ _ _ _ _ rfl rfl rfl) (fun x e => by cases e) ?_
  generalize hH8 : H7.new _ = H8
  obtain ⟨k8, n8, c8⟩ := new_facts hH8
  have k02 := k02.trans k8
  obtain ⟨H9, f9, k9⟩ := or62_ok (kn := kn) (lo := lo) (H := H8) (m := 3) (cap := 3) c8.rd rfl (by omega)
  refine wD_callf (vs := [slv H7.next 3 3]) rfl (callX_args f9) ?_
  have k02 := k02.trans k9
  refine wD_mov (v := iv (cpB x y us vs)) rfl ?_
  refine wD_end (by repeat' first | exact True.intro | exact (fun h => h) | refine And.intro ?_ ?_ | (intro h; have h : (_ : Nat) = _ := h; omega)) ?_
  exact And.intro trivial (Exists.intro _ (And.intro rfl ⟨rfl, k02⟩))
set_option maxRecDepth 100000 in
theorem compareW_ok {sb cap bb sb2 cap2 bb2 n : Nat} {x y : Fs} {us vs : List Int} (h1 : 1 ≤ n) (h7 : n ≤ 7) (hlo : lo ≤ H.next) (ca : Cq H sb bb n x us) (cb : Cq H sb2 bb2 n y vs) : ∃ H', FnX Try.prog kn lo 59 [cvv sb cap bb n x, cvv sb2 cap2 bb2 n y] H (iv (cwB x y us vs)) H' ∧ Keep H H' [] := by
  have key := fnX_low (kn := kn) (lo := lo) (H := H) (args := [cvv sb cap bb n x, cvv sb2 cap2 bb2 n y]) (Q := fun w H' => w = iv (cwB x y us vs) ∧ Keep H H' []) Try.func59 B59 N59 Z59 L59 (by simp) ?_
  · obtain ⟨w, H', h, rfl, q⟩ := key; exact ⟨H', h, q⟩
  have hk := Keep.refl H []
  refine wN_seq ?_
  refine wN_box (v := cvv sb cap bb n x) rfl ?_
  intro H1 k1 n1 c1
  have c1 : Cl H1 H.next (cvc sb cap bb n x) := c1
  refine wN_box (v := cvv sb2 cap2 bb2 n y) rfl ?_
  intro H2 k2 n2 c2
  have c2 : Cl H2 H1.next (cvc sb2 cap2 bb2 n y) := c2
  have c1 := k2.cl c1 (by simp)
  have k02 := k1.trans k2
  have ca := ca.keep k02 (by simp) (by simp)
  have cb := cb.keep k02 (by simp) (by simp)
  refine wN_mov (v := iv 0) rfl ?_
  refine wN_end ?_
  refine wD_seq ?_
  refine wD_addo (b := H.next) (o := 0) rfl ?_
  refine wD_addo (b := H.next) (o := 0 + 2) rfl ?_
  refine wD_addo (b := H.next) (o := 0 + 2 + 0) rfl ?_
  refine wD_ld (b := H.next) (o := 0 + 2 + 0 + 1) (v := iv x.t2) rfl c1.rd rfl ?_
  refine wD_addo (b := H1.next) (o := 0) rfl ?_
  refine wD_addo (b := H1.next) (o := 0 + 2) rfl ?_
  refine wD_addo (b := H1.next) (o := 0 + 2 + 0) rfl ?_
  refine wD_ld (b := H1.next) (o := 0 + 2 + 0 + 1) (v := iv y.t2) rfl c2.rd rfl ?_
  obtain ⟨H6, f6, k6⟩ := cmp63_ok (kn := kn) (lo := H2.next) (H := H2) (x := x.t2) (y := y.t2)
  refine wD_callh (vs := [iv x.t2, iv y.t2]) rfl (by kernel_rfl) (callX_args f6) ?_
  have c1 := k6.cl c1 (by simp)
  have c2 := k6.cl c2 (by simp)
  have ca := ca.keep k6 (by simp) (by simp)
  have cb := cb.keep k6 (by simp) (by simp)
  have k02 := k02.trans k6
  have mk6 := k6.1
  refine wD_lda (b := H.next) (o := 0) rfl c1.rd (show row 10 _ 0 = some (cvc sb cap bb n x) from rfl) ?_
  refine wD_lda (b := H1.next) (o := 0) rfl c2.rd (show row 10 _ 0 = some (cvc sb2 cap2 bb2 n y) from rfl) ?_
  obtain ⟨H7, f7, k7⟩ := compare_ok (kn := kn) (lo := lo) (H := H6) (cap := cap) (cap2 := cap2) h1 h7 (by omega) ca cb
  refine wD_callf (vs := [cvv sb cap bb n x, cvv sb2 cap2 bb2 n y]) rfl (callX_args f7) ?_
  have c1 := k7.cl c1 (by simp)
  have c2 := k7.cl c2 (by simp)
  have ca := ca.keep k7 (by simp) (by simp)
  have cb := cb.keep k7 (by simp) (by simp)
  have k02 := k02.trans k7
  have mk7 := k7.1
  have e8 := fun (m : Nat) (S : Rg) (d : Option Tmp) (p q : Operand) (ty : TypeId) (s : String) => heap_build2 (lo := lo) (n := m) (S := S) (H := H7) (d := d) (x := p) (y := q) (ty := ty) (p := s) (a := sg x.t2 y.t2) (b := cpB x y us vs)
  refine wD_memh (k := .heavy) rfl (by kernel_rfl) (e8 _ _ _ _ _ _ _ rfl rfl) (fun x e => by cases e) ?_
  generalize hH8 : H7.new _ = H8
  obtain ⟨k8, n8, c8⟩ := new_facts hH8
  have k02 := k02.trans k8
  obtain ⟨H9, f9, k9⟩ := or62_ok (kn := kn) (lo := lo) (H := H8) (m := 2) (cap := 2) c8.rd rfl (by omega)
  refine wD_callf (vs := [slv H7.next 2 2]) rfl (callX_args f9) ?_
  have k02 := k02.trans k9
  refine wD_mov (v := iv (cwB x y us vs)) rfl ?_
  refine wD_end (by repeat' first | exact True.intro | exact (fun h => h) | refine And.intro ?_ ?_ | (intro h; have h : (_ : Nat) = _ := h; omega)) ?_
  exact And.intro trivial (Exists.intro _ (And.intro rfl ⟨rfl, k02⟩))
theorem yes58_ok {v : Value} (hv : v.cells.toList.all one = true) : ∃ H', FnX Try.prog kn lo 58 [v] H (.bool true) H' ∧ Keep H H' [] := by
  have key := fnX_low (kn := kn) (lo := lo) (H := H) (args := [v]) (Q := fun w H' => w = .bool true ∧ Keep H H' []) Try.func58 B58 N58 Z58 L58 (by simp) ?_
  · obtain ⟨w, H', h, rfl, q⟩ := key; exact ⟨H', h, q⟩
  refine wN_seq ?_
  refine wN_box (v := v) rfl ?_
  intro H1 k1 n1 c1
  refine wN_mov (v := .bool false) rfl ?_
  refine wN_end ?_
  refine wN_seq ?_
  refine wN_mov (v := .bool true) rfl ?_
  refine wN_end ?_
  exact And.intro trivial (Exists.intro _ (And.intro rfl ⟨rfl, k1⟩))
end
end Go.Ax

/-
  Flood: the courses of all orders, one behind the other (46, 60) (written by program).
-/
namespace Go.Ax
open Go Go.RowKit Go.Proofs

noncomputable abbrev asg60 : Code := at_ Try.f60 [1, 1, 0, 0]
noncomputable abbrev body60 : Code := at_ Try.f60 [1, 1, 0, 1]
abbrev S60 (bh b2 : Nat) : Rg := [(1, pt bh), (2, pt b2)]
def zi (o : List Nat) : List Int := o.map fun n : Nat => (n : Int)
theorem no_zi (o : List Nat) : no (zi o) = o := by
  unfold no zi; rw [List.map_map]
  have : (Int.toNat ∘ fun n : Nat => (n : Int)) = id := by funext n; simp
  rw [this, List.map_id]
theorem zi_len (o : List Nat) : (zi o).length = o.length := by simp [zi]
theorem zi_ord {o : List Nat} {n : Nat} (h1 : o.length = n) (h2 : ∀ x ∈ o, x < n) (h3 : o.Nodup) : IsOrd (zi o) n where
  len := by rw [zi_len]; exact h1
  rng := by
    intro x hx
    unfold zi at hx
    obtain ⟨y, hy, rfl⟩ := List.mem_map.mp hx
    have := h2 y hy
    omega
  nd := by
    unfold zi
    rw [List.Nodup, List.pairwise_map]
    exact h3.imp fun h e => h (by omega)
structure I60 (g : Fh) (f bh l : Nat) (ka : Option Addr) (kc : Nat) (J : List (List Nat) → Hp → Prop) (h : Nat) (s : List (List Nat)) (H' : Hp) : Prop where
  j : J s H'
  hat : g.At f H'
  hks : Sl H' ka g.bn kc (spc g.ws)
  cb : Rd H' bh (g.vw ka kc)
  cy : Rd H' h [.func (.yield l) #[] #[]]
  cn : Rd H' (h + 1) [iv (g.bn : Int)]
  lp : Lp Try.prog H' (h + 3) .ready none 26 (S60 bh h) [11] asg60 body60 (h + 2)
  dfr : H'.t.get (h + 2) = some (.dfr (some []))
  ll : h + 4 ≤ H'.next
/-- what the iterator asks of the loop that it serves -/
structure U60 (g : Fh) (f fy bh h : Nat) (ka : Option Addr) (J : List (List Nat) → Hp → Prop) (Wy : List Nat) : Prop where
  hf : f ≤ fy
  hfh : fy ≤ h
  hb : bh < fy
  hk : ∀ x, ka = some ⟨x, 0, none⟩ → x < fy
  hW : ∀ b ∈ Wy, fy ≤ b ∧ b < h
  jm : ∀ s H1 H2 W, J s H1 → Keep H1 H2 W → (∀ b ∈ W, h ≤ b ∧ b < h + 5) → J s H2
  skip : ∀ o s H1, J (o :: s) H1 → g.can o (g.bn - 1) = false → J s H1
theorem I60.keep {g : Fh} {f fy bh l h : Nat} {ka : Option Addr} {kc : Nat} {J : List (List Nat) → Hp → Prop} {Wy : List Nat} (u : U60 g f fy bh h ka J Wy) {s : List (List Nat)} {H1 H2 : Hp} (i : I60 g f bh l ka kc J h s H1) {W : List Nat} (k : Keep H1 H2 W) (hW : ∀ b ∈ W, b = h + 4) : I60 g f bh l ka kc J h s H2 := by
  obtain ⟨hf, hfh, hb, hk, _, jm, _⟩ := u
  have nw : ∀ x, x < h + 4 → x ∉ W := fun x hx q => by have := hW x q; omega
  have ll := i.ll
  exact ⟨jm _ _ _ _ i.j k (fun b q => by have := hW b q; omega), i.hat.keep k (fun x q => by have := hW x q; omega), k.sl i.hks (fun x e => nw x (by have := hk x e; omega)), k.rd i.cb (nw _ (by omega)), k.rd i.cy (nw _ (by omega)), k.rd i.cn (nw _ (by omega)), i.lp.keep k (by omega) (nw _ (by omega)), by rw [k.2 _ (by omega) (nw _ (by omega))]; exact i.dfr, Nat.le_trans i.ll k.1⟩
section
variable {kn : FuncId → Option Bool} {lo : Nat} {H : Hp}

set_option maxRecDepth 100000 in
theorem round60 {g : Fh} {f fy bh l h : Nat} {ka : Option Addr} {kc : Nat} {J : List (List Nat) → Hp → Prop} {Wy : List Nat} (u : U60 g f fy bh h ka J Wy) (v : g.Vd) (hlo : lo ≤ h)
    (step : ∀ o s H1 sb bb, o.length = g.bn → (∀ x ∈ o, x < g.bn) → o.Nodup → g.can o (g.bn - 1) = true → J (o :: s) H1 → h + 5 ≤ sb → h + 5 ≤ bb → h + 5 ≤ H1.next → Cq H1 sb bb g.bn (g.st o (g.bn - 1)) (zi o) → ∃ H', CallsX Try.prog kn lo (.fn (.yield l) #[]) [cvv sb g.bn bb g.bn (g.st o (g.bn - 1))] H1 (.bool true) H' ∧ Keep H1 H' Wy ∧ J s H')
    {o : List Nat} {s : List (List Nat)} {b : Nat} (ho1 : o.length = g.bn) (ho2 : ∀ x ∈ o, x < g.bn) (ho3 : o.Nodup) (i : I60 g f bh l ka kc J h (o :: s) H) (hb : h + 4 < b) (cb : Sc H b (nts o)) :
    ∃ t H', CallsX Try.prog kn lo (.fn (.yield (h + 3)) #[]) [slv b g.bn g.bn] H (.bool t) H' ∧ (∀ cs, Sc H (h + 4) cs → Sc H' (h + 4) cs) ∧ (bif t then I60 g f bh l ka kc J h s H' else False) := by
  have L1 : low Try.prog 26 asg60 = some R60x1 := N60 ▸ L60x1
  have L2 : low Try.prog 26 body60 = some R60x2 := N60 ▸ L60x2
  obtain ⟨hf, hfh, hbh, hk, hW, jm, skip⟩ := u
  have lb := cb.lt
  refine yield_ok (kn := kn) (P := Try.prog) (lo := lo) (S1 := (11, slv b g.bn g.bn) :: S60 bh h) (args := [slv b g.bn g.bn]) (Q := fun t H' => (∀ cs, Sc H (h + 4) cs → Sc H' (h + 4) cs) ∧ (bif t then I60 g f bh l ka kc J h s H' else False)) i.lp (by omega) (by rfl) rfl (wC_sound true _ L1 ?_)
  refine wN_reg ?_
  refine wN_mov (v := slv b g.bn g.bn) rfl ?_
  refine wN_end ?_
  refine And.intro trivial (And.intro i.lp ?_)
  intro H4 s4
  have k4 := s4.keep
  have lp4 := s4.lp i.lp
  have hn4 : H4.next = H.next := s4.1
  have ll := i.ll
  have nl : ∀ x, x ≠ h + 3 → x ∉ [h + 3] := fun x hx => by simpa using hx
  have hat4 := i.hat.keep k4 (fun x q => by simp at q; omega)
  have ks4 := k4.sl i.hks (fun x e => nl _ (by have := hk x e; omega))
  have cb4 := k4.rd i.cb (nl _ (by omega))
  have cy4 := k4.rd i.cy (nl _ (by omega))
  have cn4 := k4.rd i.cn (nl _ (by omega))
  have df4 : H4.t.get (h + 2) = some (.dfr (some [])) := by rw [k4.2 _ (by omega) (nl _ (by omega))]; exact i.dfr
  have so4 := k4.sc cb (nl _ (by omega))
  have hio := zi_ord ho1 ho2 ho3
  rw [nts_ints] at so4
  have so4 : Sc H4 b (ints (zi o)) := so4
  refine wC_sound true _ L2 ?_
  refine wN_seq ?_
  refine wN_lda (b := bh) (o := 0) rfl cb4 (show row 6 _ 0 = some (g.vw ka kc) from rfl) ?_
  refine wN_mov (v := slv b g.bn g.bn) rfl ?_
  obtain ⟨w5, H5, f5, k5, hor⟩ := follow_ok (kn := kn) (lo := lo) (H := H4) (g := g) (f := f) (cap := g.bn) hat4 v ks4 hio so4.fx (Nat.le_refl _) (by omega)
  refine wN_callf (vs := [.agg (g.vw ka kc).toArray, slv b g.bn g.bn]) rfl (callX_args f5) ?_
  rw [no_zi] at hor
  have m5 := k5.1
  rcases hor with ⟨hcan, bb, rfl, hbb, cbb⟩ | ⟨hcan, rfl⟩
  · refine wN_mov (v := .tuple #[cvv b g.bn bb g.bn (g.st o (g.bn - 1)), iv 0]) rfl ?_
    refine wN_pur (v := cvv b g.bn bb g.bn (g.st o (g.bn - 1))) rfl (by kernel_rfl) ?_
    refine wN_pur (v := iv 0) rfl (by kernel_rfl) ?_
    refine wN_alc ?_
    intro H6 k6 n6 c6
    refine wN_sta (b := H5.next) (o := 0) (v := cvv b g.bn bb g.bn (g.st o (g.bn - 1))) rfl rfl c6 (by omega) rfl rfl (by simp) ?_
    intro H7 k7 n7 c7
    have c7 : Cl H7 H5.next (cvc b g.bn bb g.bn (g.st o (g.bn - 1))) := c7
    refine wN_mov (v := iv 0) rfl ?_
    refine wN_end ?_
    have k57 : Keep H5 H7 [] := k6.new k7 (fun b hb => by simp at hb; omega)
    have k47 := k5.trans k57
    have m7 := k47.1
    have kH7 : Keep H H7 [h + 3] := k4.trans (k47.mono (by simp))
    have jH7 := jm _ _ _ _ i.j kH7 (fun x q => by simp at q; omega)
    have cq : Cq H7 b bb g.bn (g.st o (g.bn - 1)) (zi o) := ⟨k47.sc so4 (by simp), ⟨_, (k57.sc cbb (by simp)).cl.rd, Fh.fs_at (by have := v.n; omega)⟩, by rw [zi_len]; exact ho1⟩
    obtain ⟨H8, f8, k8, j8⟩ := step o s H7 b bb ho1 ho2 ho3 hcan jH7 (by omega) (by omega) (by omega) cq
    have m8 := k8.1
    have cy7 := k47.rd cy4 (by simp)
    refine wN_seq ?_
    refine wN_mov (v := iv 0) rfl ?_
    refine wN_eql (a := 0) rfl rfl ?_
    refine wN_mov (v := .bool true) rfl ?_
    refine wN_g rfl (wN_ld (b := h) (o := 0) (v := .func (.yield l) #[] #[]) rfl cy7 rfl ?_)
    refine wN_g rfl (wN_lda (b := H5.next) (o := 0) rfl c7.rd (show row 10 _ 0 = some (cvc b g.bn bb g.bn (g.st o (g.bn - 1))) from rfl) ?_)
    refine wN_g rfl (wN_callf (vs := [cvv b g.bn bb g.bn (g.st o (g.bn - 1))]) rfl f8 ?_)
    refine wN_g rfl (wN_pur (v := .bool false) rfl rfl ?_)
    refine wN_pur (v := .bool false) rfl rfl ?_
    refine wN_end ?_
    refine condF ?_
    have ny : ∀ x, (x < fy ∨ h ≤ x) → x ∉ Wy := fun x hx q => by have := hW x q; omega
    refine And.intro ((lp4.keep k47 (by omega) (by simp)).keep k8 (by omega) (ny _ (by omega))) ?_
    intro H9 s9
    have k9 := s9.keep
    have hn9 : H9.next = H8.next := s9.1
    have lp8 := (lp4.keep k47 (by omega) (by simp)).keep k8 (by omega) (ny _ (by omega))
    refine ⟨fun cs q => k9.sc (k8.sc (k47.sc (k4.sc q (nl _ (by omega))) (by simp)) (ny _ (by omega))) (nl _ (by omega)), ?_⟩
    exact ⟨jm _ _ _ _ j8 k9 (fun x q => by simp at q; omega), ((hat4.keep k47 (by simp)).keep k8 (fun x q => by have := hW x q; omega)).keep k9 (fun x q => by simp at q; omega),
      k9.sl (k8.sl (k47.sl0 ks4) (fun x e => ny _ (by have := hk x e; omega))) (fun x e => nl _ (by have := hk x e; omega)), k9.rd (k8.rd (k47.rd cb4 (by simp)) (ny _ (by omega))) (nl _ (by omega)), k9.rd (k8.rd cy7 (ny _ (by omega))) (nl _ (by omega)), k9.rd (k8.rd (k47.rd cn4 (by simp)) (ny _ (by omega))) (nl _ (by omega)), s9.lp lp8, by rw [k9.2 _ (by omega) (nl _ (by omega)), k8.2 _ (by omega) (ny _ (by omega)), k47.2 _ (by omega) (by simp)]; exact df4, by omega⟩
  · refine wN_mov (v := .tuple #[.agg zc78.toArray, iv 4]) rfl ?_
    refine wN_pur (v := .agg zc78.toArray) rfl (by kernel_rfl) ?_
    refine wN_pur (v := iv 4) rfl (by kernel_rfl) ?_
    refine wN_alc ?_
    intro H6 k6 n6 c6
    refine wN_sta (b := H5.next) (o := 0) (v := .agg zc78.toArray) rfl rfl c6 (by omega) rfl rfl (by simp) ?_
    intro H7 k7 n7 c7
    refine wN_mov (v := iv 4) rfl ?_
    refine wN_end ?_
    have k57 : Keep H5 H7 [] := k6.new k7 (fun b hb => by simp at hb; omega)
    have k47 := k5.trans k57
    have m7 := k47.1
    have kH7 : Keep H H7 [h + 3] := k4.trans (k47.mono (by simp))
    have jH7 := skip _ _ _ (jm _ _ _ _ i.j kH7 (fun x q => by simp at q; omega)) hcan
    refine wN_seq ?_
    refine wN_mov (v := iv 4) rfl ?_
    refine wN_b_eql (a := 4) (b := 0) rfl rfl ?_
    intro t ht
    have ht : t = false := by rw [← ht]; rfl
    subst ht
    refine wN_mov (v := .bool false) rfl ?_
    refine wN_gs rfl ?_
    refine wN_gs rfl ?_
    refine wN_gs rfl ?_
    refine wN_gs rfl ?_
    refine wN_pur (v := .bool false) rfl rfl ?_
    refine wN_end ?_
    refine condF ?_
    have lp8 := lp4.keep k47 (by omega) (by simp)
    refine And.intro lp8 ?_
    intro H9 s9
    have k9 := s9.keep
    have hn9 : H9.next = H7.next := s9.1
    refine ⟨fun cs q => k9.sc (k47.sc (k4.sc q (nl _ (by omega))) (by simp)) (nl _ (by omega)), ?_⟩
    exact ⟨jm _ _ _ _ jH7 k9 (fun x q => by simp at q; omega), (hat4.keep k47 (by simp)).keep k9 (fun x q => by simp at q; omega),
      k9.sl (k47.sl0 ks4) (fun x e => nl _ (by have := hk x e; omega)), k9.rd (k47.rd cb4 (by simp)) (nl _ (by omega)), k9.rd (k47.rd cy4 (by simp)) (nl _ (by omega)), k9.rd (k47.rd cn4 (by simp)) (nl _ (by omega)), s9.lp lp8, by rw [k9.2 _ (by omega) (nl _ (by omega)), k47.2 _ (by omega) (by simp)]; exact df4, by omega⟩
end
end Go.Ax

/-
  Flood: courses (46) and its iterator (60) (written by program).
-/
namespace Go.Ax
open Go Go.RowKit Go.Proofs

section
variable {kn : FuncId → Option Bool} {lo : Nat} {H : Hp}

theorem courses_ok {g : Fh} {ka : Option Addr} {kc : Nat} : ∃ H', FnX Try.prog kn lo 46 [.agg (g.vw ka kc).toArray] H (.func (.func 60) #[] #[pt H.next]) H' ∧ Keep H H' [] ∧ H'.next = H.next + 1 ∧ Rd H' H.next (g.vw ka kc) := by
  have key := fnX_low (kn := kn) (lo := lo) (H := H) (args := [.agg (g.vw ka kc).toArray]) (Q := fun w H' => w = .func (.func 60) #[] #[pt H.next] ∧ Keep H H' [] ∧ H'.next = H.next + 1 ∧ Rd H' H.next (g.vw ka kc)) Try.func46 B46 N46 Z46 L46 (by simp) ?_
  · obtain ⟨w, H', h, rfl, q⟩ := key; exact ⟨H', h, q⟩
  refine wN_seq ?_
  refine wN_box (v := .agg (g.vw ka kc).toArray) rfl ?_
  intro H1 kH1 nH1 cH1
  have c1 : Cl H1 H.next (g.vw ka kc) := cH1
  refine wN_mov (v := .nilFunc) rfl ?_
  refine wN_end ?_
  refine wN_seq ?_
  refine wN_pur (v := .func (.func 60) #[] #[pt H.next]) rfl (by kernel_rfl) ?_
  refine wN_mov (v := .func (.func 60) #[] #[pt H.next]) rfl ?_
  refine wN_end ?_
  exact And.intro trivial (Exists.intro _ (And.intro rfl ⟨rfl, kH1, nH1, c1.rd⟩))
set_option maxRecDepth 100000 in
theorem iter60_ok {g : Fh} {f fy bh l : Nat} {ka : Option Addr} {kc : Nat} {J : List (List Nat) → Hp → Prop} {Wy : List Nat} (u : U60 g f fy bh H.next ka J Wy) (v : g.Vd) (hat : g.At f H) (hks : Sl H ka g.bn kc (spc g.ws)) (hbh : Rd H bh (g.vw ka kc)) (hlo : lo ≤ H.next) (j0 : J (perms g.bn) H)
    (step : ∀ o s H1 sb bb, o.length = g.bn → (∀ x ∈ o, x < g.bn) → o.Nodup → g.can o (g.bn - 1) = true → J (o :: s) H1 → H.next + 5 ≤ sb → H.next + 5 ≤ bb → H.next + 5 ≤ H1.next → Cq H1 sb bb g.bn (g.st o (g.bn - 1)) (zi o) → ∃ H', CallsX Try.prog kn lo (.fn (.yield l) #[]) [cvv sb g.bn bb g.bn (g.st o (g.bn - 1))] H1 (.bool true) H' ∧ Keep H1 H' Wy ∧ J s H') :
    ∃ H', FnX Try.prog kn lo 60 [.func (.yield l) #[] #[], pt bh] H unit H' ∧ J [] H' := by
  have key := fnX_lowR (kn := kn) (lo := lo) (H := H) (args := [.func (.yield l) #[] #[], pt bh]) (Q := fun w H' => w = unit ∧ J [] H') Try.func60 B60 N60 Z60 L60 (by simp) ?_
  · obtain ⟨w, H', h, rfl, q⟩ := key; exact ⟨H', h, q⟩
  have vn := v.n
  have hbl := hbh.lt
  intro y hy
  refine TriR.lowR hy ?_
  refine wN_reg ?_
  refine wN_box (v := .func (.yield l) #[] #[]) rfl ?_
  intro H1 k1 n1 c1
  have c1 : Cl H1 H.next [.func (.yield l) #[] #[]] := c1
  refine wN_end ?_
  intro y hy
  refine TriR.lowR hy ?_
  refine wN_reg ?_
  refine wN_addo (b := bh) (o := 0) rfl ?_
  refine wN_addo (b := bh) (o := 0 + 0) rfl ?_
  refine wN_ld (b := bh) (o := 0 + 0 + 0) (v := .slice g.ba g.bn g.bcap) rfl (k1.rd hbh (by simp)) rfl ?_
  refine wN_len (m := g.bn) rfl ?_
  obtain ⟨H2, f2, k2, n2, r2⟩ := orders_ok (kn := kn) (lo := lo) (H := H1) (n := g.bn)
  refine wN_callf (vs := [iv (g.bn : Int)]) rfl (callX_args f2) ?_
  refine wN_end ?_
  intro y hy
  refine TriR.lowB hy ?_
  rw [E60_1]
  refine TriR.range rfl ?_
  intro H3 k3 n3 hdf hlp
  have e2 : H2.next = H.next + 2 := by omega
  have hlp : Lp Try.prog H3 (H2.next + 1) .ready none 26 (S60 bh H.next) [11] asg60 body60 H2.next := hlp.weak ⟨rfl, rfl, trivial⟩
  rw [e2] at hdf hlp n3
  rw [n1] at r2
  have k03 : Keep H H3 [] := (k1.trans k2).trans k3
  have k13 : Keep H1 H3 [] := k2.trans k3
  obtain ⟨hf, hfh, hb, hk, hW, jm, skip⟩ := id u
  have i0 : I60 g f bh l ka kc J H.next (perms g.bn) H3 := ⟨jm _ _ _ _ j0 k03 (by simp), hat.keep k03 (by simp), k03.sl0 hks, k03.rd hbh (by simp), (k13.cl c1 (by simp)).rd, k3.rd r2 (by simp), hlp, hdf, by omega⟩
  obtain ⟨H4, f4, hend⟩ := iter73_ok (kn := kn) (lo := lo) (H := H3) (n := g.bn) (l := H.next + 3) (bc := H.next + 1) (by omega) (by omega) (by omega) i0.cn (fun s H' => I60 g f bh l ka kc J H.next s H') (fun _ _ => False)
    (fun H1' kk => i0.keep u kk (by simp)) (fun s H1' i => i.cn) (fun s H1' H2' i kk => i.keep u kk (fun b q => by simp at q; omega))
    (fun o s H1' b ho1 ho2 ho3 i hb sb => by rw [n3] at hb ⊢; exact round60 u v hlo step ho1 ho2 ho3 i hb sb)
  have f4 : FnX Try.prog kn lo 73 [.func (.yield (H2.next + 1)) #[] #[], pt (H.next + 1)] H3 unit H4 := by rw [e2]; exact f4
  refine Exists.intro _ (Exists.intro H4 (And.intro (callX_func rfl (by rw [n1]; simpa using f4)) ?_))
  rcases hend with i4 | ⟨_, q⟩
  · have lp4 : Lp Try.prog H4 (H2.next + 1) .ready none 26 (S60 bh H.next) [11] asg60 body60 H2.next := by rw [e2]; exact i4.lp
    refine ⟨.ready, none, _, lp4, by simp, ?_⟩
    intro H5 s5
    have k5 := s5.keep
    have hn5 : H5.next = H4.next := s5.1
    have ll := i4.ll
    have d5 : H5.t.get H2.next = some (.dfr (some [])) := by rw [k5.2 _ (by omega) (by simp), e2]; exact i4.dfr
    refine And.intro trivial (Or.inr ⟨H2.next, rfl, by omega, d5, fun H6 hn6 hs6 => ?_⟩)
    have k6 : Keep H5 H6 [H2.next] := ⟨by omega, fun b _ hb => hs6 b (by simpa using hb)⟩
    exact ⟨[], rfl, rfl, jm _ _ _ _ (jm _ _ _ _ i4.j k5 (fun b q => by simp at q; omega)) k6 (fun b q => by simp at q; omega)⟩
  · exact q.elim
end
end Go.Ax

/-
  Flood: the best one (45) (written by program).
-/
namespace Go.Ax
open Go Go.RowKit Go.Proofs

noncomputable abbrev asg45 : Code := at_ Try.f45 [1, 1, 1, 0, 1, 0, 0]
noncomputable abbrev body45 : Code := at_ Try.f45 [1, 1, 1, 0, 1, 0, 1]
abbrev S45 (h : Nat) : Rg := [(4, pt h), (5, pt (h + 1)), (6, pt (h + 2)), (8, pt (h + 3)), (9, pt (h + 4))]
/-- the better one of what was found and the next one -/
def pick (p : List Nat → Bool) (cf : List Nat → List Nat → Int) (a : Option (List Nat)) (o : List Nat) : Option (List Nat) :=
  match a with
  | none => bif p o then some o else none
  | some b => bif p o && decide (cf o b < 0) then some o else some b
def Fh.bst (g : Fh) (p : List Nat → Bool) (cf : List Nat → List Nat → Int) (a : Option (List Nat)) (s : List (List Nat)) : Option (List Nat) := (s.filter fun o => g.can o (g.bn - 1)).foldl (pick p cf) a
abbrev Fh.sl (g : Fh) (o : List Nat) : Fs := g.st o (g.bn - 1)
def Fnd (g : Fh) (h m : Nat) (H : Hp) : Option (List Nat) → Prop
  | none => Cl H (h + 3) zc78
  | some o => ∃ sb bb, m ≤ sb ∧ m ≤ bb ∧ Cl H (h + 3) (cvc sb g.bn bb g.bn (g.sl o)) ∧ Cq H sb bb g.bn (g.sl o) (zi o) ∧ o.length = g.bn ∧ (∀ x ∈ o, x < g.bn) ∧ o.Nodup ∧ g.can o (g.bn - 1) = true
structure J45 (g : Fh) (fv cv : Value) (p : List Nat → Bool) (cf : List Nat → List Nat → Int) (H0 : Hp) (s : List (List Nat)) (H' : Hp) : Prop where
  acc : ∃ a, g.bst p cf a s = g.bst p cf none (perms g.bn) ∧ Fnd g H0.next (H0.next + 12) H' a ∧ Cl H' (H0.next + 4) [.bool a.isSome]
  c4 : Rd H' H0.next [fv]
  c5 : Rd H' (H0.next + 1) [cv]
  c6 : Cl H' (H0.next + 2) zc78
  lp : Lp Try.prog H' (H0.next + 6) .ready none 30 (S45 H0.next) [12] asg45 body45 (H0.next + 5)
  dfr : H'.t.get (H0.next + 5) = some (.dfr (some []))
  ll : H0.next + 7 ≤ H'.next
  kp : Keep H0 H' []
theorem Fnd.keep {g : Fh} {h m : Nat} {H H1 : Hp} {a : Option (List Nat)} {W : List Nat} (q : Fnd g h m H a) (k : Keep H H1 W) (h1 : h + 3 ∉ W) (h2 : ∀ b ∈ W, b < m) : Fnd g h m H1 a := by
  cases a with
  | none => exact k.cl q h1
  | some o =>
    obtain ⟨sb, bb, e1, e2, c, cq, r⟩ := q
    exact ⟨sb, bb, e1, e2, k.cl c h1, cq.keep k (fun x => by have := h2 _ x; omega) (fun x => by have := h2 _ x; omega), r⟩
theorem J45.keep {g : Fh} {fv cv : Value} {p : List Nat → Bool} {cf : List Nat → List Nat → Int} {H0 : Hp} {s : List (List Nat)} {H1 H2 : Hp} (j : J45 g fv cv p cf H0 s H1) {W : List Nat} (k : Keep H1 H2 W) (hW : ∀ b ∈ W, H0.next + 7 ≤ b ∧ b < H0.next + 12) : J45 g fv cv p cf H0 s H2 := by
  have nw : ∀ x, x < H0.next + 7 → x ∉ W := fun x hx q => by have := hW x q; omega
  have ll := j.ll
  obtain ⟨a, e, fd, fo⟩ := j.acc
  exact ⟨⟨a, e, fd.keep k (nw _ (by omega)) (fun b q => (hW b q).2), k.cl fo (nw _ (by omega))⟩, k.rd j.c4 (nw _ (by omega)), k.rd j.c5 (nw _ (by omega)), k.cl j.c6 (nw _ (by omega)), j.lp.keep k (by omega) (nw _ (by omega)), by rw [k.2 _ (by omega) (nw _ (by omega))]; exact j.dfr, Nat.le_trans j.ll k.1, j.kp.new k (fun b q => .inr (by have := hW b q; omega))⟩
theorem bst_skip {g : Fh} {p : List Nat → Bool} {cf : List Nat → List Nat → Int} {a : Option (List Nat)} {o : List Nat} {s : List (List Nat)} (h : g.can o (g.bn - 1) = false) : g.bst p cf a (o :: s) = g.bst p cf a s := by
  unfold Fh.bst; rw [List.filter_cons_of_neg (by simp [h])]
theorem bst_step {g : Fh} {p : List Nat → Bool} {cf : List Nat → List Nat → Int} {a : Option (List Nat)} {o : List Nat} {s : List (List Nat)} (h : g.can o (g.bn - 1) = true) : g.bst p cf a (o :: s) = g.bst p cf (pick p cf a o) s := by
  unfold Fh.bst; rw [List.filter_cons_of_pos (by simp [h])]; rfl
/-- what is asked of the two functions -/
structure Fits (kn : FuncId → Option Bool) (lo : Nat) (g : Fh) (f1 : Fn) (a1 : Array Value) (p : List Nat → Bool) : Prop where
  h : ∀ H o sb bb, lo ≤ H.next → o.length = g.bn → Cq H sb bb g.bn (g.sl o) (zi o) → ∃ H', CallsX Try.prog kn lo (.fn f1 #[]) (a1.toList ++ [cvv sb g.bn bb g.bn (g.sl o)]) H (.bool (p o)) H' ∧ Keep H H' []
structure Cmps (kn : FuncId → Option Bool) (lo : Nat) (g : Fh) (f2 : Fn) (a2 : Array Value) (cf : List Nat → List Nat → Int) : Prop where
  h : ∀ H o o2 sb bb sb2 bb2, lo ≤ H.next → Cq H sb bb g.bn (g.sl o) (zi o) → Cq H sb2 bb2 g.bn (g.sl o2) (zi o2) → ∃ H', CallsX Try.prog kn lo (.fn f2 #[]) (a2.toList ++ [cvv sb g.bn bb g.bn (g.sl o), cvv sb2 g.bn bb2 g.bn (g.sl o2)]) H (iv (cf o o2)) H' ∧ Keep H H' []
section
variable {kn : FuncId → Option Bool} {lo : Nat} {H : Hp}

set_option maxRecDepth 100000 in
theorem round45 {g : Fh} {f1 f2 : Fn} {a1 a2 : Array Value} {p : List Nat → Bool} {cf : List Nat → List Nat → Int} {H0 : Hp} (hf : Fits kn lo g f1 a1 p) (hc : Cmps kn lo g f2 a2 cf) (hlo : lo ≤ H0.next) {o : List Nat} {s : List (List Nat)} {sb bb : Nat} (ho1 : o.length = g.bn) (ho2 : ∀ x ∈ o, x < g.bn) (ho3 : o.Nodup) (hcan : g.can o (g.bn - 1) = true)
    (j : J45 g (.func f1 a1 #[]) (.func f2 a2 #[]) p cf H0 (o :: s) H) (hsb : H0.next + 12 ≤ sb) (hbb : H0.next + 12 ≤ bb) (hnx : H0.next + 12 ≤ H.next) (cq : Cq H sb bb g.bn (g.sl o) (zi o)) :
    ∃ H', CallsX Try.prog kn lo (.fn (.yield (H0.next + 6)) #[]) [cvv sb g.bn bb g.bn (g.sl o)] H (.bool true) H' ∧ Keep H H' [H0.next + 3, H0.next + 4, H0.next + 6] ∧ J45 g (.func f1 a1 #[]) (.func f2 a2 #[]) p cf H0 s H' := by
  have L1 : low Try.prog 30 asg45 = some R45x1 := N45 ▸ L45x1
  have L2 : low Try.prog 30 body45 = some R45x2 := N45 ▸ L45x2
  have key := yield_ok (kn := kn) (P := Try.prog) (lo := lo) (S1 := (12, cvv sb g.bn bb g.bn (g.sl o)) :: S45 H0.next) (args := [cvv sb g.bn bb g.bn (g.sl o)]) (Q := fun t H' => t = true ∧ Keep H H' [H0.next + 3, H0.next + 4, H0.next + 6] ∧ J45 g (.func f1 a1 #[]) (.func f2 a2 #[]) p cf H0 s H') j.lp (by omega) (by rfl) rfl (wC_sound true _ L1 ?_)
  · obtain ⟨t, H', h, rfl, q⟩ := key; exact ⟨H', h, q⟩
  have ll := j.ll
  refine wN_reg ?_
  refine wN_alc ?_
  intro H1 k1 n1 c1
  refine wN_sta (b := H.next) (o := 0) (v := cvv sb g.bn bb g.bn (g.sl o)) rfl rfl c1 (by omega) rfl rfl (by simp) ?_
  intro H2 k2 n2 c2
  have c2 : Cl H2 H.next (cvc sb g.bn bb g.bn (g.sl o)) := c2
  refine wN_end ?_
  have k02 : Keep H H2 [] := k1.new k2 (fun b hb => by simp at hb; omega)
  have m2 := k02.1
  refine And.intro trivial (And.intro (j.lp.keep k02 (by omega) (by simp)) ?_)
  intro H3 s3
  have k3 := s3.keep
  have hn3 : H3.next = H2.next := s3.1
  have lp3 := s3.lp (j.lp.keep k02 (by omega) (by simp))
  have nl : ∀ x, x ≠ H0.next + 6 → x ∉ [H0.next + 6] := fun x hx => by simpa using hx
  obtain ⟨a, ea, fd, fo⟩ := j.acc
  have k03 : Keep H H3 [H0.next + 6] := (k02.mono (by simp)).trans k3
  have fd := fd.keep k03 (nl _ (by omega)) (fun b q => by simp at q; omega)
  have fo := k03.cl fo (nl _ (by omega))
  have c4 := k03.rd j.c4 (nl _ (by omega))
  have c5 := k03.rd j.c5 (nl _ (by omega))
  have c6 := k03.cl j.c6 (nl _ (by omega))
  have df := (show H3.t.get (H0.next + 5) = some (.dfr (some [])) by rw [k03.2 _ (by omega) (nl _ (by omega))]; exact j.dfr)
  have c10 := k3.cl c2 (nl _ (by omega))
  have cq := cq.keep k03 (nl _ (by omega)) (nl _ (by omega))
  have kp := j.kp.new k03 (fun b q => .inr (by simp at q; omega))
  rw [bst_step hcan] at ea
  refine wC_sound true _ L2 ?_
  refine wN_seq ?_
  refine wN_ld (b := H0.next) (o := 0) (v := .func f1 a1 #[]) rfl c4 rfl ?_
  refine wN_lda (b := H.next) (o := 0) rfl c10.rd (show row 10 _ 0 = some (cvc sb g.bn bb g.bn (g.sl o)) from rfl) ?_
  obtain ⟨H4, f4, k4⟩ := hf.h H3 o sb bb (by omega) ho1 cq
  refine wN_callf (vs := a1.toList ++ [cvv sb g.bn bb g.bn (g.sl o)]) rfl f4 ?_
  have m4 := k4.1
  have k04 := k03.trans (k4.mono (by simp))
  have fd := fd.keep k4 (by simp) (by simp)
  have fo := k4.cl fo (by simp)
  have c4 := k4.rd c4 (by simp)
  have c5 := k4.rd c5 (by simp)
  have c6 := k4.cl c6 (by simp)
  have df := (show H4.t.get (H0.next + 5) = some (.dfr (some [])) by rw [k4.2 _ (by omega) (by simp)]; exact df)
  have c10 := k4.cl c10 (by simp)
  have cq := cq.keep k4 (by simp) (by simp)
  have lp3 := lp3.keep k4 (by omega) (by simp)
  have kp := kp.trans k4
  -- nothing is written
  have no : ∀ H5, Keep H4 H5 [] → pick p cf a o = a → ∀ H6, SetLp H5 (H0.next + 6) .ready none H6 → (true = true ∧ Keep H H6 [H0.next + 3, H0.next + 4, H0.next + 6] ∧ J45 g (.func f1 a1 #[]) (.func f2 a2 #[]) p cf H0 s H6) := by
    intro H5 k5 ep H6 s6
    have k6 := s6.keep
    have hn6 : H6.next = H5.next := s6.1
    have m5 := k5.1
    have k46 : Keep H4 H6 [H0.next + 6] := (k5.mono (by simp)).trans k6
    rw [ep] at ea
    exact ⟨rfl, (k04.trans k46).mono (by simp), ⟨a, ea, fd.keep k46 (nl _ (by omega)) (fun b q => by simp at q; omega), k46.cl fo (nl _ (by omega))⟩, k46.rd c4 (nl _ (by omega)), k46.rd c5 (nl _ (by omega)), k46.cl c6 (nl _ (by omega)), s6.lp (lp3.keep k5 (by omega) (by simp)), by rw [k46.2 _ (by omega) (nl _ (by omega))]; exact df, by omega, kp.new k46 (fun b q => .inr (by simp at q; omega))⟩
  -- it is the best one by now
  have yes : ∀ H5, Keep H4 H5 [] → pick p cf a o = some o → ∀ H6, Keep H5 H6 [H0.next + 3] → Cl H6 (H0.next + 3) (cvc sb g.bn bb g.bn (g.sl o)) → ∀ H7, Keep H6 H7 [H0.next + 4] → Cl H7 (H0.next + 4) [.bool true] → Lp Try.prog H7 (H0.next + 6) .busy none 30 (S45 H0.next) [12] asg45 body45 (H0.next + 5) ∧ ∀ H8, SetLp H7 (H0.next + 6) .ready none H8 → (true = true ∧ Keep H H8 [H0.next + 3, H0.next + 4, H0.next + 6] ∧ J45 g (.func f1 a1 #[]) (.func f2 a2 #[]) p cf H0 s H8) := by
    intro H5 k5 ep H6 k6 d6 H7 k7 d7
    have m5 := k5.1
    have m6 := k6.1
    have m7 := k7.1
    have n3' : ∀ x, x ≠ H0.next + 3 → x ∉ [H0.next + 3] := fun x hx => by simpa using hx
    have n4' : ∀ x, x ≠ H0.next + 4 → x ∉ [H0.next + 4] := fun x hx => by simpa using hx
    have lp7 := ((lp3.keep k5 (by omega) (by simp)).keep k6 (by omega) (n3' _ (by omega))).keep k7 (by omega) (n4' _ (by omega))
    refine ⟨lp7, fun H8 s8 => ?_⟩
    have k8 := s8.keep
    have hn8 : H8.next = H7.next := s8.1
    have k48 : Keep H4 H8 [H0.next + 3, H0.next + 4, H0.next + 6] := ((k5.mono (by simp)).trans (k6.mono (by simp))).trans ((k7.mono (by simp)).trans (k8.mono (by simp)))
    have nn : ∀ x, x ≠ H0.next + 3 → x ≠ H0.next + 4 → x ≠ H0.next + 6 → x ∉ [H0.next + 3, H0.next + 4, H0.next + 6] := fun x h1 h2 h3 => by simp; omega
    rw [ep] at ea
    exact ⟨rfl, (k04.mono (by simp)).trans k48, ⟨some o, ea, ⟨sb, bb, hsb, hbb, k8.cl (k7.cl d6 (n4' _ (by omega))) (nl _ (by omega)), cq.keep k48 (nn _ (by omega) (by omega) (by omega)) (nn _ (by omega) (by omega) (by omega)), ho1, ho2, ho3, hcan⟩, k8.cl d7 (nl _ (by omega))⟩,
      k48.rd c4 (nn _ (by omega) (by omega) (by omega)), k48.rd c5 (nn _ (by omega) (by omega) (by omega)), k48.cl c6 (nn _ (by omega) (by omega) (by omega)), s8.lp lp7, by rw [k48.2 _ (by omega) (nn _ (by omega) (by omega) (by omega))]; exact df, by omega, kp.new k48 (fun b q => .inr (by simp at q; omega))⟩
  cases hp : p o
  · refine wN_mov (v := .bool false) rfl ?_
    refine wN_gs rfl ?_
    refine wN_gs rfl ?_
    refine wN_gs rfl ?_
    refine wN_gu rfl ?_
    refine wN_gu rfl ?_
    refine wN_gu rfl ?_
    refine wN_gu rfl ?_
    refine wN_gu rfl ?_
    refine wN_gs rfl ?_
    refine wN_pur (v := .bool false) rfl rfl ?_
    refine wN_end ?_
    refine condF ?_
    refine And.intro lp3 (no H4 (Keep.refl _ _) ?_)
    unfold pick; rw [hp]; cases a <;> rfl
  · refine wN_mov (v := .bool true) rfl ?_
    cases a with
    | none =>
      refine wN_g rfl (wN_ld (b := H0.next + 4) (o := 0) (v := .bool false) rfl fo.rd rfl ?_)
      refine wN_g rfl (wN_pur (v := .bool true) rfl rfl ?_)
      refine wN_g rfl (wN_mov (v := .bool true) rfl ?_)
      refine wN_gs rfl ?_
      refine wN_gs rfl ?_
      refine wN_gs rfl ?_
      refine wN_gs rfl ?_
      refine wN_gs rfl ?_
      refine wN_g rfl (wN_pur (v := .bool true) rfl rfl ?_)
      refine wN_pur (v := .bool true) rfl rfl ?_
      refine wN_end ?_
      refine condT ?_
      first | refine wN_reg ?_ | skip
      refine wN_lda (b := H.next) (o := 0) rfl c10.rd (show row 10 _ 0 = some (cvc sb g.bn bb g.bn (g.sl o)) from rfl) ?_
      have fd : Cl H4 (H0.next + 3) zc78 := fd
      refine wN_sta (b := H0.next + 3) (o := 0) (v := cvv sb g.bn bb g.bn (g.sl o)) rfl rfl fd (by omega) rfl rfl (by simp) ?_
      intro H6 k6 n6 d6
      have d6 : Cl H6 (H0.next + 3) (cvc sb g.bn bb g.bn (g.sl o)) := d6
      refine wN_st (b := H0.next + 4) (o := 0) (v := .bool true) rfl rfl (k6.cl fo (by simp)) (by omega) rfl rfl (by simp) ?_
      intro H7 k7 n7 d7
      have d7 : Cl H7 (H0.next + 4) [.bool true] := d7
      refine wN_end ?_
      exact yes H4 (Keep.refl _ _) (by unfold pick; rw [hp]; rfl) H6 k6 d6 H7 k7 d7
    | some o2 =>
      obtain ⟨sb2, bb2, e1, e2, fc, cq2, r2⟩ := id fd
      refine wN_g rfl (wN_ld (b := H0.next + 4) (o := 0) (v := .bool true) rfl fo.rd rfl ?_)
      refine wN_g rfl (wN_pur (v := .bool false) rfl rfl ?_)
      refine wN_g rfl (wN_mov (v := .bool false) rfl ?_)
      refine wN_g rfl (wN_ld (b := H0.next + 1) (o := 0) (v := .func f2 a2 #[]) rfl c5 rfl ?_)
      refine wN_g rfl (wN_lda (b := H.next) (o := 0) rfl c10.rd (show row 10 _ 0 = some (cvc sb g.bn bb g.bn (g.sl o)) from rfl) ?_)
      refine wN_g rfl (wN_lda (b := H0.next + 3) (o := 0) rfl fc.rd (show row 10 _ 0 = some (cvc sb2 g.bn bb2 g.bn (g.sl o2)) from rfl) ?_)
      obtain ⟨H5, f5, k5⟩ := hc.h H4 o o2 sb bb sb2 bb2 (by omega) cq cq2
      refine wN_g rfl (wN_callf (vs := a2.toList ++ [cvv sb g.bn bb g.bn (g.sl o), cvv sb2 g.bn bb2 g.bn (g.sl o2)]) rfl f5 ?_)
      have m5 := k5.1
      refine wN_g rfl (wN_b_lss (a := cf o o2) (b := 0) rfl rfl ?_)
      intro t ht; cases t
      · refine wN_g rfl (wN_pur (v := .bool false) rfl rfl ?_)
        refine wN_pur (v := .bool false) rfl rfl ?_
        refine wN_end ?_
        refine condF ?_
        exact And.intro (lp3.keep k5 (by omega) (by simp)) (no H5 k5 (by unfold pick; rw [hp]; simp only [ht, Bool.and_false, cond_false]))
      · refine wN_g rfl (wN_pur (v := .bool true) rfl rfl ?_)
        refine wN_pur (v := .bool true) rfl rfl ?_
        refine wN_end ?_
        refine condT ?_
        first | refine wN_reg ?_ | skip
        refine wN_lda (b := H.next) (o := 0) rfl (k5.cl c10 (by simp)).rd (show row 10 _ 0 = some (cvc sb g.bn bb g.bn (g.sl o)) from rfl) ?_
        refine wN_sta (b := H0.next + 3) (o := 0) (v := cvv sb g.bn bb g.bn (g.sl o)) rfl rfl (k5.cl fc (by simp)) (by omega) rfl rfl (by simp) ?_
        intro H6 k6 n6 d6
        have d6 : Cl H6 (H0.next + 3) (cvc sb g.bn bb g.bn (g.sl o)) := d6
        refine wN_st (b := H0.next + 4) (o := 0) (v := .bool true) rfl rfl (k6.cl (k5.cl fo (by simp)) (by simp)) (by omega) rfl rfl (by simp) ?_
        intro H7 k7 n7 d7
        have d7 : Cl H7 (H0.next + 4) [.bool true] := d7
        refine wN_end ?_
        exact yes H5 k5 (by unfold pick; rw [hp]; simp only [ht, Bool.and_self, cond_true]) H6 k6 d6 H7 k7 d7
end
end Go.Ax

/-
  Flood: the best one (45), the least one (43) (written by program).
-/
namespace Go.Ax
open Go Go.RowKit Go.Proofs

theorem res_ctb {P : Program} {S : Rg} {H : Hp} {a b x n : Nat} {t : TypeId} {cs : List Value} {v : Value} (ha : lk S a = some (.pointer (some ⟨x, 0, none⟩))) (hb : lk S b = some v) (h1 : isAggB P t = some true) (hi : ∃ i, P.info? t = some i ∧ i.size = n) (hl : cs.length = n) (h : Cl H x cs) :
    resS P S H [.cell a t, .tmp b] = some [.agg cs.toArray, v] := by
  simp only [resS, ha, hb, load_agg h1 hi h.rd hl]
/-- what best returns -/
def Bq (g : Fh) (f : Nat) (w : Value) (H : Hp) : Option (List Nat) → Prop
  | none => w = .tuple #[.agg zc78.toArray, .bool false]
  | some o => ∃ sb bb, w = .tuple #[cvv sb g.bn bb g.bn (g.sl o), .bool true] ∧ f ≤ sb ∧ f ≤ bb ∧ Cq H sb bb g.bn (g.sl o) (zi o) ∧ o.length = g.bn ∧ (∀ x ∈ o, x < g.bn) ∧ o.Nodup ∧ g.can o (g.bn - 1) = true
section
variable {kn : FuncId → Option Bool} {lo : Nat} {H : Hp}

set_option maxRecDepth 100000 in
theorem best_ok {g : Fh} {f bh : Nat} {ka : Option Addr} {kc : Nat} {f1 f2 : Fn} {a1 a2 : Array Value} {p : List Nat → Bool} {cf : List Nat → List Nat → Int} (v : g.Vd) (hat : g.At f H) (hks : Sl H ka g.bn kc (spc g.ws)) (hbh : Rd H bh (g.vw ka kc)) (hlo : lo ≤ H.next) (hf : Fits kn lo g f1 a1 p) (hc : Cmps kn lo g f2 a2 cf) :
    ∃ w H', FnX Try.prog kn lo 45 [.func (.func 60) #[] #[pt bh], .func f1 a1 #[], .func f2 a2 #[]] H w H' ∧ Keep H H' [] ∧ Bq g H.next w H' (g.bst p cf none (perms g.bn)) := by
  refine fnX_lowR (kn := kn) (lo := lo) (H := H) (args := [.func (.func 60) #[] #[pt bh], .func f1 a1 #[], .func f2 a2 #[]]) (Q := fun w H' => Keep H H' [] ∧ Bq g H.next w H' (g.bst p cf none (perms g.bn))) Try.func45 B45 N45 Z45 L45 (by simp) ?_
  have vn := v.n
  have hbl := hbh.lt
  have fk : ∀ x, ka = some ⟨x, 0, none⟩ → x < H.next := hks.old
  intro y hy
  refine TriR.lowR hy ?_
  refine wN_reg ?_
  refine wN_box (v := .func f1 a1 #[]) rfl ?_
  intro H1 k1 n1 c1
  have c1 : Cl H1 H.next [.func f1 a1 #[]] := c1
  refine wN_box (v := .func f2 a2 #[]) rfl ?_
  intro H2 k2 n2 c2
  have c2 : Cl H2 H1.next [.func f2 a2 #[]] := c2
  refine wN_alc ?_
  intro H3 k3 n3 c3
  have c3 : Cl H3 H2.next zc78 := c3
  refine wN_mov (v := .bool false) rfl ?_
  refine wN_end ?_
  intro y hy
  refine TriR.lowR hy ?_
  refine wN_reg ?_
  refine wN_alc ?_
  intro H4 k4 n4 c4
  have c4 : Cl H4 H3.next zc78 := c4
  refine wN_end ?_
  intro y hy
  refine TriR.lowR hy ?_
  refine wN_reg ?_
  refine wN_alc ?_
  intro H5 k5 n5 c5
  refine wN_st (b := H4.next) (o := 0) (v := .bool false) rfl rfl c5 (by omega) rfl rfl (by simp) ?_
  intro H6 k6 n6 c6
  have c6 : Cl H6 H4.next [.bool false] := c6
  refine wN_end ?_
  intro y hy
  refine TriR.lowL hy ?_
  intro z hz
  refine TriR.lowR hz ?_
  refine wN_reg ?_
  refine wN_mov (v := .func (.func 60) #[] #[pt bh]) rfl ?_
  refine wN_end ?_
  intro y hy
  refine TriR.lowB hy ?_
  rw [E45_1]
  refine TriR.range rfl ?_
  intro H7 k7 n7 hdf hlp
  have e6 : H6.next = H.next + 5 := by omega
  have hlp : Lp Try.prog H7 (H6.next + 1) .ready none 30 [(4, pt H.next), (5, pt H1.next), (6, pt H2.next), (8, pt H3.next), (9, pt H4.next)] [12] asg45 body45 H6.next := hlp.weak ⟨rfl, rfl, rfl, rfl, rfl, trivial⟩
  rw [show H1.next = H.next + 1 by omega, show H2.next = H.next + 2 by omega, show H3.next = H.next + 3 by omega, show H4.next = H.next + 4 by omega, e6] at hlp
  rw [e6] at hdf n7
  have k57 : Keep H5 H7 [H4.next] := k6.trans (k7.mono (by simp))
  have k47 : Keep H4 H7 [] := k5.new k57 (fun b hb => by simp at hb; omega)
  have k37 : Keep H3 H7 [] := k4.trans k47
  have k27 : Keep H2 H7 [] := k3.trans k37
  have k17 : Keep H1 H7 [] := k2.trans k27
  have k07 : Keep H H7 [] := k1.trans k17
  have d1 := k17.cl c1 (by simp)
  have d2 := k27.cl c2 (by simp)
  have d3 := k37.cl c3 (by simp)
  have d4 := k47.cl c4 (by simp)
  have d6 := k7.cl c6 (by simp)
  rw [show H1.next = H.next + 1 by omega] at d2
  rw [show H2.next = H.next + 2 by omega] at d3
  rw [show H3.next = H.next + 3 by omega] at d4
  rw [show H4.next = H.next + 4 by omega] at d6
  have j0 : J45 g (.func f1 a1 #[]) (.func f2 a2 #[]) p cf H (perms g.bn) H7 := ⟨⟨none, rfl, d4, d6⟩, d1.rd, d2.rd, d3, hlp, hdf, by omega, k07⟩
  have u : U60 g f H.next bh H7.next ka (J45 g (.func f1 a1 #[]) (.func f2 a2 #[]) p cf H) [H.next + 3, H.next + 4, H.next + 6] := ⟨hat.le, by omega, hbl, fk, fun b hb => by simp at hb; omega, fun s H1' H2' W j kk hW => j.keep kk (fun b q => by have := hW b q; omega), fun o s H1' j hcan => by
    obtain ⟨a, e, r⟩ := j.acc
    rw [bst_skip hcan] at e
    exact { j with acc := ⟨a, e, r⟩ }⟩
  obtain ⟨H8, f8, j8⟩ := iter60_ok (kn := kn) (lo := lo) (H := H7) (l := H.next + 6) (kc := kc) u v (hat.keep k07 (by simp)) (k07.sl0 hks) (k07.rd hbh (by simp)) (by omega) j0
    (fun o s H1' sb bb ho1 ho2 ho3 hcan j q1 q2 q3 cq => round45 hf hc hlo ho1 ho2 ho3 hcan j (by omega) (by omega) (by omega) cq)
  refine Exists.intro _ (Exists.intro H8 (And.intro (callX_func rfl (by rw [e6]; simpa using f8)) ?_))
  have lp8 : Lp Try.prog H8 (H6.next + 1) .ready none 30 (S45 H.next) [12] asg45 body45 H6.next := by rw [e6]; exact j8.lp
  refine ⟨.ready, none, _, lp8, by simp, ?_⟩
  intro H9 s9
  have k9 := s9.keep
  have hn9 : H9.next = H8.next := s9.1
  rw [e6] at k9
  have ll := j8.ll
  have nl : ∀ x, x ≠ H.next + 6 → x ∉ [H.next + 5 + 1] := fun x hx => by simp; omega
  have d9 : H9.t.get H6.next = some (.dfr (some [])) := by rw [e6, k9.2 _ (by omega) (nl _ (by omega))]; exact j8.dfr
  obtain ⟨a, ea, fd, fo⟩ := j8.acc
  have ea : a = g.bst p cf none (perms g.bn) := ea
  have fd := fd.keep k9 (nl _ (by omega)) (fun b q => by simp at q; omega)
  have fo := k9.cl fo (nl _ (by omega))
  have r6 := k9.cl j8.c6 (nl _ (by omega))
  have kp9 : Keep H H9 [] := j8.kp.new k9 (fun b q => .inr (by simp at q; omega))
  rw [← ea]
  have e2 : H2.next = H.next + 2 := by omega
  have e3 : H3.next = H.next + 3 := by omega
  have e4 : H4.next = H.next + 4 := by omega
  rw [← e4] at fo
  rw [← e2] at r6
  refine wD_seq ?_
  cases a with
  | none =>
    have fd : Cl H9 (H.next + 3) zc78 := fd
    rw [← e3] at fd
    refine wD_lda (b := H3.next) (o := 0) (q := zc78) rfl fd.rd rfl ?_
    refine wD_ld (b := H4.next) (o := 0) (v := .bool false) rfl fo.rd rfl ?_
    refine wD_sta (b := H2.next) (o := 0) (v := .agg zc78.toArray) rfl rfl r6 (by omega) rfl rfl (by simp) ?_
    intro H10 k10 n10 c10
    have c10 : Cl H10 H2.next zc78 := c10
    refine wD_mov (v := .bool false) rfl ?_
    refine wD_end (by repeat' first | exact True.intro | exact (fun h => h) | refine And.intro ?_ ?_ | (intro h; have h : (_ : Nat) = _ := h; omega)) ?_
    have kpA : Keep H H10 [] := kp9.new k10 (fun b q => .inr (by simp at q; omega))
    refine And.intro trivial (Or.inr ⟨H6.next, rfl, by omega, by rw [k10.2 _ (by omega) (by simp; omega)]; exact d9, fun H11 hn11 hs11 => ?_⟩)
    have k11 : Keep H10 H11 [H6.next] := ⟨by omega, fun b _ hb => hs11 b (by simpa using hb)⟩
    exact ⟨_, res_ctb (x := H2.next) rfl rfl a78 i78s rfl (k11.cl c10 (by simp; omega)), kpA.new k11 (fun b q => .inr (by simp at q; omega)), rfl⟩
  | some o =>
    obtain ⟨sb, bb, q1, q2, fc, cq, rest⟩ := fd
    rw [← e3] at fc
    refine wD_lda (b := H3.next) (o := 0) (q := cvc sb g.bn bb g.bn (g.sl o)) rfl fc.rd rfl ?_
    refine wD_ld (b := H4.next) (o := 0) (v := .bool true) rfl fo.rd rfl ?_
    refine wD_sta (b := H2.next) (o := 0) (v := cvv sb g.bn bb g.bn (g.sl o)) rfl rfl r6 (by omega) rfl rfl (by simp) ?_
    intro H10 k10 n10 c10
    have c10 : Cl H10 H2.next (cvc sb g.bn bb g.bn (g.sl o)) := c10
    refine wD_mov (v := .bool true) rfl ?_
    refine wD_end (by repeat' first | exact True.intro | exact (fun h => h) | refine And.intro ?_ ?_ | (intro h; have h : (_ : Nat) = _ := h; omega)) ?_
    have kpA : Keep H H10 [] := kp9.new k10 (fun b q => .inr (by simp at q; omega))
    refine And.intro trivial (Or.inr ⟨H6.next, rfl, by omega, by rw [k10.2 _ (by omega) (by simp; omega)]; exact d9, fun H11 hn11 hs11 => ?_⟩)
    have k11 : Keep H10 H11 [H6.next] := ⟨by omega, fun b _ hb => hs11 b (by simpa using hb)⟩
    exact ⟨_, res_ctb (x := H2.next) rfl rfl a78 i78s rfl (k11.cl c10 (by simp; omega)), kpA.new k11 (fun b q => .inr (by simp at q; omega)), sb, bb, rfl, by omega, by omega, (cq.keep k10 (by simp; omega) (by simp; omega)).keep k11 (by simp; omega) (by simp; omega), rest⟩
end
end Go.Ax

/-
  Flood: the least one (43), Best (21), Least (23) (written by program).
-/
namespace Go.Ax
open Go Go.RowKit Go.Proofs

def Fh.cp (g : Fh) (o o2 : List Nat) : Int := cpB (g.sl o) (g.sl o2) (zi o) (zi o2)
def Fh.cw (g : Fh) (o o2 : List Nat) : Int := cwB (g.sl o) (g.sl o2) (zi o) (zi o2)
def Fh.ens (g : Fh) (o : List Nat) : Bool := decide ((g.sl o).t2 ≤ g.reserve)
/-- the order that takes the least water; the fastest one of those that have enough -/
def Fh.lst (g : Fh) : Option (List Nat) := g.bst (fun _ => true) g.cw none (perms g.bn)
def Fh.fst (g : Fh) : Option (List Nat) := g.bst g.ens g.cp none (perms g.bn)
def Fh.be (g : Fh) : Int := bif g.ok then (match g.lst with | none => 4 | some o => bif g.ens o then 0 else 10) else 1
def Fh.le (g : Fh) : Int := bif g.ok then (match g.lst with | none => 4 | some _ => 0) else 1
theorem fold_some {p : List Nat → Bool} {cf : List Nat → List Nat → Int} : ∀ (s : List (List Nat)) (b : List Nat), ∃ c, s.foldl (pick p cf) (some b) = some c
  | [], b => ⟨b, rfl⟩
  | o :: s, b => by
    simp only [List.foldl_cons]
    have e : pick p cf (some b) o = some b ∨ pick p cf (some b) o = some o := by
      cases h : (p o && decide (cf o b < 0))
      · exact .inl (by show (bif (p o && decide (cf o b < 0)) then some o else some b) = some b; rw [h]; rfl)
      · exact .inr (by show (bif (p o && decide (cf o b < 0)) then some o else some b) = some o; rw [h]; rfl)
    rcases e with e | e
    · rw [e]; exact fold_some s b
    · rw [e]; exact fold_some s o
theorem fold_none {p : List Nat → Bool} {cf : List Nat → List Nat → Int} : ∀ (s : List (List Nat)), s.foldl (pick p cf) none = none → ∀ o ∈ s, p o = false
  | [], _, o, ho => by cases ho
  | o :: s, h, x, hx => by
    simp only [List.foldl_cons] at h
    cases hp : p o
    · rw [show pick p cf none o = none by unfold pick; rw [hp]; rfl] at h
      rcases List.mem_cons.mp hx with rfl | hx
      · exact hp
      · exact fold_none s h x hx
    · rw [show pick p cf none o = some o by unfold pick; rw [hp]; rfl] at h
      obtain ⟨c, e⟩ := fold_some (p := p) (cf := cf) s o
      rw [e] at h; cases h
theorem fold_in {p : List Nat → Bool} {cf : List Nat → List Nat → Int} : ∀ (s : List (List Nat)) (a : Option (List Nat)) (c : List Nat), s.foldl (pick p cf) a = some c → (c ∈ s ∧ p c = true) ∨ a = some c
  | [], a, c, h => .inr h
  | o :: s, a, c, h => by
    simp only [List.foldl_cons] at h
    rcases fold_in s _ c h with ⟨h1, h2⟩ | h1
    · exact .inl ⟨List.mem_cons_of_mem _ h1, h2⟩
    · unfold pick at h1
      cases a with
      | none =>
        cases hp : p o
        · simp [hp] at h1
        · simp [hp] at h1; subst h1; exact .inl ⟨by simp, hp⟩
      | some b =>
        simp only at h1
        cases hq : (p o && decide (cf o b < 0))
        · rw [hq] at h1; exact .inr h1
        · rw [hq] at h1
          have e : o = c := by simpa using h1
          subst e
          have : p o = true := by cases hp : p o <;> simp [hp] at hq ⊢
          exact .inl ⟨by simp, this⟩
theorem Fh.bst_none {g : Fh} {p : List Nat → Bool} {cf : List Nat → List Nat → Int} {s : List (List Nat)} (h : g.bst p cf none s = none) {o : List Nat} (ho : o ∈ s) (hc : g.can o (g.bn - 1) = true) : p o = false :=
  fold_none _ h o (List.mem_filter.mpr ⟨ho, by simpa using hc⟩)
theorem Fh.bst_in {g : Fh} {p : List Nat → Bool} {cf : List Nat → List Nat → Int} {s : List (List Nat)} {c : List Nat} (h : g.bst p cf none s = some c) : c ∈ s ∧ g.can c (g.bn - 1) = true ∧ p c = true := by
  rcases fold_in _ _ _ h with ⟨h1, h2⟩ | h1
  · obtain ⟨h3, h4⟩ := List.mem_filter.mp h1
    exact ⟨h3, by simpa using h4, h2⟩
  · cases h1
theorem Fh.fst_some {g : Fh} {o : List Nat} (h : g.lst = some o) (he : g.ens o = true) : ∃ c, g.fst = some c := by
  cases e : g.fst with
  | some c => exact ⟨c, rfl⟩
  | none =>
    obtain ⟨h1, h2, _⟩ := Fh.bst_in h
    rw [Fh.bst_none e h1 h2] at he; cases he
section
variable {kn : FuncId → Option Bool} {lo : Nat} {H : Hp}

theorem fits58 {g : Fh} : Fits kn lo g (.func 58) #[] (fun _ => true) := ⟨fun H o sb bb _ _ _ => by
  obtain ⟨H', f, k⟩ := yes58_ok (kn := kn) (lo := lo) (H := H) (v := cvv sb g.bn bb g.bn (g.sl o)) rfl
  exact ⟨H', callX_args f, k⟩⟩
theorem fits44 {g : Fh} {ka : Option Addr} {kc : Nat} : Fits kn lo g (.func 44) #[.agg (g.vw ka kc).toArray] g.ens := ⟨fun H o sb bb _ _ _ => by
  obtain ⟨H', f, k⟩ := enough_ok (kn := kn) (lo := lo) (H := H) (g := g) (kv := .slice ka g.bn kc) (v1 := slv sb g.bn g.bn) (v2 := slv bb g.bn g.bn) (t1 := (g.sl o).t1) (t2 := (g.sl o).t2) (l1 := (g.sl o).l1) (l2 := (g.sl o).l2) (s1 := (g.sl o).s1) (s2 := (g.sl o).s2) (r1 := (g.sl o).r1) (r2 := (g.sl o).r2)
  exact ⟨H', callX_args f, k⟩⟩
theorem cmps59 {g : Fh} (v : g.Vd) : Cmps kn lo g (.func 59) #[] g.cw := ⟨fun H o o2 sb bb sb2 bb2 hlo c1 c2 => by
  have := v.n
  obtain ⟨H', f, k⟩ := compareW_ok (kn := kn) (lo := lo) (H := H) (cap := g.bn) (cap2 := g.bn) (by omega) (by omega) hlo c1 c2
  exact ⟨H', callX_args f, k⟩⟩
theorem cmps47 {g : Fh} (v : g.Vd) : Cmps kn lo g (.func 47) #[] g.cp := ⟨fun H o o2 sb bb sb2 bb2 hlo c1 c2 => by
  have := v.n
  obtain ⟨H', f, k⟩ := compare_ok (kn := kn) (lo := lo) (H := H) (cap := g.bn) (cap2 := g.bn) (by omega) (by omega) hlo c1 c2
  exact ⟨H', callX_args f, k⟩⟩
set_option maxRecDepth 100000 in
theorem least_ok {g : Fh} {f : Nat} {ka : Option Addr} {kc : Nat} (v : g.Vd) (hat : g.At f H) (hks : Sl H ka g.bn kc (spc g.ws)) (hlo : lo ≤ H.next) :
    ∃ w H', FnX Try.prog kn lo 43 [.agg (g.vw ka kc).toArray] H w H' ∧ Keep H H' [] ∧ Bq g H.next w H' g.lst := by
  refine fnX_low (kn := kn) (lo := lo) (H := H) (args := [.agg (g.vw ka kc).toArray]) (Q := fun w H' => Keep H H' [] ∧ Bq g H.next w H' g.lst) Try.func43 B43 N43 Z43 L43 (by simp) ?_
  refine wN_seq ?_
  refine wN_box (v := .agg (g.vw ka kc).toArray) rfl ?_
  intro H1 k1 n1 c1
  have c1 : Cl H1 H.next (g.vw ka kc) := c1
  refine wN_alc ?_
  intro H2 k2 n2 c2
  have c2 : Cl H2 H1.next zc78 := c2
  refine wN_mov (v := .bool false) rfl ?_
  refine wN_end ?_
  refine wN_seq ?_
  refine wN_lda (b := H.next) (o := 0) rfl (k2.cl c1 (by simp)).rd (show row 6 _ 0 = some (g.vw ka kc) from rfl) ?_
  obtain ⟨H3, f3, k3, n3, r3⟩ := courses_ok (kn := kn) (lo := lo) (H := H2) (g := g) (ka := ka) (kc := kc)
  refine wN_callf (vs := [.agg (g.vw ka kc).toArray]) rfl (callX_args f3) ?_
  have k03 : Keep H H3 [] := k1.trans (k2.trans k3)
  obtain ⟨w4, H4, f4, k4, hb⟩ := best_ok (kn := kn) (lo := lo) (H := H3) (p := fun _ => true) (cf := g.cw) v (hat.keep k03 (by simp)) (k03.sl0 hks) r3 (by omega) fits58 (cmps59 v)
  refine wN_callf (vs := [.func (.func 60) #[] #[pt H2.next], .func (.func 58) #[] #[], .func (.func 59) #[] #[]]) rfl (callX_args f4) ?_
  have m3 := k03.1
  have m4 := k4.1
  have k04 := k03.trans k4
  have c4 := k4.cl (k3.cl c2 (by simp)) (by simp)
  have hb : Bq g H3.next w4 H4 g.lst := hb
  cases e : g.lst with
  | none =>
    rw [e] at hb
    have hb : w4 = .tuple #[.agg zc78.toArray, .bool false] := hb
    subst hb
    refine wN_pur (v := .agg zc78.toArray) rfl (by kernel_rfl) ?_
    refine wN_pur (v := .bool false) rfl (by kernel_rfl) ?_
    refine wN_sta (b := H1.next) (o := 0) (v := .agg zc78.toArray) rfl rfl c4 (by omega) rfl rfl (by simp) ?_
    intro H5 k5 n5 c5
    have c5 : Cl H5 H1.next zc78 := c5
    refine wN_mov (v := .bool false) rfl ?_
    refine wN_end ?_
    exact And.intro trivial (Exists.intro _ (And.intro (res_ctb (x := H1.next) rfl rfl a78 i78s rfl c5) ⟨k04.new k5 (fun b q => .inr (by simp at q; omega)), rfl⟩))
  | some o =>
    rw [e] at hb
    obtain ⟨sb, bb, rfl, q1, q2, cq, rest⟩ := hb
    refine wN_pur (v := cvv sb g.bn bb g.bn (g.sl o)) rfl (by kernel_rfl) ?_
    refine wN_pur (v := .bool true) rfl (by kernel_rfl) ?_
    refine wN_sta (b := H1.next) (o := 0) (v := cvv sb g.bn bb g.bn (g.sl o)) rfl rfl c4 (by omega) rfl rfl (by simp) ?_
    intro H5 k5 n5 c5
    have c5 : Cl H5 H1.next (cvc sb g.bn bb g.bn (g.sl o)) := c5
    refine wN_mov (v := .bool true) rfl ?_
    refine wN_end ?_
    exact And.intro trivial (Exists.intro _ (And.intro (res_ctb (x := H1.next) rfl rfl a78 i78s rfl c5) ⟨k04.new k5 (fun b q => .inr (by simp at q; omega)), sb, bb, rfl, by omega, by omega, cq.keep k5 (by simp; omega) (by simp; omega), rest⟩))
end
end Go.Ax

/-
  Flood: Best (21), Least (23) (written by program).
-/
namespace Go.Ax
open Go Go.RowKit Go.Proofs

def Ord (g : Fh) (f : Nat) (sb : Nat) (o : List Nat) (H : Hp) : Prop := f ≤ sb ∧ Sc H sb (ints (zi o)) ∧ o.length = g.bn ∧ (∀ x ∈ o, x < g.bn) ∧ o.Nodup ∧ g.can o (g.bn - 1) = true
def RB (g : Fh) (f : Nat) (w : Value) (H : Hp) : Prop := (g.be ≠ 0 ∧ w = .tuple #[.slice none 0 0, iv g.be]) ∨ (g.be = 0 ∧ g.ok = true ∧ ∃ sb o, w = .tuple #[slv sb g.bn g.bn, iv 0] ∧ g.fst = some o ∧ Ord g f sb o H)
theorem Fh.be1 {g : Fh} (h : g.ok = false) : g.be = 1 := by unfold Fh.be; rw [h]; rfl
theorem Fh.be4 {g : Fh} (h : g.ok = true) (e : g.lst = none) : g.be = 4 := by unfold Fh.be; rw [h, e]; rfl
theorem Fh.be10 {g : Fh} {o : List Nat} (h : g.ok = true) (e : g.lst = some o) (q : g.ens o = false) : g.be = 10 := by unfold Fh.be; rw [h, e]; simp only [q]; rfl
theorem Fh.be0 {g : Fh} {o : List Nat} (h : g.ok = true) (e : g.lst = some o) (q : g.ens o = true) : g.be = 0 := by unfold Fh.be; rw [h, e]; simp only [q]; rfl
section
variable {kn : FuncId → Option Bool} {lo : Nat} {H : Hp}
set_option maxRecDepth 100000 in
theorem Best_ok {g : Fh} {f : Nat} (hat : g.At f H) (hlo : lo ≤ H.next) : ∃ w H', FnX Try.prog kn lo 21 [.agg g.v.toArray] H w H' ∧ Keep H H' [] ∧ RB g H.next w H' := by
  refine fnX_low (kn := kn) (lo := lo) (H := H) (args := [.agg g.v.toArray]) (Q := fun w H' => Keep H H' [] ∧ RB g H.next w H') Try.func21 B21 N21 Z21 L21 (by simp) ?_
  have hfl := hat.le
  refine wN_seq ?_
  refine wN_box (v := .agg g.v.toArray) rfl ?_
  intro H1 k1 n1 c1
  have c1 : Cl H1 H.next g.v := c1
  refine wN_mov (v := .slice none 0 0) rfl ?_
  refine wN_mov (v := iv 0) rfl ?_
  refine wN_end ?_
  refine wN_seq ?_
  refine wN_lda (b := H.next) (o := 0) rfl c1.rd (show row 5 _ 0 = some g.v from rfl) ?_
  obtain ⟨w2, H2, f2, k2, hc⟩ := new_ok (kn := kn) (lo := lo) (H := H1) (hat.keep k1 (by simp)) (by omega)
  refine wN_callf (vs := [.agg g.v.toArray]) rfl (callX_args f2) ?_
  have m2 := k2.1
  have k02 : Keep H H2 [] := k1.trans k2
  rcases hc with ⟨hok, rfl⟩ | ⟨hok, ka, kc, rfl, hks, hkf⟩
  · refine wN_mov (v := .tuple #[.agg #[.slice none 0 0, .slice none 0 0, iv 0, iv 0, iv 0, .slice none 0 0], iv 1]) rfl ?_
    refine wN_pur (v := .agg #[.slice none 0 0, .slice none 0 0, iv 0, iv 0, iv 0, .slice none 0 0]) rfl (by kernel_rfl) ?_
    refine wN_pur (v := iv 1) rfl (by kernel_rfl) ?_
    refine wN_alc ?_
    intro H3 k3 n3 c3
    refine wN_sta (b := H2.next) (o := 0) (v := .agg #[.slice none 0 0, .slice none 0 0, iv 0, iv 0, iv 0, .slice none 0 0]) rfl rfl c3 (by omega) rfl rfl (by simp) ?_
    intro H4 k4 n4 c4
    have c4 : Cl H4 H2.next ([.slice none 0 0, .slice none 0 0, iv 0, iv 0, iv 0, .slice none 0 0]) := c4
    refine wN_mov (v := iv 1) rfl ?_
    refine wN_end ?_
    have k24 : Keep H2 H4 [] := k3.new k4 (fun b q => by simp at q; omega)
    have k04 : Keep H H4 [] := k02.trans k24
    have m4 := k24.1
    refine wN_seq ?_
    refine wN_mov (v := iv 1) rfl ?_
    refine wN_c_neq (a := 1) (b := 0) rfl rfl ?_
    refine wN_end ?_
    refine And.intro (fun q1 => ?_) (fun q1 => ?_)
    · refine wN_seq ?_
      refine wN_mov (v := iv 1) rfl ?_
      refine wN_mov (v := .slice none 0 0) rfl ?_
      refine wN_mov (v := iv 1) rfl ?_
      refine wN_end ?_
      exact And.intro trivial (Exists.intro _ (And.intro rfl ⟨k04, Or.inl ⟨by rw [Fh.be1 hok]; decide, by rw [Fh.be1 hok]; rfl⟩⟩))
    · exact absurd q1 (by decide)
  · have v := Fh.vd hok hat
    refine wN_mov (v := .tuple #[.agg (g.vw ka kc).toArray, iv 0]) rfl ?_
    refine wN_pur (v := .agg (g.vw ka kc).toArray) rfl (by kernel_rfl) ?_
    refine wN_pur (v := iv 0) rfl (by kernel_rfl) ?_
    refine wN_alc ?_
    intro H3 k3 n3 c3
    refine wN_sta (b := H2.next) (o := 0) (v := .agg (g.vw ka kc).toArray) rfl rfl c3 (by omega) rfl rfl (by simp) ?_
    intro H4 k4 n4 c4
    have c4 : Cl H4 H2.next (g.vw ka kc) := c4
    refine wN_mov (v := iv 0) rfl ?_
    refine wN_end ?_
    have k24 : Keep H2 H4 [] := k3.new k4 (fun b q => by simp at q; omega)
    have k04 : Keep H H4 [] := k02.trans k24
    have m4 := k24.1
    refine wN_seq ?_
    refine wN_mov (v := iv 0) rfl ?_
    refine wN_c_neq (a := 0) (b := 0) rfl rfl ?_
    refine wN_end ?_
    refine And.intro (fun q1 => ?_) (fun q1 => ?_)
    · exact absurd q1 (by decide)
    · first | refine wN_skip ?_ | skip
      refine wN_seq ?_
      refine wN_lda (b := H2.next) (o := 0) rfl c4.rd (show row 6 _ 0 = some (g.vw ka kc) from rfl) ?_
      obtain ⟨w5, H5, f5, k5, hb⟩ := least_ok (kn := kn) (lo := lo) (H := H4) v (hat.keep k04 (by simp)) (k24.sl0 hks) (by omega)
      refine wN_callf (vs := [.agg (g.vw ka kc).toArray]) rfl (callX_args f5) ?_
      have m5 := k5.1
      have k05 : Keep H H5 [] := k04.trans k5
      have c4 := k5.cl c4 (by simp)
      cases e : g.lst with
      | none =>
        rw [e] at hb
        have hb : w5 = .tuple #[.agg zc78.toArray, .bool false] := hb
        subst hb
        refine wN_mov (v := .tuple #[.agg zc78.toArray, .bool false]) rfl ?_
        refine wN_pur (v := .agg zc78.toArray) rfl (by kernel_rfl) ?_
        refine wN_pur (v := .bool false) rfl (by kernel_rfl) ?_
        refine wN_alc ?_
        intro H6 k6 n6 c6
        refine wN_sta (b := H5.next) (o := 0) (v := .agg zc78.toArray) rfl rfl c6 (by omega) rfl rfl (by simp) ?_
        intro H7 k7 n7 c7
        have c7 : Cl H7 H5.next (zc78) := c7
        refine wN_mov (v := .bool false) rfl ?_
        refine wN_end ?_
        have k57 : Keep H5 H7 [] := k6.new k7 (fun b q => by simp at q; omega)
        have k07 : Keep H H7 [] := k05.trans k57
        have m7 := k57.1
        refine wN_seq ?_
        refine wN_mov (v := .bool false) rfl ?_
        refine wN_pur (v := .bool true) rfl rfl ?_
        refine wN_end ?_
        refine condT ?_
        refine wN_seq ?_
        refine wN_mov (v := .slice none 0 0) rfl ?_
        refine wN_mov (v := iv 4) rfl ?_
        refine wN_end ?_
        exact And.intro trivial (Exists.intro _ (And.intro rfl ⟨k07, Or.inl ⟨by rw [Fh.be4 hok e]; decide, by rw [Fh.be4 hok e]; rfl⟩⟩))
      | some o =>
        rw [e] at hb
        obtain ⟨sb, bb, rfl, q1, q2, cq, rest⟩ := hb
        refine wN_mov (v := .tuple #[cvv sb g.bn bb g.bn (g.sl o), .bool true]) rfl ?_
        refine wN_pur (v := cvv sb g.bn bb g.bn (g.sl o)) rfl (by kernel_rfl) ?_
        refine wN_pur (v := .bool true) rfl (by kernel_rfl) ?_
        refine wN_alc ?_
        intro H6 k6 n6 c6
        refine wN_sta (b := H5.next) (o := 0) (v := cvv sb g.bn bb g.bn (g.sl o)) rfl rfl c6 (by omega) rfl rfl (by simp) ?_
        intro H7 k7 n7 c7
        have c7 : Cl H7 H5.next (cvc sb g.bn bb g.bn (g.sl o)) := c7
        refine wN_mov (v := .bool true) rfl ?_
        refine wN_end ?_
        have k57 : Keep H5 H7 [] := k6.new k7 (fun b q => by simp at q; omega)
        have k07 : Keep H H7 [] := k05.trans k57
        have m7 := k57.1
        refine wN_seq ?_
        refine wN_mov (v := .bool true) rfl ?_
        refine wN_pur (v := .bool false) rfl rfl ?_
        refine wN_end ?_
        refine condF ?_
        first | refine wN_skip ?_ | skip
        have c4 := k57.cl c4 (by simp)
        refine wN_seq ?_
        refine wN_lda (b := H2.next) (o := 0) rfl c4.rd (show row 6 _ 0 = some (g.vw ka kc) from rfl) ?_
        refine wN_lda (b := H5.next) (o := 0) rfl c7.rd (show row 10 _ 0 = some (cvc sb g.bn bb g.bn (g.sl o)) from rfl) ?_
        obtain ⟨H8, f8, k8⟩ := enough_ok (kn := kn) (lo := lo) (H := H7) (g := g) (kv := .slice ka g.bn kc) (v1 := slv sb g.bn g.bn) (v2 := slv bb g.bn g.bn) (t1 := (g.sl o).t1) (t2 := (g.sl o).t2) (l1 := (g.sl o).l1) (l2 := (g.sl o).l2) (s1 := (g.sl o).s1) (s2 := (g.sl o).s2) (r1 := (g.sl o).r1) (r2 := (g.sl o).r2)
        refine wN_callf (vs := [.agg (g.vw ka kc).toArray, cvv sb g.bn bb g.bn (g.sl o)]) rfl (callX_args f8) ?_
        have m8 := k8.1
        have k08 : Keep H H8 [] := k07.trans k8
        have c4 := k8.cl c4 (by simp)
        cases hq : decide ((g.sl o).t2 ≤ g.reserve)
        · have he : g.ens o = false := hq
          refine wN_pur (v := .bool true) rfl rfl ?_
          refine wN_end ?_
          refine condT ?_
          refine wN_seq ?_
          refine wN_mov (v := .slice none 0 0) rfl ?_
          refine wN_mov (v := iv 10) rfl ?_
          refine wN_end ?_
          exact And.intro trivial (Exists.intro _ (And.intro rfl ⟨k08, Or.inl ⟨by rw [Fh.be10 hok e he]; decide, by rw [Fh.be10 hok e he]; rfl⟩⟩))
        · have he : g.ens o = true := hq
          obtain ⟨o2, e2⟩ := Fh.fst_some e he
          refine wN_pur (v := .bool false) rfl rfl ?_
          refine wN_end ?_
          refine condF ?_
          first | refine wN_skip ?_ | skip
          refine wD_seq ?_
          refine wD_lda (b := H2.next) (o := 0) (q := g.vw ka kc) rfl c4.rd rfl ?_
          obtain ⟨H9, f9, k9, n9, r9⟩ := courses_ok (kn := kn) (lo := H8.next) (H := H8) (g := g) (ka := ka) (kc := kc)
          refine wD_callh (vs := [.agg (g.vw ka kc).toArray]) rfl (by kernel_rfl) (callX_args f9) ?_
          have k09 : Keep H H9 [] := k08.trans k9
          have m9 := k9.1
          have c4 := k9.cl c4 (by simp)
          refine wD_lda (b := H2.next) (o := 0) (q := g.vw ka kc) rfl c4.rd rfl ?_
          refine wD_pur (v := .func (.func 44) #[.agg (g.vw ka kc).toArray] #[]) rfl (by kernel_rfl) ?_
          obtain ⟨w10, H10, f10, k10, hb⟩ := best_ok (kn := kn) (lo := H9.next) (H := H9) (p := g.ens) (cf := g.cp) v (hat.keep k09 (by simp)) ((k24.trans ((k5.trans k57).trans (k8.trans k9))).sl0 hks) r9 (Nat.le_refl _) fits44 (cmps47 v)
          refine wD_callh (vs := [.func (.func 60) #[] #[pt H8.next], .func (.func 44) #[.agg (g.vw ka kc).toArray] #[], .func (.func 47) #[] #[]]) rfl (by kernel_rfl) (callX_args f10) ?_
          have m10 := k10.1
          have k010 : Keep H H10 [] := k09.trans k10
          have hb : Bq g H9.next w10 H10 g.fst := hb
          rw [e2] at hb
          obtain ⟨sb2, bb2, rfl, q3, q4, cq2, rest2⟩ := hb
          refine wD_mov (v := .tuple #[cvv sb2 g.bn bb2 g.bn (g.sl o2), .bool true]) rfl ?_
          refine wD_pur (v := cvv sb2 g.bn bb2 g.bn (g.sl o2)) rfl (by kernel_rfl) ?_
          refine wD_pur (v := .bool true) rfl (by kernel_rfl) ?_
          refine wD_alc ?_
          intro H11 k11 n11 c11
          refine wD_sta (b := H10.next) (o := 0) (v := cvv sb2 g.bn bb2 g.bn (g.sl o2)) rfl rfl c11 (by omega) rfl rfl (by simp) ?_
          intro H12 k12 n12 c12
          have c12 : Cl H12 H10.next (cvc sb2 g.bn bb2 g.bn (g.sl o2)) := c12
          refine wD_mov (v := .bool true) rfl ?_
          refine wD_end (by repeat' first | exact True.intro | exact (fun h => h) | refine And.intro ?_ ?_ | (intro h; have h : (_ : Nat) = _ := h; omega)) ?_
          have k1012 : Keep H10 H12 [] := k11.new k12 (fun b q => by simp at q; omega)
          refine wN_seq ?_
          refine wN_addo (b := H10.next) (o := 0) rfl ?_
          refine wN_ld (b := H10.next) (o := 0 + 0) (v := slv sb2 g.bn g.bn) rfl c12.rd rfl ?_
          refine wN_mov (v := slv sb2 g.bn g.bn) rfl ?_
          refine wN_mov (v := iv 0) rfl ?_
          refine wN_end ?_
          exact And.intro trivial (Exists.intro _ (And.intro rfl ⟨k010.trans k1012, Or.inr ⟨Fh.be0 hok e he, hok, sb2, o2, rfl, e2, by omega, k1012.sc cq2.ro (by simp), rest2⟩⟩))
end
end Go.Ax

/-
  Flood: the best one is the best: maths; Ints (25) (written by program).
-/
namespace Go.Ax
open Go Go.RowKit Go.Proofs

theorem sg_neg (a b : Int) : sg b a = - sg a b := by
  unfold sg; split <;> split <;> (try split) <;> (try split) <;> omega
theorem sg_zero {a b : Int} (h : sg a b = 0) : a = b := by
  unfold sg at h; split at h
  · omega
  · split at h <;> omega
theorem sg_lt {a b : Int} (h : sg a b < 0) : a < b := by
  unfold sg at h; split at h
  · assumption
  · split at h <;> omega
theorem sg_of {a b : Int} (h : a < b) : sg a b = -1 := by unfold sg; rw [if_pos h]
theorem sg_self (a : Int) : sg a a = 0 := by unfold sg; rw [if_neg (by omega), if_neg (by omega)]
theorem lexC_neg : ∀ (a b : List Int), lexC b a = - lexC a b
  | [], [] => rfl
  | [], _ :: _ => rfl
  | _ :: _, [] => rfl
  | a :: r, b :: s => by
    have ih := lexC_neg r s
    have e := sg_neg a b
    simp only [lexC]
    by_cases h : sg a b = 0
    · rw [if_neg (by omega), if_neg (by omega)]; exact ih
    · rw [if_pos (by omega), if_pos (by omega)]; exact e
theorem lexC_zero : ∀ {a b : List Int}, lexC a b = 0 → a = b
  | [], [], _ => rfl
  | [], _ :: _, h => by simp [lexC] at h
  | _ :: _, [], h => by simp [lexC] at h
  | a :: r, b :: s, h => by
    simp only [lexC] at h
    by_cases q : sg a b = 0
    · rw [if_neg (by omega)] at h
      rw [sg_zero q, lexC_zero h]
    · rw [if_pos (by omega)] at h; omega
theorem lexC_trans : ∀ {a b c : List Int}, lexC a b < 0 → lexC b c < 0 → lexC a c < 0
  | [], [], _, h, _ => by simp [lexC] at h
  | [], _ :: _, [], _, h => by simp [lexC] at h
  | [], _ :: _, _ :: _, _, _ => by simp [lexC]
  | _ :: _, [], _, h, _ => by simp [lexC] at h
  | _ :: _, _ :: _, [], _, h => by simp [lexC] at h
  | a :: r, b :: s, c :: t, h1, h2 => by
    simp only [lexC] at h1 h2 ⊢
    by_cases q1 : sg a b = 0
    · rw [if_neg (by omega)] at h1
      have e1 := sg_zero q1
      subst e1
      by_cases q2 : sg a c = 0
      · rw [if_neg (by omega)] at h2 ⊢
        exact lexC_trans h1 h2
      · rw [if_pos (by omega)] at h2 ⊢
        exact h2
    · rw [if_pos (by omega)] at h1
      by_cases q2 : sg b c = 0
      · have e2 := sg_zero q2
        subst e2
        rw [if_pos (by omega)]; exact h1
      · rw [if_pos (by omega)] at h2
        have a1 := sg_lt h1
        have a2 := sg_lt h2
        have e := sg_of (show a < c by omega)
        rw [if_pos (by omega)]; omega
/-- what an order is measured by -/
def Fh.kp (g : Fh) (o : List Nat) : List Int := (g.sl o).d2 :: (g.sl o).t2 :: zi o
def Fh.kw (g : Fh) (o : List Nat) : List Int := (g.sl o).t2 :: g.kp o
theorem cp_key (g : Fh) (o o2 : List Nat) : g.cp o o2 = lexC (g.kp o) (g.kp o2) := by
  unfold Fh.cp cpB Fh.kp
  simp only [fnz, lexC]
  split
  · rfl
  · split
    · rfl
    · split <;> omega
theorem cw_key (g : Fh) (o o2 : List Nat) : g.cw o o2 = lexC (g.kw o) (g.kw o2) := by
  have e := cp_key g o o2
  unfold Fh.cp at e
  unfold Fh.cw cwB Fh.kw
  rw [e]
  simp only [fnz, lexC]
  split
  · rfl
  · split <;> omega
theorem zi_inj {a b : List Nat} (h : zi a = zi b) : a = b := by rw [← no_zi a, ← no_zi b, h]
theorem kp_inj {g : Fh} {a b : List Nat} (h : g.kp a = g.kp b) : a = b := by
  unfold Fh.kp at h
  injection h with _ h; injection h with _ h
  exact zi_inj h
theorem kw_inj {g : Fh} {a b : List Nat} (h : g.kw a = g.kw b) : a = b := by
  unfold Fh.kw at h
  injection h with _ h
  exact kp_inj h
theorem fold_minL {p : List Nat → Bool} {cf : List Nat → List Nat → Int} {K : List Nat → List Int} (hK : ∀ a b, cf a b = lexC (K a) (K b)) (hi : ∀ a b, K a = K b → a = b) :
    ∀ (s : List (List Nat)) (b R : List Nat), s.foldl (pick p cf) (some b) = some R → (b = R ∨ cf R b < 0) ∧ ∀ o ∈ s, p o = true → o = R ∨ cf R o < 0
  | [], b, R, h => ⟨.inl (by simpa using h), fun o ho => by cases ho⟩
  | x :: s, b, R, h => by
    simp only [List.foldl_cons] at h
    have tr : ∀ a b c, cf a b < 0 → cf b c < 0 → cf a c < 0 := fun a b c h1 h2 => by rw [hK] at h1 h2 ⊢; exact lexC_trans h1 h2
    have tot : ∀ a b, ¬ cf a b < 0 → b = a ∨ cf b a < 0 := fun a b h1 => by
      rw [hK] at h1
      have e := lexC_neg (K a) (K b)
      rcases Int.lt_or_eq_of_le (show 0 ≤ lexC (K a) (K b) by omega) with q | q
      · right; rw [hK]; omega
      · left; exact (hi _ _ (lexC_zero q.symm)).symm
    have leT : ∀ a b, (b = R ∨ cf R b < 0) → cf b a < 0 → a = R ∨ cf R a < 0 := fun a b h1 h2 => by
      rcases h1 with rfl | h1
      · exact .inr h2
      · exact .inr (tr _ _ _ h1 h2)
    cases q : (p x && decide (cf x b < 0))
    · rw [show pick p cf (some b) x = some b by show (bif (p x && decide (cf x b < 0)) then some x else some b) = some b; rw [q]; rfl] at h
      obtain ⟨h1, h2⟩ := fold_minL hK hi s b R h
      refine ⟨h1, fun o ho hp => ?_⟩
      rcases List.mem_cons.mp ho with rfl | ho
      · rw [hp] at q
        have q : ¬ cf o b < 0 := by simpa using q
        rcases tot o b q with e | e
        · rw [← e]; exact h1
        · exact leT o b h1 e
      · exact h2 o ho hp
    · rw [show pick p cf (some b) x = some x by show (bif (p x && decide (cf x b < 0)) then some x else some b) = some x; rw [q]; rfl] at h
      obtain ⟨h1, h2⟩ := fold_minL hK hi s x R h
      have hx : cf x b < 0 := by
        simp only [Bool.and_eq_true, decide_eq_true_eq] at q; exact q.2
      refine ⟨leT b x h1 hx, fun o ho hp => ?_⟩
      rcases List.mem_cons.mp ho with rfl | ho
      · exact h1
      · exact h2 o ho hp
theorem fold_minN {p : List Nat → Bool} {cf : List Nat → List Nat → Int} {K : List Nat → List Int} (hK : ∀ a b, cf a b = lexC (K a) (K b)) (hi : ∀ a b, K a = K b → a = b) :
    ∀ (s : List (List Nat)) (R : List Nat), s.foldl (pick p cf) none = some R → ∀ o ∈ s, p o = true → o = R ∨ cf R o < 0
  | [], R, h, o, ho => by cases ho
  | x :: s, R, h, o, ho => by
    simp only [List.foldl_cons] at h
    cases q : p x
    · rw [show pick p cf none x = none by show (bif p x then some x else none) = none; rw [q]; rfl] at h
      intro hp
      rcases List.mem_cons.mp ho with rfl | ho
      · rw [hp] at q; cases q
      · exact fold_minN hK hi s R h o ho hp
    · rw [show pick p cf none x = some x by show (bif p x then some x else none) = some x; rw [q]; rfl] at h
      obtain ⟨h1, h2⟩ := fold_minL hK hi s x R h
      intro hp
      rcases List.mem_cons.mp ho with rfl | ho
      · exact h1
      · exact h2 o ho hp
theorem Fh.lst_min {g : Fh} {R : List Nat} (h : g.lst = some R) {o : List Nat} (ho : o ∈ perms g.bn) (hc : g.can o (g.bn - 1) = true) : o = R ∨ g.cw R o < 0 :=
  fold_minN (cw_key g) (fun _ _ => kw_inj) _ R h o (List.mem_filter.mpr ⟨ho, by simpa using hc⟩) rfl
theorem Fh.fst_min {g : Fh} {R : List Nat} (h : g.fst = some R) {o : List Nat} (ho : o ∈ perms g.bn) (hc : g.can o (g.bn - 1) = true) (he : g.ens o = true) : o = R ∨ g.cp R o < 0 :=
  fold_minN (cp_key g) (fun _ _ => kp_inj) _ R h o (List.mem_filter.mpr ⟨ho, by simpa using hc⟩) he
section
variable {kn : FuncId → Option Bool} {lo : Nat} {H : Hp}
end
end Go.Ax

/-
  Flood: the law FloodLeast, whatever the input (written by program).
-/
namespace Go.Ax
open Go Go.RowKit Go.Proofs

section
variable {kn : FuncId → Option Bool} {lo : Nat} {H : Hp}
end
end Go.Ax

/-
  Flood: great, in full (12); append of several elements; what FloodOwns keeps (34) (written by program).
-/
namespace Go.Ax
open Go Go.RowKit Go.Proofs

theorem KeepB.to {H H1 H2 : Hp} (h : Keep H H1 []) (k : KeepB H.next H1 H2) : Keep H H2 [] :=
  ⟨Nat.le_trans h.1 k.1, fun b hb _ => by rw [k.2 b hb]; exact h.2 b hb (by simp)⟩
section
variable {kn : FuncId → Option Bool} {lo : Nat} {H : Hp}
end
end Go.Ax

/-
  Flood: what FloodOwns keeps (34) (written by program).
-/
namespace Go.Ax
open Go Go.RowKit Go.Proofs

section
variable {kn : FuncId → Option Bool} {lo : Nat} {H : Hp}
end
end Go.Ax

/-
  Flood: the law FloodOwns, whatever the input (written by program).
-/
namespace Go.Ax
open Go Go.RowKit Go.Proofs

theorem AccB.sl {b0 lo f : Nat} {e : TypeId} {H : Hp} {v : Value} {n : Nat} {cs : List Value} (h : AccB b0 lo f e H v n cs) (hf : f ≤ b0) : ∃ a c, v = .slice a n c ∧ Sl H a n c cs ∧ ∀ b, a = some ⟨b, 0, none⟩ → f ≤ b := by
  rcases h with ⟨rfl, rfl, rfl, hb, e0, hg⟩ | ⟨b, rfl, h0, hf, hl, hn, hg⟩
  · exact ⟨_, _, rfl, .inr ⟨b0, rfl, ⟨hb, by unfold cellsOf; rw [hg]⟩, Nat.le_refl _⟩, fun b e => by cases e; exact hf⟩
  · exact ⟨_, _, rfl, .inr ⟨b, rfl, ⟨hn, by unfold cellsOf; rw [hg]⟩, Nat.le_refl _⟩, fun b e => by cases e; exact hf⟩
section
variable {kn : FuncId → Option Bool} {lo : Nat} {H : Hp}
end
end Go.Ax

/-
  Flood: is a list before another one (33) (written by program).
-/
namespace Go.Ax
open Go Go.RowKit Go.Proofs

section
variable {kn : FuncId → Option Bool} {lo : Nat} {H : Hp}
set_option maxRecDepth 100000 in
theorem before_ok {b b2 m cap cap2 : Nat} {us vs : List Int} (rb : Rd H b (ints us)) (rc : Rd H b2 (ints vs)) (hl : us.length = m) (hl2 : vs.length = m) (hm : m ≤ 1000) : ∃ H', FnX Try.prog kn lo 33 [slv b m cap, slv b2 m cap2] H (.bool (decide (lexC us vs < 0))) H' ∧ Keep H H' [] := by
  have key := fnX_low (kn := kn) (lo := lo) (H := H) (args := [slv b m cap, slv b2 m cap2]) (Q := fun w H' => w = .bool (decide (lexC us vs < 0)) ∧ Keep H H' []) Try.func33 B33 N33 Z33 L33 (by simp) ?_
  · obtain ⟨w, H', h, rfl, q⟩ := key; exact ⟨H', h, q⟩
  have hk := Keep.refl H []
  refine wN_seq ?_
  refine wN_mov (v := .bool false) rfl ?_
  refine wN_end ?_
  refine wN_seq ?_
  refine wN_mov (v := slv b m cap) rfl ?_
  refine wN_len (m := m) rfl ?_
  refine wN_mov (v := iv 0) rfl ?_
  refine wN_end ?_
  refine loop_low (fn := Try.f33) E33_1 N33 L33x1 (fun i : Nat => [(0, slv b m cap), (1, slv b2 m cap2), (7, iv (m : Int)), (8, iv (i : Int))])
    (fun q i H' => i + q = m ∧ Keep H H' [] ∧ lexC (us.drop i) (vs.drop i) = lexC us vs) m 0 ⟨by omega, hk, rfl⟩ ⟨rfl, rfl, rfl, rfl, trivial⟩ ?_
  rintro q i L1 ⟨hiq, hk, hf⟩
  have rb := hk.rd rb (by simp)
  have rc := hk.rd rc (by simp)
  refine wN_seq ?_
  refine wN_c_lss (a := (i : Int)) (b := (m : Int)) rfl rfl ?_
  refine wN_end ?_
  refine And.intro (fun q1 => ?_) (fun q1 => ?_)
  · have q1 : (i : Int) < (m : Int) := of_decide_eq_true q1
    obtain ⟨x, hx⟩ := get_some (l := us) (i := i) (by omega)
    obtain ⟨y, hy⟩ := get_some (l := vs) (i := i) (by omega)
    rw [drop_at hx, drop_at hy] at hf
    first | refine wN_skip ?_ | skip
    refine wN_seq ?_
    refine wN_mov (v := iv (i : Int)) rfl ?_
    refine wN_mov (v := iv (i : Int)) rfl ?_
    refine wN_end ?_
    refine wD_seq ?_
    refine wD_mov (v := iv (i : Int)) rfl ?_
    refine wD_mov (v := slv b2 m cap2) rfl ?_
    refine wD_len (m := m) rfl ?_
    refine wD_b_lss (a := (i : Int)) (b := (m : Int)) rfl rfl ?_
    intro t ht
    have ht : t = true := by rw [← ht]; simpa using q1
    subst ht
    refine wD_mov (v := .bool true) rfl ?_
    refine wD_g rfl (wD_mov (v := slv b m cap) rfl ?_)
    refine wD_g rfl (wD_mov (v := iv (i : Int)) rfl ?_)
    refine wD_g rfl (wD_idx (b := b) (o := 0) (k := i) (j := (i : Int)) rfl rfl rfl (by omega) ?_)
    refine wD_g rfl (wD_ld (b := b) (o := 0 + i * 1) (v := iv x) rfl rb (ints_at hx) ?_)
    refine wD_g rfl (wD_mov (v := slv b2 m cap2) rfl ?_)
    refine wD_g rfl (wD_mov (v := iv (i : Int)) rfl ?_)
    refine wD_g rfl (wD_idx (b := b2) (o := 0) (k := i) (j := (i : Int)) rfl rfl rfl (by omega) ?_)
    refine wD_g rfl (wD_ld (b := b2) (o := 0 + i * 1) (v := iv y) rfl rc (ints_at hy) ?_)
    refine wD_g rfl (wD_b_neq (a := x) (b := y) rfl rfl ?_)
    intro t ht; cases t
    · have e : x = y := by simpa using ht
      refine wD_pur (v := .bool false) rfl rfl ?_
      refine wD_end (by repeat' first | exact True.intro | exact (fun h => h) | refine And.intro ?_ ?_ | (intro h; have h : (_ : Nat) = _ := h; omega)) ?_
      refine condF ?_
      first | refine wN_skip ?_ | skip
      first | refine wN_reg ?_ | refine wN_blk ?_ | (refine wOps_nil ?_; refine wN_reg ?_)
      refine wN_add (a := (i : Int)) (b := 1) rfl rfl ⟨by omega, by omega⟩ ?_
      refine wN_mov (v := iv ((i : Int) + 1)) rfl ?_
      refine wN_end ?_
      refine ⟨q - 1, i + 1, by omega, ⟨by omega, hk, ?_⟩, rfl, rfl, rfl, rfl, trivial⟩
      rw [← hf]; simp only [lexC]; rw [e, sg_self, if_neg (by omega)]
    · have e : x ≠ y := by simpa using ht
      refine wD_pur (v := .bool true) rfl rfl ?_
      refine wD_end (by repeat' first | exact True.intro | exact (fun h => h) | refine And.intro ?_ ?_ | (intro h; have h : (_ : Nat) = _ := h; omega)) ?_
      refine condT ?_
      refine wD_seq ?_
      refine wD_mov (v := slv b m cap) rfl ?_
      refine wD_mov (v := iv (i : Int)) rfl ?_
      refine wD_idx (b := b) (o := 0) (k := i) (j := (i : Int)) rfl rfl rfl (by omega) ?_
      refine wD_ld (b := b) (o := 0 + i * 1) (v := iv x) rfl rb (ints_at hx) ?_
      refine wD_mov (v := slv b2 m cap2) rfl ?_
      refine wD_mov (v := iv (i : Int)) rfl ?_
      refine wD_idx (b := b2) (o := 0) (k := i) (j := (i : Int)) rfl rfl rfl (by omega) ?_
      refine wD_ld (b := b2) (o := 0 + i * 1) (v := iv y) rfl rc (ints_at hy) ?_
      refine wD_c_lss (a := x) (b := y) rfl rfl ?_
      refine wD_mov (v := .bool (decide (x < y))) rfl ?_
      refine wD_end (by repeat' first | exact True.intro | exact (fun h => h) | refine And.intro ?_ ?_ | (intro h; have h : (_ : Nat) = _ := h; omega)) ?_
      refine And.intro trivial (Exists.intro _ (And.intro rfl ⟨?_, hk⟩))
      have h0 : sg x y ≠ 0 := fun q => e (sg_zero q)
      have hv : lexC us vs = sg x y := by rw [← hf, lexC, if_pos h0]
      rw [hv]
      show Value.bool (decide (x < y)) = .bool (decide (sg x y < 0))
      congr 1
      by_cases h : x < y
      · rw [decide_eq_true h, sg_of h]; rfl
      · have : ¬ sg x y < 0 := fun q => h (sg_lt q)
        rw [decide_eq_false h, decide_eq_false this]
  · have q1 : ¬ ((i : Int) < (m : Int)) := of_decide_eq_false q1
    rw [List.drop_of_length_le (l := us) (by omega), List.drop_of_length_le (l := vs) (by omega)] at hf
    refine wN_seq ?_
    refine wN_mov (v := .bool false) rfl ?_
    refine wN_end ?_
    exact And.intro trivial (Exists.intro _ (And.intro rfl ⟨by rw [← hf]; rfl, hk⟩))
end
theorem zi_no {us : List Int} {n : Nat} (h : IsOrd us n) : zi (no us) = us := by
  unfold zi no
  rw [List.map_map]
  have : ∀ x ∈ us, ((fun n : Nat => (n : Int)) ∘ Int.toNat) x = id x := fun x hx => by
    have := (h.rng x hx).1
    show ((x.toNat : Nat) : Int) = x
    omega
  rw [List.map_congr_left this, List.map_id]
theorem ord_mem {us : List Int} {n : Nat} (h : IsOrd us n) : no us ∈ perms n := by
  rw [perms_mem]
  have hl := h.len
  refine ⟨by simp [no, hl], fun x hx => ?_, ?_⟩
  · unfold no at hx
    obtain ⟨y, hy, rfl⟩ := List.mem_map.mp hx
    have := h.rng y hy
    omega
  · have h1 := h.nd
    unfold no
    rw [List.Nodup, List.pairwise_map]
    exact List.Pairwise.imp_of_mem (fun ha hb hne e => hne (by have := h.rng _ ha; have := h.rng _ hb; omega)) h1
/-- no other order is better than the best one -/
theorem Fh.once {g : Fh} {R : List Nat} {us : List Int} (h : g.fst = some R) (ho : IsOrd us g.bn) (hc : g.can (no us) (g.bn - 1) = true) (he : (g.la us).t2 ≤ g.reserve) :
    (g.sl R).d2 < (g.la us).d2 ∨ ((g.sl R).d2 = (g.la us).d2 ∧ ((g.sl R).t2 < (g.la us).t2 ∨ ((g.sl R).t2 = (g.la us).t2 ∧ ¬ lexC us (zi R) < 0))) := by
  have he : g.ens (no us) = true := by unfold Fh.ens; exact decide_eq_true he
  rcases Fh.fst_min h (ord_mem ho) hc he with e | e
  · right
    have e2 : zi R = us := by rw [← e]; exact zi_no ho
    refine ⟨by rw [← e]; rfl, .inr ⟨by rw [← e]; rfl, ?_⟩⟩
    rw [e2]
    have := lexC_neg us us
    omega
  · rw [cp_key] at e
    unfold Fh.kp at e
    rw [zi_no ho] at e
    simp only [lexC] at e
    have n := lexC_neg us (zi R)
    by_cases q1 : sg (g.sl R).d2 (g.sl (no us)).d2 = 0
    · rw [if_neg (by omega)] at e
      right
      refine ⟨sg_zero q1, ?_⟩
      by_cases q2 : sg (g.sl R).t2 (g.sl (no us)).t2 = 0
      · rw [if_neg (by omega)] at e
        exact .inr ⟨sg_zero q2, by omega⟩
      · rw [if_pos (by omega)] at e
        exact .inl (sg_lt e)
    · rw [if_pos (by omega)] at e
      exact .inl (sg_lt e)
theorem Fh.er_none {g : Fh} {us : List Int} (hok : g.ok = true) (h : g.lst = none) (ho : IsOrd us g.bn) : g.er us = 4 := by
  cases hc : g.can (no us) (g.bn - 1)
  · exact Fh.er4 hok (ordB_is ho) hc
  · exact absurd (Fh.bst_none h (ord_mem ho) hc) (by simp)
theorem Fh.er_short {g : Fh} {us : List Int} {o : List Nat} (hok : g.ok = true) (h : g.lst = some o) (he : g.ens o = false) (ho : IsOrd us g.bn) : g.er us = 4 ∨ g.er us = 10 := by
  cases hc : g.can (no us) (g.bn - 1)
  · exact .inl (Fh.er4 hok (ordB_is ho) hc)
  · have h1 : ¬ (g.sl o).t2 ≤ g.reserve := of_decide_eq_false he
    refine .inr (Fh.er10 hok (ordB_is ho) hc ?_)
    show g.reserve < (g.sl (no us)).t2
    rcases Fh.lst_min h (ord_mem ho) hc with e | e
    · rw [e]; omega
    · rw [cw_key] at e
      unfold Fh.kw at e
      simp only [lexC] at e
      by_cases q : sg (g.sl o).t2 (g.sl (no us)).t2 = 0
      · have := sg_zero q; omega
      · rw [if_pos (by omega)] at e
        have := sg_lt e; omega
end Go.Ax

/-
  Flood: append of a part of a list (written by program).
-/
namespace Go.Ax
open Go Go.RowKit Go.Proofs

/-- append of what a part of a block holds -/
theorem heap_append_src {P : Program} {lo : Nat} {H : Hp} {t0 t1 e ep : TypeId} {size k m f b0 : Nat} {v y0 : Value} {cs news : List Value} (he : sliceElem P t0 = some (e, size)) (ht : P.underlying t1 = some (.slice ep))
    (hs : srcCells H size y0 = some (m, news)) (hl : news.length = m * size) (hz : 0 < size) (hone : news.all one = true) (hcl : cs.length = k * size) (hk : k + m ≤ 2000) (ha : AccB b0 lo f e H v k cs) (hlo : lo ≤ H.next) (hf : f ≤ H.next) :
    ∃ v1 H1 kd, (∀ (n : Nat) (S : Rg) (d : Option Tmp) (x y : Operand) (ty : TypeId) (p : String), evS S x = some v → evS S y = some y0 → heapOp P lo (frS n S) H ⟨d, .call ⟨.builtin .append, #[x, y], #[t0, t1]⟩, ty, p, #[], none⟩ = some (.val v1 H1, kd)) ∧ (kd = .pure ∨ kd = .heavy ∨ ∃ b, kd = .store b ∧ f ≤ b) ∧
      AccB b0 lo f e H1 v1 (k + m) (cs ++ news) ∧ KeepB f H H1 := by
  rcases Nat.eq_zero_or_pos m with rfl | hp
  · have hn : news = [] := by cases news with | nil => rfl | cons _ _ => simp at hl
    subst hn
    refine ⟨v, H, .pure, ?_, .inl rfl, by simpa using ha, ⟨Nat.le_refl _, fun _ _ => rfl⟩⟩
    intro n S d x y ty p hx hy
    have h3 : Nat.ble (k + 0) 1048576 = true := Nat.ble_eq_true_of_le (by omega)
    rcases ha with ⟨rfl, _, rfl, _⟩ | ⟨b, rfl, _⟩
    · unfold heapOp
      simp only [evs, ev_frS, hx, hy, builtinV, List.getElem?_toArray, List.getElem?_cons_zero, List.getElem?_cons_succ, he, ht, hs, appendV, h3, Nat.beq_refl, cond_true]
    · unfold heapOp
      simp only [evs, ev_frS, hx, hy, builtinV, List.getElem?_toArray, List.getElem?_cons_zero, List.getElem?_cons_succ, he, ht, hs, appendV, h3, Nat.beq_refl, cond_true]
  · have h5 : Nat.beq m 0 = false := by rw [beq_eq]; simp; omega
    have h3 : Nat.ble (k + m) 1048576 = true := Nat.ble_eq_true_of_le (by omega)
    rcases ha with ⟨rfl, rfl, rfl, hb, e0, h0⟩ | ⟨b, rfl, h0, hb, hlb, hn, hg⟩
    · have h2 : Nat.ble (0 + m) 0 = false := by
        cases h : Nat.ble (0 + m) 0 with
        | false => rfl
        | true => have := Nat.le_of_ble_eq_true h; omega
      have h6 : row (0 * size) ([] : List Value) 0 = some [] := by simp [row, beq_eq]
      refine ⟨.slice (some ⟨H.next, 0, none⟩) (0 + m) (0 + m), H.new (.cells ([] ++ news) e true), .heavy, ?_, .inr (.inl rfl), .inr ⟨H.next, rfl, by omega, hf, hlo, (new_facts rfl).2.2.1, new_get rfl⟩, ?_⟩
      · intro n S d x y ty p hx hy
        unfold heapOp
        simp only [evs, ev_frS, hx, hy, builtinV, List.getElem?_toArray, List.getElem?_cons_zero, List.getElem?_cons_succ, he, ht, hs, appendV, h0, h2, h3, h5, h6, cond_true, cond_false]
      · exact ⟨(new_facts rfl).1.1, fun b hb => (new_facts rfl).1.2 b (by omega) (by simp)⟩
    · have hmz : 1 ≤ m * size := Nat.mul_pos hp hz
      have h1 : Nat.ble (0 + (k + m) * size) cs.length = false := by
        cases h : Nat.ble (0 + (k + m) * size) cs.length with
        | false => rfl
        | true => have := Nat.le_of_ble_eq_true h; rw [hcl, Nat.add_mul] at this; omega
      have h2 : Nat.beq (0 + k * size) cs.length = true := by rw [hcl, Nat.zero_add]; exact Nat.beq_refl _
      have h4 : Nat.beq e e = true := Nat.beq_refl e
      refine ⟨.slice (some ⟨H.next, 0, none⟩) (k + m) (k + m), ({ H with t := H.t.set b .dead } : Hp).new (.cells (cs ++ news) e true), .store b, ?_, .inr (.inr ⟨b, rfl, hb⟩), ?_, ?_⟩
      · intro n S d x y ty p hx hy
        unfold heapOp
        simp only [evs, ev_frS, hx, hy, builtinV, List.getElem?_toArray, List.getElem?_cons_zero, List.getElem?_cons_succ, he, ht, hs, appendV, hg, h1, h2, h3, h4, h5, hone, Nat.ble_eq_true_of_le hlb, Bool.and_self, cond_true, cond_false, List.drop_zero]
      · refine .inr ⟨H.next, rfl, by omega, hf, hlo, Nat.lt_succ_self _, ?_⟩
        show ((H.t.set b .dead).set H.next _).get H.next = _
        rw [Tr.get_set, if_pos rfl]
      · refine ⟨Nat.le_succ _, fun c hc => ?_⟩
        show ((H.t.set b .dead).set H.next _).get c = _
        rw [Tr.get_set, if_neg (by omega), Tr.get_set, if_neg (by omega)]
/-- l[:k] and l[k + 1:] of a block that append made -/
theorem heap_head {lo : Nat} {H : Hp} {b n k : Nat} {cs : List Value} (hg : H.t.get b = some (.cells cs 3 true)) (hk : k ≤ n) :
    ∀ (w : Nat) (S : Rg) (d : Option Tmp) (x y : Operand) (ty : TypeId) (p : String), evS S x = some (slv b n n) → evS S y = some (iv (k : Int)) → heapOp Try.prog lo (frS w S) H ⟨d, .slice 26 x none (some y) none, ty, p, #[], none⟩ = some (.val (slv b k n) H, .read b) := by
  intro w S d x y ty p hx hy
  obtain ⟨i, hi, hs⟩ := in3
  have b0 : boundOf (frS w S) n (some y) = some k := by unfold boundOf; simp only [ev_frS, hy]
  have b1 : boundOf (frS w S) 0 none = some 0 := rfl
  unfold heapOp
  simp only [ev_frS, hx, u26, hi, b0, b1, hg, hs, Nat.beq_refl, show Nat.beq 1 0 = false from rfl, Bool.not_false, Bool.or_true, Nat.ble_eq_true_of_le hk, Nat.ble_eq_true_of_le (Nat.zero_le k), Bool.and_self, cond_true, add_none, Nat.zero_mul, Nat.add_zero, Nat.sub_zero]
theorem src_head {H : Hp} {b n k : Nat} {cs : List Value} (hg : H.t.get b = some (.cells cs 3 true)) (hl : cs.length = n) (hk : k ≤ n) : srcCells H 1 (slv b k n) = some (k, cs.take k) := by
  have hrow : row (k * 1) cs 0 = some (cs.take k) := by
    unfold row
    simp only [List.drop_zero, Nat.mul_one, beq_eq, List.length_take, hl, Nat.min_eq_left hk, decide_true, cond_true]
  simp only [srcCells, cellsOf, hg, hrow]
end Go.Ax

/-
  Flood: l[k + 1:] of a list that append made; an order out of remainders: its maths (written by program).
-/
namespace Go.Ax
open Go Go.RowKit Go.Proofs

theorem heap_tailk {lo : Nat} {H : Hp} {b n k : Nat} {cs : List Value} (hg : H.t.get b = some (.cells cs 3 true)) (hl : cs.length = n) (hk : k + 1 ≤ n) :
    ∃ v, (∀ (w : Nat) (S : Rg) (d : Option Tmp) (x y : Operand) (ty : TypeId) (p : String), evS S x = some (slv b n n) → evS S y = some (iv ((k + 1 : Nat) : Int)) → heapOp Try.prog lo (frS w S) H ⟨d, .slice 26 x (some y) none none, ty, p, #[], none⟩ = some (.val v H, .read b)) ∧ srcCells H 1 v = some (n - (k + 1), cs.drop (k + 1)) := by
  obtain ⟨i, hi, hs⟩ := in3
  have b0 : ∀ (w : Nat) (S : Rg), boundOf (frS w S) n none = some n := fun _ _ => rfl
  rcases Nat.lt_or_eq_of_le hk with h | h
  · have h1 : Nat.beq (k + 1) n = false := by rw [beq_eq]; simp; omega
    refine ⟨.slice (some ⟨b, k + 1, none⟩) (n - (k + 1)) (n - (k + 1)), ?_, ?_⟩
    · intro w S d x y ty p hx hy
      have b1 : boundOf (frS w S) 0 (some y) = some (k + 1) := by unfold boundOf; simp only [ev_frS, hy]
      unfold heapOp
      simp only [ev_frS, hx, u26, hi, b0, b1, hg, hs, Nat.beq_refl, h1, show Nat.beq 1 0 = false from rfl, Bool.not_false, Bool.true_or, Nat.ble_eq_true_of_le hk, Nat.ble_eq_true_of_le (Nat.le_refl n), Bool.and_self, cond_true, add_none, Nat.mul_one, Nat.zero_add]
    · have hrow : row ((n - (k + 1)) * 1) cs (k + 1) = some (cs.drop (k + 1)) := by
        unfold row
        have e : (cs.drop (k + 1)).take (n - (k + 1)) = cs.drop (k + 1) := List.take_of_length_le (by rw [List.length_drop, hl]; omega)
        simp only [Nat.mul_one, e, beq_eq, List.length_drop, hl, decide_true, cond_true]
      simp only [srcCells, cellsOf, hg, hrow]
  · subst h
    refine ⟨.slice (some ⟨0, 0, some 0⟩) 0 0, ?_, ?_⟩
    · intro w S d x y ty p hx hy
      have b1 : boundOf (frS w S) 0 (some y) = some (k + 1) := by unfold boundOf; simp only [ev_frS, hy]
      have h2 : Nat.beq (k + 1) 0 = false := rfl
      unfold heapOp
      simp only [ev_frS, hx, u26, hi, b0, b1, hg, hs, Nat.beq_refl, h2, show Nat.beq 1 0 = false from rfl, Bool.not_false, Bool.not_true, Bool.or_self, Nat.ble_eq_true_of_le (Nat.le_refl (k + 1)), Bool.and_self, cond_true, cond_false]
    · rw [List.drop_of_length_le (by omega), Nat.sub_self]
      unfold srcCells
      cases cellsOf H 0 <;> rfl
theorem conv_5 (x : Nat) (h2 : x ≤ 255) {S : Rg} {n : Nat} {o : Operand} {d : Option Nat} (hx : evS S o = some (.int .u8 (x : Int))) : pureOp Try.prog (frS n S) ⟨d, .convert 5 3 o, 3, "", #[], none⟩ = some (iv x) := by
  have e : ∀ y : Int, prun Try.prog (Go.convert 5 3 (.int .u8 y)) = some (.int .i64 (IntKind.i64.wrap y)) := fun y => by kernel_rfl
  unfold pureOp
  simp only [ev_frS, hx, flat, flat1, cond_true, e]
  rw [wrap_i64 ⟨by omega, by omega⟩]
/-- what is taken out of the rest goes behind what was taken -/
theorem take_out {O R : List Nat} {k n : Nat} (hk : k < R.length) (h1 : (O ++ R).Nodup) (h2 : ∀ x ∈ O ++ R, x < n) : ((O ++ [R.getD k 0]) ++ (R.take k ++ R.drop (k + 1))).Nodup ∧ ∀ x ∈ (O ++ [R.getD k 0]) ++ (R.take k ++ R.drop (k + 1)), x < n := by
  have e : R.getD k 0 = R[k] := by rw [List.getD_eq_getElem?_getD, List.getElem?_eq_getElem hk]; rfl
  have eR : R = R.take k ++ R[k] :: R.drop (k + 1) := by rw [← List.drop_eq_getElem_cons hk, List.take_append_drop]
  have hp : (O ++ R).Perm ((O ++ [R.getD k 0]) ++ (R.take k ++ R.drop (k + 1))) := by
    rw [e, List.append_assoc]
    refine List.Perm.append_left O ?_
    conv => lhs; rw [eR]
    exact List.perm_middle
  exact ⟨hp.nodup_iff.mp h1, fun x hx => h2 x (hp.mem_iff.mpr hx)⟩
end Go.Ax

/-
  Flood: an order out of remainders (32) (written by program).
-/
namespace Go.Ax
open Go Go.RowKit Go.Proofs

def u8c (l : List Nat) : List Value := l.map fun n : Nat => Value.int .u8 (n : Int)
theorem u8_at {l : List Nat} {i : Nat} (h : i < l.length) : (u8c l)[0 + i * 1]? = some (.int .u8 ((l.getD i 0 : Nat) : Int)) := by
  rw [Nat.zero_add, Nat.mul_one]; simp [u8c, List.getD, h]
theorem nts_app (a b : List Nat) : nts (a ++ b) = nts a ++ nts b := by unfold nts; rw [List.map_append]
structure Tn (lo n : Nat) (h : Nat) (H : Hp) (i : Nat) (rv ov : Value) (O R : List Nat) : Prop where
  lO : O.length = i
  lR : R.length + i = n
  rest : R ≠ [] → ∃ b, rv = slv b R.length R.length ∧ h ≤ b ∧ b < H.next ∧ H.t.get b = some (.cells (nts R) 3 true) ∧ ∀ z ∈ (bkv ov).toList, z ≠ b
  acc : Acc lo h 3 H ov i (nts O)
  nd : (O ++ R).Nodup
  lt : ∀ x ∈ O ++ R, x < n
section
variable {kn : FuncId → Option Bool} {lo : Nat} {H : Hp}
set_option maxRecDepth 100000 in
theorem turned_ok {n mb cb b1 : Nat} {ks : List Nat} (hn1 : 1 ≤ n) (hn : n ≤ 7) (rb : Rd H b1 (u8c ks)) (hk : ks.length = mb) (hmb : 1 ≤ mb) (hmb2 : mb ≤ 9223372036854775807) (hlt : ∀ x, ks.getD x 0 ≤ 255) (hlo : lo ≤ H.next) :
    ∃ w H', FnX Try.prog kn lo 32 [iv (n : Int), slv b1 mb cb] H w H' ∧ Keep H H' [] ∧ ∃ b o, w = slv b n n ∧ H.next ≤ b ∧ b < H'.next ∧ H'.t.get b = some (.cells (nts o) 3 true) ∧ o.length = n ∧ (∀ x ∈ o, x < n) ∧ o.Nodup := by
  refine fnX_low (kn := kn) (lo := lo) (H := H) (args := [iv (n : Int), slv b1 mb cb]) (Q := fun w H' => Keep H H' [] ∧ ∃ b o, w = slv b n n ∧ H.next ≤ b ∧ b < H'.next ∧ H'.t.get b = some (.cells (nts o) 3 true) ∧ o.length = n ∧ (∀ x ∈ o, x < n) ∧ o.Nodup) Try.func32 B32 N32 Z32 L32 (by simp) ?_
  have lb1 := rb.lt
  refine wN_seq ?_
  refine wN_mov (v := .slice none 0 0) rfl ?_
  refine wN_end ?_
  refine wN_seq ?_
  refine wN_mov (v := .slice none 0 0) rfl ?_
  refine wN_mov (v := .slice none 0 0) rfl ?_
  refine wN_end ?_
  refine wN_seq ?_
  refine wN_mov (v := iv (n : Int)) rfl ?_
  refine wN_mov (v := iv 0) rfl ?_
  refine wN_end ?_
  refine loop_low (fn := Try.f32) E32_1 N32 L32x1 (fun x : Nat × Value => [(0, iv (n : Int)), (1, slv b1 mb cb), (5, x.2), (6, .slice none 0 0), (10, iv (n : Int)), (11, iv (x.1 : Int))])
    (fun q x H' => x.1 + q = n ∧ Keep H H' [] ∧ Acc lo H.next 3 H' x.2 x.1 (nts (List.range x.1))) n (0, .slice none 0 0) ⟨by show 0 + n = n; omega, Keep.refl _ _, .inl ⟨rfl, rfl, rfl⟩⟩ ⟨rfl, rfl, rfl, rfl, rfl, rfl, trivial⟩ ?_
  rintro q ⟨i, v⟩ L1 ⟨hiq, hk1, ac⟩
  simp only at hiq ac
  have m1 := hk1.1
  refine wN_seq ?_
  refine wN_c_lss (a := (i : Int)) (b := (n : Int)) rfl rfl ?_
  refine wN_end ?_
  refine And.intro (fun q1 => ?_) (fun q1 => ?_)
  · have q1 : (i : Int) < (n : Int) := of_decide_eq_true q1
    first | refine wN_skip ?_ | skip
    refine wN_seq ?_
    refine wN_mov (v := iv (i : Int)) rfl ?_
    refine wN_mov (v := iv (i : Int)) rfl ?_
    refine wN_end ?_
    first | refine wN_reg ?_ | refine wN_blk ?_ | (refine wOps_nil ?_; refine wN_reg ?_)
    refine wN_mov (v := v) rfl ?_
    refine wN_mov (v := iv (i : Int)) rfl ?_
    have eA := fun (w : Nat) (S : Rg) (d : Option Tmp) (p : Operand) (ty : TypeId) (s : String) => heap_build1 (P := Try.prog) (lo := lo) (n := w) (S := S) (H := L1) (d := d) (t := 26) (ty := ty) (p := s) (v := iv (i : Int)) (x := p) se26 zo3 rfl
    refine wN_memh (k := .heavy) rfl (by kernel_rfl) (eA _ _ _ _ _ _ rfl rfl (by decide)) (fun x e => by cases e) ?_
    generalize hH2 : L1.new _ = H2
    obtain ⟨k2, n2, c2⟩ := new_facts hH2
    have c2 : Cl H2 L1.next (nts [i]) := c2
    obtain ⟨H3, kd3, e3, d3, a3, k3⟩ := heap_append_below (P := Try.prog) (lo := lo) (t1 := 26) se26 u26 (c2.sl (Nat.le_refl 1)) rfl (by decide) rfl (by rw [nts_len, List.length_range, Nat.mul_one]) (by omega) (ac.keep k2) (by omega) (by omega)
    refine wN_memh (k := kd3) rfl (by kernel_rfl) (e3 _ _ _ _ _ _ _ rfl rfl) (reg_ok d3 _) ?_
    refine wN_mov (v := slv H2.next (i + 1) (i + 1)) rfl ?_
    refine wN_end ?_
    first | refine wN_reg ?_ | refine wN_blk ?_ | (refine wOps_nil ?_; refine wN_reg ?_)
    refine wN_add (a := (i : Int)) (b := 1) rfl rfl ⟨by omega, by omega⟩ ?_
    refine wN_mov (v := iv ((i : Int) + 1)) rfl ?_
    refine wN_end ?_
    exact ⟨q - 1, (i + 1, slv H2.next (i + 1) (i + 1)), by omega, ⟨by show i + 1 + (q - 1) = n; omega, KeepB.to (hk1.trans k2) k3, by
      show Acc lo H.next 3 H3 _ (i + 1) (nts (List.range (i + 1)))
      rw [List.range_succ, nts_app]; exact a3⟩, rfl, rfl, rfl, rfl, rfl, rfl, trivial⟩
  · have q1 : ¬ ((i : Int) < (n : Int)) := of_decide_eq_false q1
    have ei : i = n := by omega
    rw [ei] at ac
    have t0 : Tn lo n H.next L1 0 v (.slice none 0 0) [] (List.range n) := ⟨rfl, by simp, fun _ => by
      rcases ac with ⟨h0, _⟩ | ⟨b, rfl, _, h1, _, h2, h3⟩
      · omega
      · exact ⟨b, by rw [List.length_range], h1, h2, h3, fun z hz => by cases hz⟩, .inl ⟨rfl, rfl, rfl⟩, by simpa using List.nodup_range, fun x hx => by simpa using hx⟩
    refine wN_seq ?_
    refine wN_mov (v := iv (n : Int)) rfl ?_
    refine wN_mov (v := iv 0) rfl ?_
    refine wN_end ?_
    refine loop_low (fn := Try.f32) E32_2 N32 L32x2 (fun x : Nat × Value × Value × List Nat × List Nat => [(0, iv (n : Int)), (1, slv b1 mb cb), (5, x.2.1), (6, x.2.2.1), (19, iv (n : Int)), (20, iv (x.1 : Int))])
      (fun q x H' => x.1 + q = n ∧ Keep H H' [] ∧ Tn lo n H.next H' x.1 x.2.1 x.2.2.1 x.2.2.2.1 x.2.2.2.2) n (0, v, .slice none 0 0, [], List.range n) ⟨by show 0 + n = n; omega, hk1, t0⟩ ⟨rfl, rfl, rfl, rfl, rfl, rfl, trivial⟩ ?_
    rintro q ⟨i, rv, ov, O, R⟩ L2 ⟨hiq, hk2, t⟩
    simp only at hiq t
    have m2 := hk2.1
    obtain ⟨lO, lR, rest, acc, nd, lt⟩ := t
    refine wN_seq ?_
    refine wN_c_lss (a := (i : Int)) (b := (n : Int)) rfl rfl ?_
    refine wN_end ?_
    refine And.intro (fun q2 => ?_) (fun q2 => ?_)
    · have q2 : (i : Int) < (n : Int) := of_decide_eq_true q2
      have hR0 : R ≠ [] := fun e => by rw [e] at lR; simp at lR; omega
      obtain ⟨b, rfl, hb1, hb2, hg, hne⟩ := rest hR0
      obtain ⟨r, hr⟩ : ∃ r, R.length = r := ⟨_, rfl⟩
      have hr1 : 1 ≤ r := by rw [← hr]; exact List.length_pos_iff.mpr hR0
      rw [hr]
      rw [hr] at lR
      obtain ⟨x, hx⟩ : ∃ x, ks.getD (i % mb) 0 = x := ⟨_, rfl⟩
      have hx2 : x ≤ 255 := by rw [← hx]; exact hlt _
      obtain ⟨k, hkk⟩ : ∃ k, x % r = k := ⟨_, rfl⟩
      have hkr : k < r := by rw [← hkk]; exact Nat.mod_lt _ hr1
      have him : i % mb < mb := Nat.mod_lt _ hmb
      have rb2 := hk2.rd rb (by simp)
      have rg : Rd L2 b (nts R) := ⟨hb2, by unfold cellsOf; rw [hg]⟩
      first | refine wN_skip ?_ | skip
      refine wN_seq ?_
      refine wN_mov (v := iv (i : Int)) rfl ?_
      refine wN_mov (v := iv (i : Int)) rfl ?_
      refine wN_end ?_
      refine wN_seq ?_
      refine wN_mov (v := slv b1 mb cb) rfl ?_
      refine wN_mov (v := iv (i : Int)) rfl ?_
      refine wN_mov (v := slv b1 mb cb) rfl ?_
      refine wN_len (m := mb) rfl ?_
      refine wN_rem (a := (i : Int)) (b := (mb : Int)) rfl rfl (by omega) (by omega) ⟨by omega, by omega⟩ ⟨by omega, by omega⟩ ?_
      refine wN_idx (b := b1) (o := 0) (k := i % mb) (j := (i : Int) % (mb : Int)) rfl rfl (by omega) him ?_
      refine wN_ld (b := b1) (o := 0 + (i % mb) * 1) (v := .int .u8 (x : Int)) rfl rb2 (by rw [← hx]; exact u8_at (by omega)) ?_
      refine wN_pur (v := iv (x : Int)) rfl (conv_5 x hx2 rfl) ?_
      refine wN_mov (v := slv b r r) rfl ?_
      refine wN_len (m := r) rfl ?_
      refine wN_rem (a := (x : Int)) (b := (r : Int)) rfl rfl (by omega) (by omega) ⟨by omega, by omega⟩ ⟨by omega, by omega⟩ ?_
      rw [show (x : Int) % (r : Int) = (k : Int) by omega]
      refine wN_mov (v := iv (k : Int)) rfl ?_
      refine wN_end ?_
      refine wN_seq ?_
      refine wN_mov (v := ov) rfl ?_
      refine wN_mov (v := slv b r r) rfl ?_
      refine wN_mov (v := iv (k : Int)) rfl ?_
      refine wN_idx (b := b) (o := 0) (k := k) (j := (k : Int)) rfl rfl rfl hkr ?_
      refine wN_ld (b := b) (o := 0 + k * 1) (v := iv ((R.getD k 0 : Nat) : Int)) rfl rg (by rw [Nat.zero_add, Nat.mul_one]; exact nts_at (by omega)) ?_
      have eB := fun (w : Nat) (S : Rg) (d : Option Tmp) (p : Operand) (ty : TypeId) (s : String) => heap_build1 (P := Try.prog) (lo := lo) (n := w) (S := S) (H := L2) (d := d) (t := 26) (ty := ty) (p := s) (v := iv ((R.getD k 0 : Nat) : Int)) (x := p) se26 zo3 rfl
      refine wN_memh (k := .heavy) rfl (by kernel_rfl) (eB _ _ _ _ _ _ rfl rfl (by decide)) (fun x e => by cases e) ?_
      generalize hH3 : L2.new _ = H3
      obtain ⟨k3, n3, c3⟩ := new_facts hH3
      have c3 : Cl H3 L2.next (nts [R.getD k 0]) := c3
      obtain ⟨H4, kd4, e4, d4, a4, k4⟩ := heap_append_out (P := Try.prog) (lo := lo) (t1 := 26) se26 u26 (c3.sl (Nat.le_refl 1)) rfl (by decide) rfl (by rw [nts_len, Nat.mul_one]; exact lO) (by omega) (acc.keep k3) (by omega) (by omega)
      refine wN_memh (k := kd4) rfl (by kernel_rfl) (e4 _ _ _ _ _ _ _ rfl rfl) (reg_ok d4 _) ?_
      refine wN_mov (v := slv H3.next (i + 1) (i + 1)) rfl ?_
      refine wN_end ?_
      have m4 := k4.1
      have hn4 : H3.next < H4.next := by
        rcases a4 with ⟨h0, _⟩ | ⟨b', e', _, _, _, hb', _⟩
        · omega
        · cases e'; exact hb'
      have hg4 : H4.t.get b = some (.cells (nts R) 3 true) := by rw [k4.2 b (by omega) (fun q => hne b q rfl), k3.2 b hb2 (by simp)]; exact hg
      have kH4 : Keep H H4 [] := (hk2.trans k3).new k4 (fun z hz => by
        rcases acc with ⟨_, _, rfl⟩ | ⟨b', rfl, _, hb', _⟩
        · cases hz
        · have : z = b' := by simpa [bkv] using hz
          omega)
      first | refine wD_dreg ?_ | refine wB_dreg ?_ | refine wB_seq ?_ | (refine wOps_nil ?_; refine wD_dreg ?_)
      obtain ⟨H5, hH5⟩ : ∃ H5, H4.new (.cells [] 3 false) = H5 := ⟨_, rfl⟩
      refine wD_memh (H' := H5) (k := .heavy) rfl (by kernel_rfl) ((heap_build0 se26 zo3).trans (by rw [← hH5])) (fun b e => by cases e) ?_
      have gH5 := new_get hH5
      obtain ⟨k5, n5, _⟩ := new_facts hH5
      have hg5 : H5.t.get b = some (.cells (nts R) 3 true) := by rw [k5.2 b (by omega) (by simp)]; exact hg4
      have hlR : (nts R).length = r := by rw [nts_len, hr]
      refine wD_mov (v := slv b r r) rfl ?_
      refine wD_mov (v := iv (k : Int)) rfl ?_
      refine wD_memh (k := .read b) rfl (by kernel_rfl) (heap_head hg5 (by omega) _ _ _ _ _ _ _ rfl rfl) (fun x e => by cases e; omega) ?_
      have hone : ∀ l : List Nat, (nts l).all one = true := nts_one
      obtain ⟨v6, H6, kd6, e6, d6, a6, k6⟩ := heap_append_src (P := Try.prog) (lo := lo) (b0 := H4.next) (f := H4.next) (k := 0) (cs := []) (v := slv H4.next 0 0) (t1 := 26) (size := 1) se26 u26 (src_head (k := k) hg5 hlR (by omega)) (by rw [List.length_take, hlR]; omega) (by decide) (by rw [nts_take]; exact nts_one _) rfl (by omega) (.inl ⟨rfl, rfl, rfl, by omega, _, gH5⟩) (by omega) (by omega)
      have hg6 : H6.t.get b = some (.cells (nts R) 3 true) := by rw [k6.2 b (by omega)]; exact hg5
      have m6 := k6.1
      obtain ⟨v7, e7, s7⟩ := heap_tailk (lo := lo) (k := k) hg6 hlR (by omega)
      obtain ⟨v8, H8, kd8, e8, d8, a8, k8⟩ := heap_append_src (P := Try.prog) (lo := lo) (t1 := 26) (size := 1) se26 u26 s7 (by rw [List.length_drop, hlR]; omega) (by decide) (by unfold nts; rw [← List.map_drop]; exact nts_one _) (by rw [List.nil_append, List.length_take, hlR]; omega) (by omega) a6 (by omega) (by omega)
      have k48 : Keep H4 H8 [] := KeepB.to (KeepB.to k5 ⟨k6.1, fun z hz => k6.2 z hz⟩) ⟨k8.1, fun z hz => k8.2 z hz⟩
      have fin : ∃ q', q' < q ∧ (i + 1 + q' = n ∧ Keep H H8 [] ∧ Tn lo n H.next H8 (i + 1) v8 (slv H3.next (i + 1) (i + 1)) (O ++ [R.getD k 0]) (R.take k ++ R.drop (k + 1))) := by
        obtain ⟨p1, p2⟩ := take_out (O := O) (R := R) (k := k) (by omega) nd lt
        refine ⟨q - 1, by omega, by omega, kH4.trans k48, by simp [lO], by simp; omega, fun h0 => ?_, ?_, p1, p2⟩
        · rcases a8 with ⟨h1, h2, _⟩ | ⟨b8, rfl, h1, h2, h3, h4, h5⟩
          · exfalso; apply h0
            apply List.eq_nil_of_length_eq_zero
            rw [List.length_append, List.length_take, List.length_drop]; omega
          · have el : (R.take k ++ R.drop (k + 1)).length = 0 + k + (r - (k + 1)) := by rw [List.length_append, List.length_take, List.length_drop]; omega
            refine ⟨b8, by rw [el], by have := kH4.1; omega, h4, ?_, fun z hz => ?_⟩
            · rw [h5, nts_app]; unfold nts; rw [List.map_take, List.map_drop]; rfl
            · have : z = H3.next := by simpa [bkv] using hz
              omega
        · rw [nts_app]; exact a4.keep k48
      obtain ⟨q', hq', hfin⟩ := fin
      have bnd : b < H6.next := by omega
      rcases d6 with rfl | rfl | ⟨bs, rfl, hbs⟩ <;> rcases d8 with rfl | rfl | ⟨bt, rfl, hbt⟩
      all_goals
        refine wD_memh rfl (by kernel_rfl) (e6 _ _ _ _ _ _ _ rfl rfl) (fun x e => by cases e) ?_
        refine wD_mov (v := slv b r r) rfl ?_
        refine wD_mov (v := iv (k : Int)) rfl ?_
        refine wD_add (a := (k : Int)) (b := 1) rfl rfl ⟨by omega, by omega⟩ ?_
        refine wD_memh (k := .read b) rfl (by kernel_rfl) (e7 _ _ _ _ _ _ _ rfl rfl) (fun x e => by cases e; exact bnd) ?_
        refine wD_memh rfl (by kernel_rfl) (e8 _ _ _ _ _ _ _ rfl rfl) (fun x e => by cases e) ?_
        refine wD_mov (v := v8) rfl ?_
        refine wD_end (by repeat' first | exact True.intro | exact (fun h => h) | refine And.intro ?_ ?_ | (intro h; have h : (_ : Nat) = _ := h; omega)) ?_
        first | refine wN_reg ?_ | refine wN_blk ?_ | (refine wOps_nil ?_; refine wN_reg ?_)
        refine wN_add (a := (i : Int)) (b := 1) rfl rfl ⟨by omega, by omega⟩ ?_
        refine wN_mov (v := iv ((i : Int) + 1)) rfl ?_
        refine wN_end ?_
        exact ⟨q', (i + 1, v8, slv H3.next (i + 1) (i + 1), O ++ [R.getD k 0], R.take k ++ R.drop (k + 1)), hq', hfin, rfl, rfl, rfl, rfl, rfl, rfl, trivial⟩
    · have q2 : ¬ ((i : Int) < (n : Int)) := of_decide_eq_false q2
      have hR : R = [] := List.eq_nil_of_length_eq_zero (by omega)
      subst hR
      rw [List.append_nil] at nd lt
      have e2 : i = n := by omega
      rw [e2] at acc lO
      rcases acc with ⟨h0, _⟩ | ⟨b, rfl, _, h1, _, h2, h3⟩
      · omega
      refine wN_seq ?_
      refine wN_mov (v := slv b n n) rfl ?_
      refine wN_mov (v := slv b n n) rfl ?_
      refine wN_end ?_
      exact And.intro trivial (Exists.intro _ (And.intro rfl ⟨hk2, b, O, rfl, h1, h2, h3, lO, lt, nd⟩))
end
end Go.Ax

/-
  Flood: the law FloodOnce, whatever the input (written by program).
-/
namespace Go.Ax
open Go Go.RowKit Go.Proofs

theorem Fh.tv {g : Fh} {us : List Int} (h : g.er us = 0) : g.tl us = g.fs (no us) g.bn ∧ g.tu us = g.la us := by
  unfold Fh.tl Fh.tu; rw [h]; exact ⟨rfl, rfl⟩
theorem Fh.tn {g : Fh} {us : List Int} (h : ¬ g.er us = 0) : g.tl us = [] ∧ g.tu us = Fs.z := by
  unfold Fh.tl Fh.tu; rw [decide_eq_false h]; exact ⟨rfl, rfl⟩
theorem flc_at' {l : List Fs} {i j : Nat} {x : Fs} {v : Value} (h : l[i]? = some x) (hj : x.c[j]? = some v) : (flc l)[0 + i * 5 + j]? = some v := row_get (row_flat (f := Fs.c) (size := 5) (fun _ _ => rfl) h) hj
theorem getD_le {l : List Nat} {m : Nat} (h : ∀ n ∈ l, n ≤ m) (x : Nat) : l.getD x 0 ≤ m := by
  rw [List.getD_eq_getElem?_getD]
  cases e : l[x]? with
  | none => exact Nat.zero_le _
  | some y => exact h y (List.mem_of_getElem? e)
theorem u8_flat (l : List Nat) : l.flatMap (fun n : Nat => [Value.int .u8 (n : Int)]) = u8c l := by
  induction l with
  | nil => rfl
  | cons x l ih => rw [List.flatMap_cons, ih]; rfl
theorem once_be {g : Fh} {us : List Int} (hok : g.ok = true) (h0 : g.be ≠ 0) (ho : IsOrd us g.bn) : (g.be = 4 ∧ g.er us = 4) ∨ (g.be = 10 ∧ (g.er us = 4 ∨ g.er us = 10)) := by
  cases e : g.lst with
  | none => exact .inl ⟨Fh.be4 hok e, Fh.er_none hok e ho⟩
  | some o =>
    cases q : g.ens o
    · exact .inr ⟨Fh.be10 hok e q, Fh.er_short hok e q ho⟩
    · exact absurd (Fh.be0 hok e q) h0
theorem be_ok {g : Fh} (h : g.be = 1) : g.ok = false := by
  cases hk : g.ok with
  | false => rfl
  | true =>
    cases e : g.lst with
    | none => rw [Fh.be4 hk e] at h; cases h
    | some o =>
      cases q : g.ens o
      · rw [Fh.be10 hk e q] at h; cases h
      · rw [Fh.be0 hk e q] at h; cases h
section
variable {kn : FuncId → Option Bool} {lo : Nat} {H : Hp}
set_option maxRecDepth 100000 in
set_option maxHeartbeats 4000000 in
/-- FloodOnce -/
theorem law_once (hkn : kn 13 = some true) {g : Fh} {f mb cb : Nat} {sbv : Option Addr} {ks : List Nat} (hat : g.At f H) (hsb : Sl H sbv mb cb (u8c ks)) (hkl : ks.length = mb) (hmb2 : mb ≤ 9223372036854775807) (hlt : ∀ x, ks.getD x 0 ≤ 255) (hlo : lo ≤ H.next) : ∃ H', FnX Try.prog kn lo 8 [.agg g.v.toArray, .slice sbv mb cb] H (.bool true) H' := by
  have key := fnX_low (kn := kn) (lo := lo) (H := H) (args := [.agg g.v.toArray, .slice sbv mb cb]) (Q := fun w H' => w = .bool true) Try.func8 B8 N8 Z8 L8 (by simp) ?_
  · obtain ⟨w, H', h, rfl⟩ := key; exact ⟨H', h⟩
  have hfl := hat.le
  have fsb := hsb.old
  refine wN_seq ?_
  refine wN_box (v := .agg g.v.toArray) rfl ?_
  intro H1 kH1 nH1 c1
  have c1 : Cl H1 H.next [.slice g.ba g.bn g.bcap, .slice g.ra g.rn g.rcap, iv g.inlet, iv g.reserve, iv g.winds] := c1
  have mH1 := kH1.1
  have hat := hat.keep kH1 (by simp)
  have hsb := kH1.sl0 hsb
  refine wN_mov (v := .bool false) rfl ?_
  refine wN_end ?_
  refine wN_seq ?_
  refine wN_lda (b := H.next) (o := 0) rfl c1.rd (show row 5 _ _ = some [.slice g.ba g.bn g.bcap, .slice g.ra g.rn g.rcap, iv g.inlet, iv g.reserve, iv g.winds] from rfl) ?_
  obtain ⟨_, H2, fH2, tg, rfl, kH2, hgr⟩ := great_ok (kn := kn) (lo := lo) (H := H1) (q := 7) hat (by omega)
  refine wN_callf (vs := [.agg g.v.toArray, iv 7]) rfl (callX_args fH2) ?_
  have mH2 := kH2.1
  have hat := hat.keep kH2 (by simp)
  have hsb := kH2.sl0 hsb
  have c1 := kH2.cl c1 (by simp)
  cases tg
  · have hgr := hgr rfl
    refine wN_mov (v := .bool false) rfl ?_
    refine wN_g rfl (wN_mov (v := .slice sbv mb cb) rfl ?_)
    refine wN_g rfl (wN_len (m := mb) rfl ?_)
    refine wN_g rfl (wN_b_eql (a := (mb : Int)) (b := 0) rfl rfl ?_)
    intro t1 g1; cases t1
    · have g1 : ¬ ((mb : Int) = 0) := by simpa using g1
      refine wN_pur (v := .bool false) rfl rfl ?_
      refine wN_end ?_
      refine condF ?_
      first | refine wN_skip ?_ | skip
      refine wN_seq ?_
      refine wN_lda (b := H.next) (o := 0) rfl c1.rd (show row 5 _ _ = some [.slice g.ba g.bn g.bcap, .slice g.ra g.rn g.rcap, iv g.inlet, iv g.reserve, iv g.winds] from rfl) ?_
      obtain ⟨wH3, H3, fH3, kH3, hb⟩ := Best_ok (kn := kn) (lo := lo) (H := H2) hat (by omega)
      have mH3 := kH3.1
      have hat := hat.keep kH3 (by simp)
      have hsb := kH3.sl0 hsb
      have c1 := kH3.cl c1 (by simp)
      rcases hb with ⟨hbe, rfl⟩ | ⟨hbe, hok, sb, o, rfl, hfst, hord⟩
      · refine wN_callf (vs := [.agg g.v.toArray]) rfl (callX_args fH3) ?_
        refine wN_mov (v := .tuple #[.slice none 0 0, iv g.be]) rfl ?_
        refine wN_pur (v := .slice none 0 0) rfl (by kernel_rfl) ?_
        refine wN_pur (v := iv g.be) rfl (by kernel_rfl) ?_
        refine wN_mov (v := .slice none 0 0) rfl ?_
        refine wN_mov (v := iv g.be) rfl ?_
        refine wN_end ?_
        refine wN_seq ?_
        refine wN_mov (v := iv g.be) rfl ?_
        refine wN_c_eql (a := g.be) (b := 1) rfl rfl ?_
        refine wN_end ?_
        refine And.intro (fun q2 => ?_) (fun q2 => ?_)
        · have q2 : g.be = 1 := by simpa using q2
          refine wN_seq ?_
          refine wN_mov (v := .slice none 0 0) rfl ?_
          refine wN_len (m := 0) rfl ?_
          refine wN_b_eql (a := 0) (b := 0) rfl rfl ?_
          intro t3 g3; obtain rfl : t3 = true := by rw [← g3]; rfl
          refine wN_mov (v := .bool true) rfl ?_
          refine wN_g rfl (wN_lda (b := H.next) (o := 0) rfl c1.rd (show row 5 _ _ = some [.slice g.ba g.bn g.bcap, .slice g.ra g.rn g.rcap, iv g.inlet, iv g.reserve, iv g.winds] from rfl) ?_)
          refine wN_g rfl (wN_callB rfl (Harvest_ok hat (by omega)) ?_)
          intro tH4 H4 hH4 kH4
          have mH4 := kH4.1
          have hat := hat.keep kH4 (by simp)
          have hsb := kH4.sl0 hsb
          have c1 := kH4.cl c1 (by simp)
          cases tH4
          · refine wN_g rfl (wN_pur (v := .bool true) rfl rfl ?_)
            refine wN_pur (v := .bool true) rfl rfl ?_
            refine wN_mov (v := .bool true) rfl ?_
            refine wN_g rfl (wN_callf (vs := []) rfl (callX_known hkn) ?_)
            refine wN_pur (v := .bool true) rfl rfl ?_
            refine wN_mov (v := .bool true) rfl ?_
            refine wN_end ?_
            exact And.intro trivial (Exists.intro _ (And.intro rfl rfl))
          · exfalso; rw [be_ok (by omega)] at hH4; cases hH4
        · have q2 : ¬ (g.be = 1) := by simpa using q2
          have hok : g.ok = true := by
            cases hk : g.ok with
            | false => exact absurd (Fh.be1 hk) (by omega)
            | true => rfl
          have v := Fh.vd hok hat
          have vn := v.n
          first | refine wN_skip ?_ | skip
          refine wN_seq ?_
          refine wN_addo (b := H.next) (o := 0) rfl ?_
          refine wN_ld (b := H.next) (o := 0) (v := .slice g.ba g.bn g.bcap) rfl c1.rd rfl ?_
          refine wN_len (m := g.bn) rfl ?_
          refine wN_mov (v := .slice sbv mb cb) rfl ?_
          rcases id hsb with ⟨_, h0, _⟩ | ⟨b1, eb1, rb, _⟩
          · omega
          obtain ⟨wH5, H5, fH5, kH5, tb, ot, rfl, htb0, htb1, htb2, hot1, hot2, hot3⟩ := turned_ok (kn := kn) (lo := lo) (H := H3) (n := g.bn) (cb := cb) (by omega) (by omega) rb hkl (by omega) hmb2 hlt (by omega)
          refine wN_callf (vs := [iv (g.bn : Int), slv b1 mb cb]) (by rw [eb1]; rfl) (callX_args fH5) ?_
          have mH5 := kH5.1
          have hat := hat.keep kH5 (by simp)
          have hsb := kH5.sl0 hsb
          have c1 := kH5.cl c1 (by simp)
          have hfx : Fx H5 tb (ints (zi ot)) := ⟨htb1, .inr (.inr (nts_ints ot ▸ htb2))⟩
          have hlf : Lf H5 (some ⟨tb, 0, none⟩) g.bn g.bn (zi ot) := ⟨.inr ⟨tb, rfl, hfx.rd, Nat.le_refl _⟩, by rw [zi_len]; exact hot1, fun b e => by cases e; exact hfx⟩
          have ist := zi_ord hot1 hot2 hot3
          have hcase := once_be hok hbe ist
          refine wN_mov (v := .slice (some ⟨tb, 0, none⟩) g.bn g.bn) rfl ?_
          refine wN_end ?_
          refine wN_seq ?_
          refine wN_lda (b := H.next) (o := 0) rfl c1.rd (show row 5 _ _ = some [.slice g.ba g.bn g.bcap, .slice g.ra g.rn g.rcap, iv g.inlet, iv g.reserve, iv g.winds] from rfl) ?_
          refine wN_mov (v := .slice (some ⟨tb, 0, none⟩) g.bn g.bn) rfl ?_
          obtain ⟨wH6, H6, fH6, kH6, la1, lc1, rfl, hl1⟩ := Times_v (kn := kn) (lo := lo) (H := H5) hat hlf (by omega)
          have mH6 := kH6.1
          have hat := hat.keep kH6 (by simp)
          have hsb := kH6.sl0 hsb
          have c1 := kH6.cl c1 (by simp)
          have hlf := kH6.lf hlf (fun b e => by cases e; simp)
          have fl1 := hl1.old
          refine wN_callf (vs := [.agg g.v.toArray, slv tb g.bn g.bn]) rfl (callX_args fH6) ?_
          refine wN_mov (v := .tuple #[.slice la1 ((g.tl (zi ot)).length) lc1, .agg (g.tu (zi ot)).u.toArray, iv (g.er (zi ot))]) rfl ?_
          refine wN_pur (v := .slice la1 ((g.tl (zi ot)).length) lc1) rfl (by kernel_rfl) ?_
          refine wN_pur (v := .agg (g.tu (zi ot)).u.toArray) rfl (by kernel_rfl) ?_
          refine wN_pur (v := iv (g.er (zi ot))) rfl (by kernel_rfl) ?_
          refine wN_alc ?_
          intro H7 kH7 nH7 c7
          have c7 : Cl H7 H6.next [iv 0, iv 0, iv 0, iv 0, iv 0, iv 0, iv 0, iv 0] := c7
          have mH7 := kH7.1
          have hat := hat.keep kH7 (by simp)
          have hsb := kH7.sl0 hsb
          have c1 := kH7.cl c1 (by simp)
          have hlf := kH7.lf hlf (fun b e => by cases e; simp)
          have hl1 := kH7.sl0 hl1
          refine wN_mov (v := .slice la1 ((g.tl (zi ot)).length) lc1) rfl ?_
          refine wN_sta (b := H6.next) (o := 0) rfl rfl c7 (by omega) rfl rfl (by simp) ?_
          intro H8 kH8 nH8 sH8
          have mH8 := kH8.1
          have hat := hat.keep kH8 (fun x hx => by first | (simp at hx; done) | (simp at hx; omega))
          have hsb := kH8.sl hsb (fun b e => by have := fsb b e; first | (simp; done) | (simp; omega))
          have c1 := kH8.cl c1 (by first | (simp; done) | (simp; omega))
          have hlf := kH8.lf hlf (fun b e => by cases e; first | (simp; done) | (simp; omega))
          have hl1 := kH8.sl hl1 (fun b e => by have := fl1 b e; first | (simp; done) | (simp; omega))
          have c7 : Cl H8 H6.next [iv ((g.tu (zi ot)).t1), iv ((g.tu (zi ot)).t2), iv ((g.tu (zi ot)).l1), iv ((g.tu (zi ot)).l2), iv ((g.tu (zi ot)).s1), iv ((g.tu (zi ot)).s2), iv ((g.tu (zi ot)).r1), iv ((g.tu (zi ot)).r2)] := sH8
          refine wN_mov (v := iv (g.er (zi ot))) rfl ?_
          refine wN_end ?_
          refine wN_seq ?_
          refine wN_mov (v := iv g.be) rfl ?_
          refine wN_c_neq (a := g.be) (b := 0) rfl rfl ?_
          refine wN_end ?_
          refine And.intro (fun q4 => ?_) (fun q4 => ?_)
          · have q4 : g.be ≠ 0 := by simpa using q4
            refine wN_seq ?_
            refine wN_mov (v := .slice none 0 0) rfl ?_
            refine wN_len (m := 0) rfl ?_
            refine wN_b_eql (a := 0) (b := 0) rfl rfl ?_
            intro t5 g5; obtain rfl : t5 = true := by rw [← g5]; rfl
            refine wN_mov (v := .bool true) rfl ?_
            refine wN_g rfl (wN_mov (v := iv g.be) rfl ?_)
            refine wN_g rfl (wN_b_eql (a := g.be) (b := 4) rfl rfl ?_)
            intro t6 g6; cases t6
            · have g6 : ¬ (g.be = 4) := by simpa using g6
              refine wN_g rfl (wN_mov (v := .bool false) rfl ?_)
              refine wN_gs rfl ?_
              refine wN_gs rfl ?_
              refine wN_g rfl (wN_pur (v := .bool false) rfl rfl ?_)
              refine wN_g rfl (wN_mov (v := .bool false) rfl ?_)
              refine wN_g rfl (wN_mov (v := iv g.be) rfl ?_)
              refine wN_g rfl (wN_b_eql (a := g.be) (b := 10) rfl rfl ?_)
              intro t7 g7; cases t7
              · have g7 : ¬ (g.be = 10) := by simpa using g7
                exfalso; omega
              · have g7 : g.be = 10 := by simpa using g7
                refine wN_g rfl (wN_mov (v := .bool true) rfl ?_)
                refine wN_g rfl (wN_mov (v := iv (g.er (zi ot))) rfl ?_)
                refine wN_g rfl (wN_b_eql (a := (g.er (zi ot))) (b := 4) rfl rfl ?_)
                intro t8 g8; cases t8
                · have g8 : ¬ ((g.er (zi ot)) = 4) := by simpa using g8
                  refine wN_g rfl (wN_mov (v := .bool false) rfl ?_)
                  refine wN_g rfl (wN_mov (v := iv (g.er (zi ot))) rfl ?_)
                  refine wN_g rfl (wN_b_eql (a := (g.er (zi ot))) (b := 10) rfl rfl ?_)
                  intro t9 g9; cases t9
                  · have g9 : ¬ ((g.er (zi ot)) = 10) := by simpa using g9
                    exfalso; omega
                  · have g9 : (g.er (zi ot)) = 10 := by simpa using g9
                    refine wN_g rfl (wN_pur (v := .bool true) rfl rfl ?_)
                    refine wN_g rfl (wN_pur (v := .bool true) rfl rfl ?_)
                    refine wN_g rfl (wN_pur (v := .bool true) rfl rfl ?_)
                    refine wN_pur (v := .bool true) rfl rfl ?_
                    refine wN_mov (v := .bool true) rfl ?_
                    refine wN_g rfl (wN_callf (vs := []) rfl (callX_known hkn) ?_)
                    refine wN_pur (v := .bool true) rfl rfl ?_
                    refine wN_mov (v := .bool true) rfl ?_
                    refine wN_end ?_
                    exact And.intro trivial (Exists.intro _ (And.intro rfl rfl))
                · have g8 : (g.er (zi ot)) = 4 := by simpa using g8
                  refine wN_g rfl (wN_mov (v := .bool true) rfl ?_)
                  refine wN_gs rfl ?_
                  refine wN_gs rfl ?_
                  refine wN_g rfl (wN_pur (v := .bool true) rfl rfl ?_)
                  refine wN_g rfl (wN_pur (v := .bool true) rfl rfl ?_)
                  refine wN_g rfl (wN_pur (v := .bool true) rfl rfl ?_)
                  refine wN_pur (v := .bool true) rfl rfl ?_
                  refine wN_mov (v := .bool true) rfl ?_
                  refine wN_g rfl (wN_callf (vs := []) rfl (callX_known hkn) ?_)
                  refine wN_pur (v := .bool true) rfl rfl ?_
                  refine wN_mov (v := .bool true) rfl ?_
                  refine wN_end ?_
                  exact And.intro trivial (Exists.intro _ (And.intro rfl rfl))
            · have g6 : g.be = 4 := by simpa using g6
              refine wN_g rfl (wN_mov (v := .bool true) rfl ?_)
              refine wN_g rfl (wN_mov (v := iv (g.er (zi ot))) rfl ?_)
              refine wN_g rfl (wN_b_eql (a := (g.er (zi ot))) (b := 4) rfl rfl ?_)
              intro t10 g10; cases t10
              · have g10 : ¬ ((g.er (zi ot)) = 4) := by simpa using g10
                exfalso; omega
              · have g10 : (g.er (zi ot)) = 4 := by simpa using g10
                refine wN_g rfl (wN_pur (v := .bool true) rfl rfl ?_)
                refine wN_g rfl (wN_mov (v := .bool true) rfl ?_)
                refine wN_gs rfl ?_
                refine wN_gs rfl ?_
                refine wN_gs rfl ?_
                refine wN_gu rfl ?_
                refine wN_gu rfl ?_
                refine wN_gu rfl ?_
                refine wN_gu rfl ?_
                refine wN_gu rfl ?_
                refine wN_gu rfl ?_
                refine wN_gs rfl ?_
                refine wN_g rfl (wN_pur (v := .bool true) rfl rfl ?_)
                refine wN_pur (v := .bool true) rfl rfl ?_
                refine wN_mov (v := .bool true) rfl ?_
                refine wN_g rfl (wN_callf (vs := []) rfl (callX_known hkn) ?_)
                refine wN_pur (v := .bool true) rfl rfl ?_
                refine wN_mov (v := .bool true) rfl ?_
                refine wN_end ?_
                exact And.intro trivial (Exists.intro _ (And.intro rfl rfl))
          · have q4 : ¬ (g.be ≠ 0) := by simpa using q4
            exfalso; exact hbe (by omega)
      · obtain ⟨hsbf, hso, ho1, ho2, ho3, hcan⟩ := hord
        have v := Fh.vd hok hat
        have vn := v.n
        have lso := hso.lt
        obtain ⟨_, _, hens⟩ := Fh.bst_in (c := o) hfst
        have hens : (g.sl o).t2 ≤ g.reserve := by unfold Fh.ens at hens; simpa using hens
        have iso := zi_ord ho1 ho2 ho3
        have good : g.Good (zi o) := ⟨hok, iso, by rw [no_zi]; exact hcan, by show (g.st (no (zi o)) (g.bn - 1)).t2 ≤ _; rw [no_zi]; exact hens⟩
        refine wN_callf (vs := [.agg g.v.toArray]) rfl (callX_args fH3) ?_
        refine wN_mov (v := .tuple #[.slice (some ⟨sb, 0, none⟩) g.bn g.bn, iv 0]) rfl ?_
        refine wN_pur (v := .slice (some ⟨sb, 0, none⟩) g.bn g.bn) rfl (by kernel_rfl) ?_
        refine wN_pur (v := iv 0) rfl (by kernel_rfl) ?_
        refine wN_mov (v := .slice (some ⟨sb, 0, none⟩) g.bn g.bn) rfl ?_
        refine wN_mov (v := iv 0) rfl ?_
        refine wN_end ?_
        refine wN_seq ?_
        refine wN_mov (v := iv 0) rfl ?_
        refine wN_c_eql (a := 0) (b := 1) rfl rfl ?_
        refine wN_end ?_
        refine condF ?_
        first | refine wN_skip ?_ | skip
        refine wN_seq ?_
        refine wN_addo (b := H.next) (o := 0) rfl ?_
        refine wN_ld (b := H.next) (o := 0) (v := .slice g.ba g.bn g.bcap) rfl c1.rd rfl ?_
        refine wN_len (m := g.bn) rfl ?_
        refine wN_mov (v := .slice sbv mb cb) rfl ?_
        rcases id hsb with ⟨_, h0, _⟩ | ⟨b1, eb1, rb, _⟩
        · omega
        obtain ⟨wH9, H9, fH9, kH9, tb, ot, rfl, htb0, htb1, htb2, hot1, hot2, hot3⟩ := turned_ok (kn := kn) (lo := lo) (H := H3) (n := g.bn) (cb := cb) (by omega) (by omega) rb hkl (by omega) hmb2 hlt (by omega)
        refine wN_callf (vs := [iv (g.bn : Int), slv b1 mb cb]) (by rw [eb1]; rfl) (callX_args fH9) ?_
        have mH9 := kH9.1
        have hat := hat.keep kH9 (by simp)
        have hsb := kH9.sl0 hsb
        have c1 := kH9.cl c1 (by simp)
        have hso := kH9.sc hso (by simp)
        have hfx : Fx H9 tb (ints (zi ot)) := ⟨htb1, .inr (.inr (nts_ints ot ▸ htb2))⟩
        have hlf : Lf H9 (some ⟨tb, 0, none⟩) g.bn g.bn (zi ot) := ⟨.inr ⟨tb, rfl, hfx.rd, Nat.le_refl _⟩, by rw [zi_len]; exact hot1, fun b e => by cases e; exact hfx⟩
        have ist := zi_ord hot1 hot2 hot3
        refine wN_mov (v := .slice (some ⟨tb, 0, none⟩) g.bn g.bn) rfl ?_
        refine wN_end ?_
        refine wN_seq ?_
        refine wN_lda (b := H.next) (o := 0) rfl c1.rd (show row 5 _ _ = some [.slice g.ba g.bn g.bcap, .slice g.ra g.rn g.rcap, iv g.inlet, iv g.reserve, iv g.winds] from rfl) ?_
        refine wN_mov (v := .slice (some ⟨tb, 0, none⟩) g.bn g.bn) rfl ?_
        obtain ⟨wH10, H10, fH10, kH10, la1, lc1, rfl, hl1⟩ := Times_v (kn := kn) (lo := lo) (H := H9) hat hlf (by omega)
        have mH10 := kH10.1
        have hat := hat.keep kH10 (by simp)
        have hsb := kH10.sl0 hsb
        have c1 := kH10.cl c1 (by simp)
        have hso := kH10.sc hso (by simp)
        have hlf := kH10.lf hlf (fun b e => by cases e; simp)
        have fl1 := hl1.old
        by_cases her : g.er (zi ot) = 0
        · obtain ⟨tv1, tv2⟩ := Fh.tv her
          rw [tv1, tv2, her, Fh.fs_len] at fH10
          rw [tv1, Fh.fs_len] at hl1
          have goodt := Fh.good_of her
          have honce := Fh.once hfst ist goodt.can goodt.en
          refine wN_callf (vs := [.agg g.v.toArray, slv tb g.bn g.bn]) rfl (callX_args fH10) ?_
          refine wN_mov (v := .tuple #[.slice la1 g.bn lc1, .agg (g.la (zi ot)).u.toArray, iv 0]) rfl ?_
          refine wN_pur (v := .slice la1 g.bn lc1) rfl (by kernel_rfl) ?_
          refine wN_pur (v := .agg (g.la (zi ot)).u.toArray) rfl (by kernel_rfl) ?_
          refine wN_pur (v := iv 0) rfl (by kernel_rfl) ?_
          refine wN_alc ?_
          intro H11 kH11 nH11 c11
          have c11 : Cl H11 H10.next [iv 0, iv 0, iv 0, iv 0, iv 0, iv 0, iv 0, iv 0] := c11
          have mH11 := kH11.1
          have hat := hat.keep kH11 (by simp)
          have hsb := kH11.sl0 hsb
          have c1 := kH11.cl c1 (by simp)
          have hso := kH11.sc hso (by simp)
          have hlf := kH11.lf hlf (fun b e => by cases e; simp)
          have hl1 := kH11.sl0 hl1
          refine wN_mov (v := .slice la1 g.bn lc1) rfl ?_
          refine wN_sta (b := H10.next) (o := 0) rfl rfl c11 (by omega) rfl rfl (by simp) ?_
          intro H12 kH12 nH12 sH12
          have mH12 := kH12.1
          have hat := hat.keep kH12 (fun x hx => by first | (simp at hx; done) | (simp at hx; omega))
          have hsb := kH12.sl hsb (fun b e => by have := fsb b e; first | (simp; done) | (simp; omega))
          have c1 := kH12.cl c1 (by first | (simp; done) | (simp; omega))
          have hso := kH12.sc hso (by first | (simp; done) | (simp; omega))
          have hlf := kH12.lf hlf (fun b e => by cases e; first | (simp; done) | (simp; omega))
          have hl1 := kH12.sl hl1 (fun b e => by have := fl1 b e; first | (simp; done) | (simp; omega))
          have c11 : Cl H12 H10.next [iv ((g.la (zi ot)).t1), iv ((g.la (zi ot)).t2), iv ((g.la (zi ot)).l1), iv ((g.la (zi ot)).l2), iv ((g.la (zi ot)).s1), iv ((g.la (zi ot)).s2), iv ((g.la (zi ot)).r1), iv ((g.la (zi ot)).r2)] := sH12
          refine wN_mov (v := iv 0) rfl ?_
          refine wN_end ?_
          refine wN_seq ?_
          refine wN_mov (v := iv 0) rfl ?_
          refine wN_c_neq (a := 0) (b := 0) rfl rfl ?_
          refine wN_end ?_
          refine condF ?_
          first | refine wN_skip ?_ | skip
          refine wN_seq ?_
          refine wN_lda (b := H.next) (o := 0) rfl c1.rd (show row 5 _ _ = some [.slice g.ba g.bn g.bcap, .slice g.ra g.rn g.rcap, iv g.inlet, iv g.reserve, iv g.winds] from rfl) ?_
          refine wN_mov (v := .slice (some ⟨sb, 0, none⟩) g.bn g.bn) rfl ?_
          have hlo2 : Lf H12 (some ⟨sb, 0, none⟩) g.bn g.bn (zi o) := ⟨hso.cl.sl (Nat.le_refl _), by rw [zi_len]; exact ho1, fun b e => by cases e; exact hso.fx⟩
          obtain ⟨wH13, H13, fH13, kH13, la2, lc2, rfl, hl2⟩ := Times_v (kn := kn) (lo := lo) (H := H12) hat hlo2 (by omega)
          have ero := Fh.er0 good
          obtain ⟨tw1, tw2⟩ := Fh.tv ero
          rw [tw1, tw2, ero, Fh.fs_len, show g.la (zi o) = g.sl o from by unfold Fh.la; rw [no_zi]] at fH13
          rw [tw1, Fh.fs_len, no_zi] at hl2
          have mH13 := kH13.1
          have hat := hat.keep kH13 (by simp)
          have hsb := kH13.sl0 hsb
          have c1 := kH13.cl c1 (by simp)
          have hso := kH13.sc hso (by simp)
          have hlf := kH13.lf hlf (fun b e => by cases e; simp)
          have hl1 := kH13.sl0 hl1
          have c11 := kH13.cl c11 (by simp)
          have fl2 := hl2.old
          refine wN_callf (vs := [.agg g.v.toArray, slv sb g.bn g.bn]) (v := .tuple #[.slice la2 g.bn lc2, .agg (g.sl o).u.toArray, iv 0]) rfl (callX_args fH13) ?_
          refine wN_mov (v := .tuple #[.slice la2 g.bn lc2, .agg (g.sl o).u.toArray, iv 0]) rfl ?_
          refine wN_pur (v := .slice la2 g.bn lc2) rfl (by kernel_rfl) ?_
          refine wN_pur (v := .agg (g.sl o).u.toArray) rfl (by kernel_rfl) ?_
          refine wN_pur (v := iv 0) rfl (by kernel_rfl) ?_
          refine wN_alc ?_
          intro H14 kH14 nH14 c14
          have c14 : Cl H14 H13.next [iv 0, iv 0, iv 0, iv 0, iv 0, iv 0, iv 0, iv 0] := c14
          have mH14 := kH14.1
          have hat := hat.keep kH14 (by simp)
          have hsb := kH14.sl0 hsb
          have c1 := kH14.cl c1 (by simp)
          have hso := kH14.sc hso (by simp)
          have hlf := kH14.lf hlf (fun b e => by cases e; simp)
          have hl1 := kH14.sl0 hl1
          have c11 := kH14.cl c11 (by simp)
          have hl2 := kH14.sl0 hl2
          refine wN_mov (v := .slice la2 g.bn lc2) rfl ?_
          refine wN_sta (b := H13.next) (o := 0) rfl rfl c14 (by omega) rfl rfl (by simp) ?_
          intro H15 kH15 nH15 sH15
          have mH15 := kH15.1
          have hat := hat.keep kH15 (fun x hx => by first | (simp at hx; done) | (simp at hx; omega))
          have hsb := kH15.sl hsb (fun b e => by have := fsb b e; first | (simp; done) | (simp; omega))
          have c1 := kH15.cl c1 (by first | (simp; done) | (simp; omega))
          have hso := kH15.sc hso (by first | (simp; done) | (simp; omega))
          have hlf := kH15.lf hlf (fun b e => by cases e; first | (simp; done) | (simp; omega))
          have hl1 := kH15.sl hl1 (fun b e => by have := fl1 b e; first | (simp; done) | (simp; omega))
          have c11 := kH15.cl c11 (by first | (simp; done) | (simp; omega))
          have hl2 := kH15.sl hl2 (fun b e => by have := fl2 b e; first | (simp; done) | (simp; omega))
          have c14 : Cl H15 H13.next [iv ((g.sl o).t1), iv ((g.sl o).t2), iv ((g.sl o).l1), iv ((g.sl o).l2), iv ((g.sl o).s1), iv ((g.sl o).s2), iv ((g.sl o).r1), iv ((g.sl o).r2)] := sH15
          refine wN_mov (v := iv 0) rfl ?_
          refine wN_end ?_
          refine wN_seq ?_
          refine wN_mov (v := iv 0) rfl ?_
          refine wN_b_neq (a := 0) (b := 0) rfl rfl ?_
          intro t11 g11; obtain rfl : t11 = false := by rw [← g11]; rfl
          refine wN_mov (v := .bool false) rfl ?_
          refine wN_g rfl (wN_addo (b := H.next) (o := 0) rfl ?_)
          refine wN_g rfl (wN_ld (b := H.next) (o := 0) (v := .slice g.ba g.bn g.bcap) rfl c1.rd rfl ?_)
          refine wN_g rfl (wN_len (m := g.bn) rfl ?_)
          refine wN_g rfl (wN_mov (v := .slice (some ⟨sb, 0, none⟩) g.bn g.bn) rfl ?_)
          obtain ⟨H16, fH16, kH16⟩ := Order_ok (kn := kn) (lo := lo) (H := H15) (n := g.bn) (hso.cl.sl (Nat.le_refl g.bn)) (by rw [zi_len]; exact ho1) (by omega) (by omega)
          rw [ordB_is iso] at fH16
          refine wN_g rfl (wN_callf (vs := [iv (g.bn : Int), slv sb g.bn g.bn]) rfl (callX_args fH16) ?_)
          have mH16 := kH16.1
          have hat := hat.keep kH16 (by simp)
          have hsb := kH16.sl0 hsb
          have c1 := kH16.cl c1 (by simp)
          have hso := kH16.sc hso (by simp)
          have hlf := kH16.lf hlf (fun b e => by cases e; simp)
          have hl1 := kH16.sl0 hl1
          have c11 := kH16.cl c11 (by simp)
          have hl2 := kH16.sl0 hl2
          have c14 := kH16.cl c14 (by simp)
          refine wN_g rfl (wN_pur (v := .bool false) rfl rfl ?_)
          refine wN_pur (v := .bool false) rfl rfl ?_
          refine wN_mov (v := .bool false) rfl ?_
          refine wN_g rfl (wN_mov (v := .slice la2 g.bn lc2) rfl ?_)
          refine wN_g rfl (wN_len (m := g.bn) rfl ?_)
          refine wN_g rfl (wN_mov (v := .slice (some ⟨sb, 0, none⟩) g.bn g.bn) rfl ?_)
          refine wN_g rfl (wN_len (m := g.bn) rfl ?_)
          refine wN_g rfl (wN_b_neq (a := (g.bn : Int)) (b := (g.bn : Int)) rfl rfl ?_)
          intro t12 g12; cases t12
          · have g12 : ¬ ((g.bn : Int) ≠ (g.bn : Int)) := by simpa using g12
            refine wN_pur (v := .bool false) rfl rfl ?_
            refine wN_end ?_
            refine condF ?_
            first | refine wN_skip ?_ | skip
            refine wN_seq ?_
            refine wN_mov (v := iv 0) rfl ?_
            refine wN_c_neq (a := 0) (b := 0) rfl rfl ?_
            refine wN_end ?_
            refine condF ?_
            first | refine wN_skip ?_ | skip
            refine wN_seq ?_
            refine wN_mov (v := .slice la1 g.bn lc1) rfl ?_
            refine wN_len (m := g.bn) rfl ?_
            refine wN_mov (v := .slice la2 g.bn lc2) rfl ?_
            refine wN_len (m := g.bn) rfl ?_
            refine wN_b_neq (a := (g.bn : Int)) (b := (g.bn : Int)) rfl rfl ?_
            intro t13 g13; cases t13
            · have g13 : ¬ ((g.bn : Int) ≠ (g.bn : Int)) := by simpa using g13
              refine wN_mov (v := .bool false) rfl ?_
              refine wN_g rfl (wN_mov (v := .slice la2 g.bn lc2) rfl ?_)
              refine wN_g rfl (wN_len (m := g.bn) rfl ?_)
              refine wN_g rfl (wN_b_eql (a := (g.bn : Int)) (b := 0) rfl rfl ?_)
              intro t14 g14; cases t14
              · have g14 : ¬ ((g.bn : Int) = 0) := by simpa using g14
                refine wN_pur (v := .bool false) rfl rfl ?_
                refine wN_end ?_
                refine condF ?_
                first | refine wN_skip ?_ | skip
                refine wD_seq ?_
                refine wD_mov (v := .slice la2 g.bn lc2) rfl ?_
                refine wD_mov (v := .slice la2 g.bn lc2) rfl ?_
                refine wD_len (m := g.bn) rfl ?_
                refine wD_sub (a := (g.bn : Int)) (b := 1) rfl rfl ⟨by omega, by omega⟩ ?_
                rcases id hl2 with ⟨_, h0, _⟩ | ⟨xl2, el2, rl2, _⟩
                · omega
                have ll2 := rl2.lt
                refine wD_idx (b := xl2) (o := 0) (k := g.bn - 1) (j := (g.bn : Int) - 1) (by rw [← el2]; rfl) rfl (by omega) (by omega) ?_
                refine wD_addo (b := xl2) (o := 0 + (g.bn - 1) * 5) rfl ?_
                refine wD_addo (b := xl2) (o := 0 + (g.bn - 1) * 5 + 3) rfl ?_
                refine wD_ld (b := xl2) (o := 0 + (g.bn - 1) * 5 + 4) (v := iv ((g.sl o).d2)) rfl rl2 (flc_at' (j := 4) (Fh.fs_at (by omega)) rfl) ?_
                refine wD_mov (v := .slice la1 g.bn lc1) rfl ?_
                refine wD_mov (v := .slice la1 g.bn lc1) rfl ?_
                refine wD_len (m := g.bn) rfl ?_
                refine wD_sub (a := (g.bn : Int)) (b := 1) rfl rfl ⟨by omega, by omega⟩ ?_
                rcases id hl1 with ⟨_, h0, _⟩ | ⟨xl1, el1, rl1, _⟩
                · omega
                have ll1 := rl1.lt
                refine wD_idx (b := xl1) (o := 0) (k := g.bn - 1) (j := (g.bn : Int) - 1) (by rw [← el1]; rfl) rfl (by omega) (by omega) ?_
                refine wD_addo (b := xl1) (o := 0 + (g.bn - 1) * 5) rfl ?_
                refine wD_addo (b := xl1) (o := 0 + (g.bn - 1) * 5 + 3) rfl ?_
                refine wD_ld (b := xl1) (o := 0 + (g.bn - 1) * 5 + 4) (v := iv ((g.la (zi ot)).d2)) rfl rl1 (flc_at' (j := 4) (Fh.fs_at (by omega)) rfl) ?_
                refine wD_mov (v := iv ((g.sl o).d2)) rfl ?_
                refine wD_mov (v := iv ((g.la (zi ot)).d2)) rfl ?_
                refine wD_end (by repeat' first | exact True.intro | exact (fun h => h) | refine And.intro ?_ ?_ | (intro h; have h : (_ : Nat) = _ := h; omega)) ?_
                refine wN_seq ?_
                refine wN_mov (v := iv ((g.sl o).d2)) rfl ?_
                refine wN_mov (v := iv ((g.la (zi ot)).d2)) rfl ?_
                refine wN_b_lss (a := (g.sl o).d2) (b := (g.la (zi ot)).d2) rfl rfl ?_
                intro t15 g15; cases t15
                · have g15 : ¬ (((g.sl o).d2) < ((g.la (zi ot)).d2)) := of_decide_eq_false g15
                  refine wN_mov (v := .bool false) rfl ?_
                  refine wN_g rfl (wN_mov (v := iv ((g.sl o).d2)) rfl ?_)
                  refine wN_g rfl (wN_mov (v := iv ((g.la (zi ot)).d2)) rfl ?_)
                  refine wN_g rfl (wN_b_eql (a := (g.sl o).d2) (b := (g.la (zi ot)).d2) rfl rfl ?_)
                  intro t16 g16; cases t16
                  · have g16 : ¬ (((g.sl o).d2) = ((g.la (zi ot)).d2)) := by simpa using g16
                    exfalso; omega
                  · have g16 : ((g.sl o).d2) = ((g.la (zi ot)).d2) := by simpa using g16
                    refine wN_g rfl (wN_mov (v := .bool true) rfl ?_)
                    refine wN_g rfl (wN_addo (b := H13.next) (o := 0) rfl ?_)
                    refine wN_g rfl (wN_addo (b := H13.next) (o := 0) rfl ?_)
                    refine wN_g rfl (wN_ld (b := H13.next) (o := 1) (v := iv ((g.sl o).t2)) rfl c14.rd rfl ?_)
                    refine wN_g rfl (wN_addo (b := H10.next) (o := 0) rfl ?_)
                    refine wN_g rfl (wN_addo (b := H10.next) (o := 0) rfl ?_)
                    refine wN_g rfl (wN_ld (b := H10.next) (o := 1) (v := iv ((g.la (zi ot)).t2)) rfl c11.rd rfl ?_)
                    refine wN_g rfl (wN_b_lss (a := (g.sl o).t2) (b := (g.la (zi ot)).t2) rfl rfl ?_)
                    intro t17 g17; cases t17
                    · have g17 : ¬ (((g.sl o).t2) < ((g.la (zi ot)).t2)) := of_decide_eq_false g17
                      refine wN_g rfl (wN_mov (v := .bool false) rfl ?_)
                      refine wN_g rfl (wN_addo (b := H13.next) (o := 0) rfl ?_)
                      refine wN_g rfl (wN_addo (b := H13.next) (o := 0) rfl ?_)
                      refine wN_g rfl (wN_ld (b := H13.next) (o := 1) (v := iv ((g.sl o).t2)) rfl c14.rd rfl ?_)
                      refine wN_g rfl (wN_addo (b := H10.next) (o := 0) rfl ?_)
                      refine wN_g rfl (wN_addo (b := H10.next) (o := 0) rfl ?_)
                      refine wN_g rfl (wN_ld (b := H10.next) (o := 1) (v := iv ((g.la (zi ot)).t2)) rfl c11.rd rfl ?_)
                      refine wN_g rfl (wN_b_eql (a := (g.sl o).t2) (b := (g.la (zi ot)).t2) rfl rfl ?_)
                      intro t18 g18; cases t18
                      · have g18 : ¬ (((g.sl o).t2) = ((g.la (zi ot)).t2)) := by simpa using g18
                        exfalso; omega
                      · have g18 : ((g.sl o).t2) = ((g.la (zi ot)).t2) := by simpa using g18
                        refine wN_g rfl (wN_mov (v := .bool true) rfl ?_)
                        refine wN_g rfl (wN_mov (v := .slice (some ⟨tb, 0, none⟩) g.bn g.bn) rfl ?_)
                        refine wN_g rfl (wN_mov (v := .slice (some ⟨sb, 0, none⟩) g.bn g.bn) rfl ?_)
                        obtain ⟨H17, fH17, kH17⟩ := before_ok (kn := kn) (lo := lo) (H := H16) (m := g.bn) (cap := g.bn) (cap2 := g.bn) (hlf.fx tb rfl).rd hso.cl.rd (by rw [zi_len]; exact hot1) (by rw [zi_len]; exact ho1) (by omega)
                        have hnl : ¬ lexC (zi ot) (zi o) < 0 := by omega
                        rw [decide_eq_false hnl] at fH17
                        refine wN_g rfl (wN_callf (vs := [slv tb g.bn g.bn, slv sb g.bn g.bn]) rfl (callX_args fH17) ?_)
                        have mH17 := kH17.1
                        have hat := hat.keep kH17 (by simp)
                        have hsb := kH17.sl0 hsb
                        have c1 := kH17.cl c1 (by simp)
                        have hso := kH17.sc hso (by simp)
                        have hlf := kH17.lf hlf (fun b e => by cases e; simp)
                        have hl1 := kH17.sl0 hl1
                        have c11 := kH17.cl c11 (by simp)
                        have hl2 := kH17.sl0 hl2
                        have c14 := kH17.cl c14 (by simp)
                        have rl2 := kH17.rd rl2 (by simp)
                        have rl1 := kH17.rd rl1 (by simp)
                        refine wN_g rfl (wN_pur (v := .bool true) rfl rfl ?_)
                        refine wN_g rfl (wN_pur (v := .bool true) rfl rfl ?_)
                        refine wN_g rfl (wN_pur (v := .bool true) rfl rfl ?_)
                        refine wN_g rfl (wN_pur (v := .bool true) rfl rfl ?_)
                        refine wN_pur (v := .bool true) rfl rfl ?_
                        refine wN_mov (v := .bool true) rfl ?_
                        refine wN_g rfl (wN_callf (vs := []) rfl (callX_known hkn) ?_)
                        refine wN_pur (v := .bool true) rfl rfl ?_
                        refine wN_mov (v := .bool true) rfl ?_
                        refine wN_end ?_
                        exact And.intro trivial (Exists.intro _ (And.intro rfl rfl))
                    · have g17 : ((g.sl o).t2) < ((g.la (zi ot)).t2) := of_decide_eq_true g17
                      refine wN_g rfl (wN_mov (v := .bool true) rfl ?_)
                      refine wN_gs rfl ?_
                      refine wN_gs rfl ?_
                      refine wN_gs rfl ?_
                      refine wN_gs rfl ?_
                      refine wN_gs rfl ?_
                      refine wN_gs rfl ?_
                      refine wN_gs rfl ?_
                      refine wN_gs rfl ?_
                      refine wN_gu rfl ?_
                      refine wN_gu rfl ?_
                      refine wN_gu rfl ?_
                      refine wN_gu rfl ?_
                      refine wN_gs rfl ?_
                      refine wN_g rfl (wN_pur (v := .bool true) rfl rfl ?_)
                      refine wN_g rfl (wN_pur (v := .bool true) rfl rfl ?_)
                      refine wN_pur (v := .bool true) rfl rfl ?_
                      refine wN_mov (v := .bool true) rfl ?_
                      refine wN_g rfl (wN_callf (vs := []) rfl (callX_known hkn) ?_)
                      refine wN_pur (v := .bool true) rfl rfl ?_
                      refine wN_mov (v := .bool true) rfl ?_
                      refine wN_end ?_
                      exact And.intro trivial (Exists.intro _ (And.intro rfl rfl))
                · have g15 : ((g.sl o).d2) < ((g.la (zi ot)).d2) := of_decide_eq_true g15
                  refine wN_mov (v := .bool true) rfl ?_
                  refine wN_gs rfl ?_
                  refine wN_gs rfl ?_
                  refine wN_gs rfl ?_
                  refine wN_gs rfl ?_
                  refine wN_gu rfl ?_
                  refine wN_gu rfl ?_
                  refine wN_gu rfl ?_
                  refine wN_gu rfl ?_
                  refine wN_gu rfl ?_
                  refine wN_gu rfl ?_
                  refine wN_gu rfl ?_
                  refine wN_gu rfl ?_
                  refine wN_gu rfl ?_
                  refine wN_gu rfl ?_
                  refine wN_gu rfl ?_
                  refine wN_gu rfl ?_
                  refine wN_gu rfl ?_
                  refine wN_gu rfl ?_
                  refine wN_gu rfl ?_
                  refine wN_gu rfl ?_
                  refine wN_gu rfl ?_
                  refine wN_gu rfl ?_
                  refine wN_gu rfl ?_
                  refine wN_gu rfl ?_
                  refine wN_gu rfl ?_
                  refine wN_gu rfl ?_
                  refine wN_gs rfl ?_
                  refine wN_pur (v := .bool true) rfl rfl ?_
                  refine wN_mov (v := .bool true) rfl ?_
                  refine wN_g rfl (wN_callf (vs := []) rfl (callX_known hkn) ?_)
                  refine wN_pur (v := .bool true) rfl rfl ?_
                  refine wN_mov (v := .bool true) rfl ?_
                  refine wN_end ?_
                  exact And.intro trivial (Exists.intro _ (And.intro rfl rfl))
              · have g14 : (g.bn : Int) = 0 := by simpa using g14
                exfalso; omega
            · have g13 : (g.bn : Int) ≠ (g.bn : Int) := by simpa using g13
              exfalso; omega
          · have g12 : (g.bn : Int) ≠ (g.bn : Int) := by simpa using g12
            exfalso; omega
        · obtain ⟨tv1, tv2⟩ := Fh.tn her
          rw [tv1, tv2] at fH10
          rw [tv1] at hl1
          refine wN_callf (vs := [.agg g.v.toArray, slv tb g.bn g.bn]) rfl (callX_args fH10) ?_
          refine wN_mov (v := .tuple #[.slice la1 0 lc1, .agg Fs.z.u.toArray, iv (g.er (zi ot))]) rfl ?_
          refine wN_pur (v := .slice la1 0 lc1) rfl (by kernel_rfl) ?_
          refine wN_pur (v := .agg Fs.z.u.toArray) rfl (by kernel_rfl) ?_
          refine wN_pur (v := iv (g.er (zi ot))) rfl (by kernel_rfl) ?_
          refine wN_alc ?_
          intro H18 kH18 nH18 c18
          have c18 : Cl H18 H10.next [iv 0, iv 0, iv 0, iv 0, iv 0, iv 0, iv 0, iv 0] := c18
          have mH18 := kH18.1
          have hat := hat.keep kH18 (by simp)
          have hsb := kH18.sl0 hsb
          have c1 := kH18.cl c1 (by simp)
          have hso := kH18.sc hso (by simp)
          have hlf := kH18.lf hlf (fun b e => by cases e; simp)
          have hl1 := kH18.sl0 hl1
          refine wN_mov (v := .slice la1 0 lc1) rfl ?_
          refine wN_sta (b := H10.next) (o := 0) rfl rfl c18 (by omega) rfl rfl (by simp) ?_
          intro H19 kH19 nH19 sH19
          have mH19 := kH19.1
          have hat := hat.keep kH19 (fun x hx => by first | (simp at hx; done) | (simp at hx; omega))
          have hsb := kH19.sl hsb (fun b e => by have := fsb b e; first | (simp; done) | (simp; omega))
          have c1 := kH19.cl c1 (by first | (simp; done) | (simp; omega))
          have hso := kH19.sc hso (by first | (simp; done) | (simp; omega))
          have hlf := kH19.lf hlf (fun b e => by cases e; first | (simp; done) | (simp; omega))
          have hl1 := kH19.sl hl1 (fun b e => by have := fl1 b e; first | (simp; done) | (simp; omega))
          have c18 : Cl H19 H10.next [iv Fs.z.t1, iv Fs.z.t2, iv Fs.z.l1, iv Fs.z.l2, iv Fs.z.s1, iv Fs.z.s2, iv Fs.z.r1, iv Fs.z.r2] := sH19
          refine wN_mov (v := iv (g.er (zi ot))) rfl ?_
          refine wN_end ?_
          refine wN_seq ?_
          refine wN_mov (v := iv 0) rfl ?_
          refine wN_c_neq (a := 0) (b := 0) rfl rfl ?_
          refine wN_end ?_
          refine condF ?_
          first | refine wN_skip ?_ | skip
          refine wN_seq ?_
          refine wN_lda (b := H.next) (o := 0) rfl c1.rd (show row 5 _ _ = some [.slice g.ba g.bn g.bcap, .slice g.ra g.rn g.rcap, iv g.inlet, iv g.reserve, iv g.winds] from rfl) ?_
          refine wN_mov (v := .slice (some ⟨sb, 0, none⟩) g.bn g.bn) rfl ?_
          have hlo2 : Lf H19 (some ⟨sb, 0, none⟩) g.bn g.bn (zi o) := ⟨hso.cl.sl (Nat.le_refl _), by rw [zi_len]; exact ho1, fun b e => by cases e; exact hso.fx⟩
          obtain ⟨wH20, H20, fH20, kH20, la2, lc2, rfl, hl2⟩ := Times_v (kn := kn) (lo := lo) (H := H19) hat hlo2 (by omega)
          have ero := Fh.er0 good
          obtain ⟨tw1, tw2⟩ := Fh.tv ero
          rw [tw1, tw2, ero, Fh.fs_len, show g.la (zi o) = g.sl o from by unfold Fh.la; rw [no_zi]] at fH20
          rw [tw1, Fh.fs_len, no_zi] at hl2
          have mH20 := kH20.1
          have hat := hat.keep kH20 (by simp)
          have hsb := kH20.sl0 hsb
          have c1 := kH20.cl c1 (by simp)
          have hso := kH20.sc hso (by simp)
          have hlf := kH20.lf hlf (fun b e => by cases e; simp)
          have hl1 := kH20.sl0 hl1
          have c18 := kH20.cl c18 (by simp)
          have fl2 := hl2.old
          refine wN_callf (vs := [.agg g.v.toArray, slv sb g.bn g.bn]) (v := .tuple #[.slice la2 g.bn lc2, .agg (g.sl o).u.toArray, iv 0]) rfl (callX_args fH20) ?_
          refine wN_mov (v := .tuple #[.slice la2 g.bn lc2, .agg (g.sl o).u.toArray, iv 0]) rfl ?_
          refine wN_pur (v := .slice la2 g.bn lc2) rfl (by kernel_rfl) ?_
          refine wN_pur (v := .agg (g.sl o).u.toArray) rfl (by kernel_rfl) ?_
          refine wN_pur (v := iv 0) rfl (by kernel_rfl) ?_
          refine wN_alc ?_
          intro H21 kH21 nH21 c21
          have c21 : Cl H21 H20.next [iv 0, iv 0, iv 0, iv 0, iv 0, iv 0, iv 0, iv 0] := c21
          have mH21 := kH21.1
          have hat := hat.keep kH21 (by simp)
          have hsb := kH21.sl0 hsb
          have c1 := kH21.cl c1 (by simp)
          have hso := kH21.sc hso (by simp)
          have hlf := kH21.lf hlf (fun b e => by cases e; simp)
          have hl1 := kH21.sl0 hl1
          have c18 := kH21.cl c18 (by simp)
          have hl2 := kH21.sl0 hl2
          refine wN_mov (v := .slice la2 g.bn lc2) rfl ?_
          refine wN_sta (b := H20.next) (o := 0) rfl rfl c21 (by omega) rfl rfl (by simp) ?_
          intro H22 kH22 nH22 sH22
          have mH22 := kH22.1
          have hat := hat.keep kH22 (fun x hx => by first | (simp at hx; done) | (simp at hx; omega))
          have hsb := kH22.sl hsb (fun b e => by have := fsb b e; first | (simp; done) | (simp; omega))
          have c1 := kH22.cl c1 (by first | (simp; done) | (simp; omega))
          have hso := kH22.sc hso (by first | (simp; done) | (simp; omega))
          have hlf := kH22.lf hlf (fun b e => by cases e; first | (simp; done) | (simp; omega))
          have hl1 := kH22.sl hl1 (fun b e => by have := fl1 b e; first | (simp; done) | (simp; omega))
          have c18 := kH22.cl c18 (by first | (simp; done) | (simp; omega))
          have hl2 := kH22.sl hl2 (fun b e => by have := fl2 b e; first | (simp; done) | (simp; omega))
          have c21 : Cl H22 H20.next [iv ((g.sl o).t1), iv ((g.sl o).t2), iv ((g.sl o).l1), iv ((g.sl o).l2), iv ((g.sl o).s1), iv ((g.sl o).s2), iv ((g.sl o).r1), iv ((g.sl o).r2)] := sH22
          refine wN_mov (v := iv 0) rfl ?_
          refine wN_end ?_
          refine wN_seq ?_
          refine wN_mov (v := iv 0) rfl ?_
          refine wN_b_neq (a := 0) (b := 0) rfl rfl ?_
          intro t19 g19; obtain rfl : t19 = false := by rw [← g19]; rfl
          refine wN_mov (v := .bool false) rfl ?_
          refine wN_g rfl (wN_addo (b := H.next) (o := 0) rfl ?_)
          refine wN_g rfl (wN_ld (b := H.next) (o := 0) (v := .slice g.ba g.bn g.bcap) rfl c1.rd rfl ?_)
          refine wN_g rfl (wN_len (m := g.bn) rfl ?_)
          refine wN_g rfl (wN_mov (v := .slice (some ⟨sb, 0, none⟩) g.bn g.bn) rfl ?_)
          obtain ⟨H23, fH23, kH23⟩ := Order_ok (kn := kn) (lo := lo) (H := H22) (n := g.bn) (hso.cl.sl (Nat.le_refl g.bn)) (by rw [zi_len]; exact ho1) (by omega) (by omega)
          rw [ordB_is iso] at fH23
          refine wN_g rfl (wN_callf (vs := [iv (g.bn : Int), slv sb g.bn g.bn]) rfl (callX_args fH23) ?_)
          have mH23 := kH23.1
          have hat := hat.keep kH23 (by simp)
          have hsb := kH23.sl0 hsb
          have c1 := kH23.cl c1 (by simp)
          have hso := kH23.sc hso (by simp)
          have hlf := kH23.lf hlf (fun b e => by cases e; simp)
          have hl1 := kH23.sl0 hl1
          have c18 := kH23.cl c18 (by simp)
          have hl2 := kH23.sl0 hl2
          have c21 := kH23.cl c21 (by simp)
          refine wN_g rfl (wN_pur (v := .bool false) rfl rfl ?_)
          refine wN_pur (v := .bool false) rfl rfl ?_
          refine wN_mov (v := .bool false) rfl ?_
          refine wN_g rfl (wN_mov (v := .slice la2 g.bn lc2) rfl ?_)
          refine wN_g rfl (wN_len (m := g.bn) rfl ?_)
          refine wN_g rfl (wN_mov (v := .slice (some ⟨sb, 0, none⟩) g.bn g.bn) rfl ?_)
          refine wN_g rfl (wN_len (m := g.bn) rfl ?_)
          refine wN_g rfl (wN_b_neq (a := (g.bn : Int)) (b := (g.bn : Int)) rfl rfl ?_)
          intro t20 g20; cases t20
          · have g20 : ¬ ((g.bn : Int) ≠ (g.bn : Int)) := by simpa using g20
            refine wN_pur (v := .bool false) rfl rfl ?_
            refine wN_end ?_
            refine condF ?_
            first | refine wN_skip ?_ | skip
            refine wN_seq ?_
            refine wN_mov (v := iv (g.er (zi ot))) rfl ?_
            refine wN_c_neq (a := (g.er (zi ot))) (b := 0) rfl rfl ?_
            refine wN_end ?_
            refine And.intro (fun q21 => ?_) (fun q21 => ?_)
            · have q21 : (g.er (zi ot)) ≠ 0 := by simpa using q21
              refine wN_seq ?_
              refine wN_mov (v := .slice la1 0 lc1) rfl ?_
              refine wN_len (m := 0) rfl ?_
              refine wN_b_eql (a := 0) (b := 0) rfl rfl ?_
              intro t22 g22; obtain rfl : t22 = true := by rw [← g22]; rfl
              refine wN_mov (v := .bool true) rfl ?_
              refine wN_g rfl (wN_callf (vs := []) rfl (callX_known hkn) ?_)
              refine wN_pur (v := .bool true) rfl rfl ?_
              refine wN_mov (v := .bool true) rfl ?_
              refine wN_end ?_
              exact And.intro trivial (Exists.intro _ (And.intro rfl rfl))
            · have q21 : ¬ ((g.er (zi ot)) ≠ 0) := by simpa using q21
              exfalso; exact her (by omega)
          · have g20 : (g.bn : Int) ≠ (g.bn : Int) := by simpa using g20
            exfalso; omega
    · have g1 : (mb : Int) = 0 := by simpa using g1
      refine wN_pur (v := .bool true) rfl rfl ?_
      refine wN_end ?_
      refine condT ?_
      refine wN_seq ?_
      refine wN_callf (vs := []) rfl (callX_known hkn) ?_
      refine wN_mov (v := .bool true) rfl ?_
      refine wN_end ?_
      exact And.intro trivial (Exists.intro _ (And.intro rfl rfl))
  · refine wN_mov (v := .bool true) rfl ?_
    refine wN_gs rfl ?_
    refine wN_gs rfl ?_
    refine wN_gs rfl ?_
    refine wN_pur (v := .bool true) rfl rfl ?_
    refine wN_end ?_
    refine condT ?_
    refine wN_seq ?_
    refine wN_callf (vs := []) rfl (callX_known hkn) ?_
    refine wN_mov (v := .bool true) rfl ?_
    refine wN_end ?_
    exact And.intro trivial (Exists.intro _ (And.intro rfl rfl))
end
end Go.Ax

namespace Go.Ax
open Go Go.RowKit Go.Proofs Go.ChangeShapes Go.WideShapes Go.Deep

/-- A type whose cells are whole numbers. -/
def IntT (P : Program) (t : TypeId) : Prop := ∀ (H : Type) (enc : TypeId × Value → H) (w : World) (base : Nat) (spare : Nat → Bool) (held : Bool) (fuel : Nat) (cs : List Value) (x : DataW H × List MemPlace),
  DataW.trod enc P w base spare held fuel t cs = some x → cs.length = P.cellsOf t ∧ ∀ j, j < cs.length → ∃ n, cs[j]? = some (.int .i64 n)
theorem IntT.int {P : Program} {t : TypeId} (ht : P.underlying t = some (.int .i64)) (hc : P.cellsOf t = 1) : IntT P t := by
  intro H enc w base spare held fuel cs x h
  obtain ⟨n, rfl, _⟩ := DataW.trod_int ht h
  refine ⟨by rw [hc]; rfl, fun j hj => ⟨n, ?_⟩⟩
  have : j = 0 := by simp at hj; omega
  subst this; rfl
theorem IntT.struct {P : Program} {t : TypeId} {fs : Array Field} (ht : P.underlying t = some (.struct fs)) (hf : ∀ f ∈ fs.toList, IntT P f.type)
    (hcov : ((List.range (P.cellsOf t)).all fun j => fs.toList.any fun f => decide (f.offset ≤ j) && decide (j < f.offset + P.cellsOf f.type)) = true) : IntT P t := by
  intro H enc w base spare held fuel cs x h
  obtain ⟨xs, n, _, _, hlen, hxl, hg⟩ := DataW.trod_struct ht h
  refine ⟨hlen, fun j hj => ?_⟩
  have h1 := List.all_eq_true.1 hcov j (List.mem_range.2 (by omega))
  obtain ⟨f, hfm, h2⟩ := List.any_eq_true.1 h1
  simp only [Bool.and_eq_true, decide_eq_true_eq] at h2
  obtain ⟨i, hi, hfi⟩ := List.getElem_of_mem hfm
  have hfs : fs[i]? = some f := by
    rw [← Array.getElem?_toList, List.getElem?_eq_getElem hi, hfi]
  have hi2 : i < xs.length := by simpa [hxl] using hi
  have h3 := hg i f hfs
  rw [List.getElem?_eq_getElem hi2] at h3
  obtain ⟨h4, h5⟩ := hf f hfm _ _ _ _ _ _ _ _ _ h3
  obtain ⟨m, hm⟩ := h5 (j - f.offset) (by omega)
  refine ⟨m, ?_⟩
  rw [List.getElem?_take] at hm
  split at hm
  · rw [List.getElem?_drop, show f.offset + (j - f.offset) = j by omega] at hm; exact hm
  · cases hm

/-- A slice of rows of whole numbers, as it is given. -/
structure Given {α : Type} (w : World) (v : Value) (f : α → List Value) (l : List α) (x : Imp) : Prop where
  ok : ∀ (i : Nat) u, x.cs[i]? = some u → w.cell? ⟨x.blk, x.off + i, none⟩ = some u ∧ flat1 u = true
  cs : x.cs = l.flatMap f
  v : (v = .slice none 0 0 ∧ l = []) ∨ ∃ cap, v = .slice (some ⟨x.blk, x.off, none⟩) l.length cap ∧ l.length ≤ cap
theorem flat_get {α : Type} {f : α → List Value} {k : Nat} (hk : 0 < k) : ∀ {l : List α} (_ : ∀ x ∈ l, (f x).length = k) (i : Nat) (u : Value), (l.flatMap f)[i]? = some u → ∃ x, l[i / k]? = some x ∧ (f x)[i % k]? = some u
  | [], _, i, u, h => by simp at h
  | y :: r, hl, i, u, h => by
    have hy := hl y (List.mem_cons_self ..)
    rw [List.flatMap_cons, List.getElem?_append] at h
    split at h
    · rename_i q
      rw [hy] at q
      refine ⟨y, ?_, ?_⟩
      · rw [Nat.div_eq_of_lt q]; rfl
      · rw [Nat.mod_eq_of_lt q]; exact h
    · rename_i q
      rw [hy] at q h
      obtain ⟨x, h1, h2⟩ := flat_get hk (fun x hx => hl x (List.mem_cons_of_mem _ hx)) _ u h
      refine ⟨x, ?_, ?_⟩
      · rw [Nat.div_eq_sub_div hk (by omega)]; exact h1
      · rw [Nat.mod_eq_sub_mod (by omega)]; exact h2
theorem Given.rel {α : Type} {w : World} {v : Value} {f : α → List Value} {l : List α} {x : Imp} (g : Given w v f l x) {r : Ren} {H : Hp} {b : Nat} (hr : r b = some ⟨x.blk, x.off, none⟩) (hb : b < H.next) (hc : cellsOf H b = some x.cs) (hro : H.t.get b = some (.ro x.cs)) :
    ∃ a cap, VR r (.slice a l.length cap) v ∧ Sl H a l.length cap (l.flatMap f) ∧ ∀ b, a = some ⟨b, 0, none⟩ → H.t.get b = some (.ro (l.flatMap f)) := by
  rcases g.v with ⟨rfl, rfl⟩ | ⟨cap, rfl, hl⟩
  · exact ⟨none, 0, .nilSlice, .inl ⟨.inl rfl, rfl, rfl, rfl⟩, fun b e => by cases e⟩
  · refine ⟨some ⟨b, 0, none⟩, cap, ?_, .inr ⟨b, rfl, ⟨hb, by rw [hc, g.cs]⟩, hl⟩, fun b' e => by cases e; rw [hro, g.cs]⟩
    have := VR.slice (o := 0) (n := l.length) (c := cap) hr rfl hl
    simpa using this
theorem flat_ints (us : List Int) : us.flatMap (fun x => [iv x]) = ints us := by
  induction us with
  | nil => rfl
  | cons u us ih => rw [List.flatMap_cons, ih]; rfl
end Go.Ax

/-! Slices of rows of plain cells, as arguments. -/
namespace Go.Ax
open Go Go.RowKit Go.Proofs Go.ChangeShapes Go.WideShapes Go.Deep

theorem IntT.row {α : Type} {P : Program} {t : TypeId} {k : Nat} {f : α → List Value} {mk : (Nat → Int) → α} (h : IntT P t) (hc : P.cellsOf t = k) (hmk : ∀ N : Nat → Int, f (mk N) = (List.range k).map fun j => Value.int .i64 (N j))
    {H : Type} {enc : TypeId × Value → H} {w : World} {base : Nat} {spare : Nat → Bool} {held : Bool} (fuel : Nat) (cs : List Value) (x : DataW H × List MemPlace) (hx : DataW.trod enc P w base spare held fuel t cs = some x) : ∃ y : α, cs = f y ∧ True := by
  obtain ⟨h1, h2⟩ := h _ _ _ _ _ _ _ _ _ hx
  have : ∃ N : Nat → Int, ∀ j, j < cs.length → cs[j]? = some (.int .i64 (N j)) := by
    refine ⟨fun j => match cs[j]? with | some (.int _ n) => n | _ => 0, fun j hj => ?_⟩
    obtain ⟨n, hn⟩ := h2 j hj
    simp [hn]
  obtain ⟨N, hN⟩ := this
  refine ⟨mk N, ?_, trivial⟩
  rw [hmk]
  apply List.ext_getElem?
  intro j
  by_cases hj : j < k
  · rw [hN j (by omega), List.getElem?_map, List.getElem?_range hj]; rfl
  · rw [List.getElem?_eq_none (by omega), List.getElem?_eq_none (by simp; omega)]
theorem spot_of {w : World} {a : Addr} {v : Value} (h : w.cell? a = some v) : a.spot = none := by
  unfold World.cell? at h
  split at h
  · cases hs : a.spot with
    | none => rfl
    | some x => rw [hs] at h; simp at h
  · cases h
theorem add_zero' (a : Addr) : a.add 0 = a := by unfold Addr.add; simp
theorem add_plain (b o n : Nat) : (⟨b, o, none⟩ : Addr).add n = ⟨b, o + n, none⟩ := by
  unfold Addr.add
  by_cases q : n = 0
  · simp [q]
  · simp [q]
/-- A slice of rows, as it is read; Q: what else is known of a row. -/
theorem rows_read {H : Type} {enc : TypeId × Value → H} {P : Program} {w : World} {base : Nat} {held : Bool} {α : Type} {f : α → List Value} {Q : α → Prop} {k : Nat} {t e : TypeId} {fuel : Nat} {v : Value} {x : DataW H × List MemPlace}
    (ht : P.underlying t = some (.slice e)) (hR : ∀ (fuel : Nat) (cs : List Value) (x : DataW H × List MemPlace), DataW.trod enc P w base (fun _ => true) held fuel e cs = some x → ∃ y : α, cs = f y ∧ Q y) (hc : P.cellsOf e = k) (hk : 0 < k) (hfk : ∀ y, (f y).length = k)
    (h : DataW.trod enc P w base (fun _ => true) held fuel t [v] = some x) : ∃ (l : List α), l.length ≤ maxLen ∧ (∀ y ∈ l, Q y) ∧
      (((v = .slice none 0 0 ∨ ∃ a', v = .slice (some a') 0 0) ∧ l = []) ∨ ∃ blk off cap, v = .slice (some ⟨blk, off, none⟩) l.length cap ∧ l.length ≤ cap ∧ ∀ (i : Nat) u, (l.flatMap f)[i]? = some u → w.cell? ⟨blk, off + i, none⟩ = some u) := by
  rcases open_slice ht h with ⟨h0, _⟩ | ⟨a, len, cap, m, n, D, Pl, hcs, hb, hl, hm, hmm, hx, hi⟩
  · cases h0
    exact ⟨[], by simp, fun y hy => by simp at hy, .inl ⟨.inl rfl, rfl⟩⟩
  cases hcs
  simp only [if_true] at hmm
  subst hmm
  rcases Nat.eq_zero_or_pos m with h0 | h0
  · subst h0
    have : len = 0 := by omega
    subst this
    exact ⟨[], by simp, fun y hy => by simp at hy, .inl ⟨.inr ⟨_, rfl⟩, rfl⟩⟩
  obtain ⟨blk, off, spot⟩ := a
  have hs : spot = none := by
    obtain ⟨cs', h1, h2⟩ := hi 0 h0
    obtain ⟨y, hy, _⟩ := hR _ _ _ h2
    obtain ⟨_, h5, h6⟩ := World.cells?_some h1
    have h7 := h6 0 (by omega)
    rw [Nat.zero_mul, add_zero', add_zero'] at h7
    have h8 : cs'[0]? = some (cs'[0]'(by omega)) := List.getElem?_eq_getElem _
    rw [h8] at h7
    exact spot_of h7
  subst hs
  have hrow : ∀ i, i < len → ∃ y : α, Q y ∧ ∀ j, j < k → ∃ u, (f y)[j]? = some u ∧ w.cell? ⟨blk, off + (i * k + j), none⟩ = some u := by
    intro i hil
    obtain ⟨cs', h1, h2⟩ := hi i (by omega)
    obtain ⟨y, rfl, hq⟩ := hR _ _ _ h2
    obtain ⟨_, h5, h6⟩ := World.cells?_some h1
    refine ⟨y, hq, fun j hj => ?_⟩
    have h7 := h6 j (by omega)
    have h8 : (f y)[j]? = some ((f y)[j]'(by rw [hfk]; exact hj)) := List.getElem?_eq_getElem _
    rw [h8, hc, add_plain, add_plain, Nat.add_assoc] at h7
    exact ⟨_, h8, h7⟩
  have key : ∀ n, n ≤ len → ∃ l : List α, l.length = n ∧ (∀ y ∈ l, Q y) ∧ ∀ (i : Nat) y, l[i]? = some y → ∀ j, j < k → ∃ u, (f y)[j]? = some u ∧ w.cell? ⟨blk, off + (i * k + j), none⟩ = some u := by
    intro n
    induction n with
    | zero => intro _; exact ⟨[], rfl, fun y hy => by simp at hy, fun i y e => by simp at e⟩
    | succ n ih =>
      intro hn
      obtain ⟨l, h1, hq, h2⟩ := ih (by omega)
      obtain ⟨y, hyq, hy⟩ := hrow n (by omega)
      refine ⟨l ++ [y], by simp [h1], fun z hz => ?_, fun i z e => ?_⟩
      · simp only [List.mem_append, List.mem_singleton] at hz
        rcases hz with hz | rfl
        · exact hq z hz
        · exact hyq
      rw [List.getElem?_append] at e
      split at e
      · exact h2 i z e
      · rename_i q
        have : i = n := by have := get_lt e; simp at this; omega
        subst this
        rw [h1, Nat.sub_self] at e
        simp at e; subst e
        exact hy
  obtain ⟨l, hl1, hq, hl2⟩ := key len (Nat.le_refl _)
  refine ⟨l, by omega, hq, .inr ⟨blk, off, m, by rw [hl1], by omega, fun i u hu => ?_⟩⟩
  obtain ⟨y, h1, h2⟩ := flat_get hk (fun y _ => hfk y) i u hu
  have hj : i % k < k := Nat.mod_lt _ hk
  obtain ⟨u', e1, e2⟩ := hl2 _ y h1 _ hj
  rw [h2] at e1; cases e1
  rw [Nat.div_add_mod'] at e2
  exact e2
/-- Rows of plain cells. -/
theorem rows_givenG {H : Type} {enc : TypeId × Value → H} {P : Program} {w : World} {base b0 : Nat} {r : Reach} {held : Bool} {α : Type} {f : α → List Value} {Q : α → Prop} {k : Nat} {t e : TypeId} {fuel : Nat} {v : Value} {x : DataW H × List MemPlace}
    (ht : P.underlying t = some (.slice e)) (hR : ∀ (fuel : Nat) (cs : List Value) (x : DataW H × List MemPlace), DataW.trod enc P w base (fun _ => true) held fuel e cs = some x → ∃ y : α, cs = f y ∧ Q y) (hc : P.cellsOf e = k) (hk : 0 < k) (hfk : ∀ y, (f y).length = k) (hflat : ∀ y u, u ∈ f y → flat1 u = true)
    (hok : Cell.okWide P w r b0 t v) (h : DataW.trod enc P w base (fun _ => true) held fuel t [v] = some x) : ∃ (l : List α) (y : Imp), Given w v f l y ∧ l.length ≤ maxLen ∧ ∀ y ∈ l, Q y := by
  obtain ⟨l, h1, h2, ⟨h3, rfl⟩ | ⟨blk, off, cap, h3, h4, h5⟩⟩ := rows_read ht hR hc hk hfk h
  · rcases h3 with h3 | ⟨⟨blk, off, spot⟩, rfl⟩
    · exact ⟨[], ⟨0, 0, []⟩, ⟨fun i u e => by simp at e, rfl, .inl ⟨h3, rfl⟩⟩, h1, h2⟩
    · have hs : spot = none := by
        unfold Cell.okWide at hok
        rw [ht] at hok
        unfold Cell.ok at hok
        simp only [ht] at hok
        exact hok.2.2.2.1
      subst hs
      exact ⟨[], ⟨blk, off, []⟩, ⟨fun i u e => by simp at e, rfl, .inr ⟨0, rfl, Nat.le_refl 0⟩⟩, h1, h2⟩
  · refine ⟨l, ⟨blk, off, l.flatMap f⟩, ⟨fun i u hu => ⟨h5 i u hu, ?_⟩, rfl, .inr ⟨cap, h3, h4⟩⟩, h1, h2⟩
    obtain ⟨y, hy, hu'⟩ := List.mem_flatMap.1 (List.mem_of_getElem? hu)
    exact hflat y u hu'
theorem maxLen_le : maxLen ≤ 9223372036854775807 := by decide

end Go.Ax

/-! A harvest as an argument: its beds and its rates, and what they hold. -/
namespace Go.Ax
open Go Go.RowKit Go.Proofs Go.ChangeShapes Go.WideShapes Go.Deep

def renOf (imps : List Imp) : Ren := fun b => (imps[b]?).map fun x => ⟨x.blk, x.off, none⟩
theorem imports3 {P : Program} (imps outs : List Imp) (w : World) (h : ∀ x ∈ imps, ∀ (i : Nat) v, x.cs[i]? = some v → w.cell? ⟨x.blk, x.off + i, none⟩ = some v ∧ flat1 v = true)
    (hcs : ∀ x ∈ outs, ∀ (i : Nat) v, x.cs[i]? = some v → ∃ v', w.cell? ⟨x.blk, x.off + i, none⟩ = some v' ∧ VR (renOf imps) v v') :
    ∃ (r : Ren) (H : Hp), Rel P r w.heap.size H w ∧ H.next = (imps ++ outs).length ∧ (∀ b loc, r b = some loc → b < H.next) ∧ Ren.Le (renOf imps) r ∧ ∀ (b : Nat) x, (imps ++ outs)[b]? = some x → r b = some ⟨x.blk, x.off, none⟩ ∧ H.t.get b = some (.ro x.cs) := by
  have hall : ∀ x ∈ imps ++ outs, ∀ (i : Nat) v, x.cs[i]? = some v → ∃ v', w.cell? ⟨x.blk, x.off + i, none⟩ = some v' ∧ VR (renOf imps) v v' := by
    intro x hx i v hv
    rcases List.mem_append.1 hx with hx | hx
    · obtain ⟨h1, h2⟩ := h x hx i v hv
      exact ⟨v, h1, flat1_vr h2⟩
    · exact hcs x hx i v hv
  obtain ⟨t, ht⟩ := tr_of (fun b => ((imps ++ outs)[b]?).map fun x => .ro x.cs) (imps ++ outs).length
  have hle : Ren.Le (renOf imps) (fun b => ((imps ++ outs)[b]?).map fun x => ⟨x.blk, x.off, none⟩) := fun b loc e => by
    unfold renOf at e
    have hlt : b < imps.length := by
      rcases Nat.lt_or_ge b imps.length with q | q
      · exact q
      · rw [List.getElem?_eq_none q] at e; cases e
    show ((imps ++ outs)[b]?).map _ = _
    rw [List.getElem?_append_left hlt]; exact e
  have hr : ∀ (b : Nat) loc, ((imps ++ outs)[b]?).map (fun x => (⟨x.blk, x.off, none⟩ : Loc)) = some loc → ∃ x, (imps ++ outs)[b]? = some x ∧ b < (imps ++ outs).length ∧ loc = ⟨x.blk, x.off, none⟩ ∧ t.get b = some (.ro x.cs) := by
    intro b loc e
    cases hx : (imps ++ outs)[b]? with
    | none => rw [hx] at e; cases e
    | some x =>
      rw [hx] at e
      simp at e
      have hlt := get_lt hx
      exact ⟨x, rfl, hlt, e.symm, by rw [ht, if_pos hlt, hx]; rfl⟩
  have low : ∀ {g o : Nat} {v : Value}, w.cell? ⟨g, o, none⟩ = some v → g < w.heap.size := fun {g o v} hv => by
    unfold World.cell? at hv
    rcases Nat.lt_or_ge g w.heap.size with q | q
    · exact q
    · rw [Array.getElem?_eq_none q] at hv; cases hv
  refine ⟨fun b => ((imps ++ outs)[b]?).map fun x => ⟨x.blk, x.off, none⟩, { next := (imps ++ outs).length, t }, ⟨?_, ?_, ?_, Nat.le_refl _⟩, rfl, ?_, hle, ?_⟩
  · intro b loc e
    obtain ⟨x, hx, hlt, rfl, hg⟩ := hr b loc e
    refine ⟨hlt, ?_⟩
    show Dm _ _ _ (t.get b)
    rw [hg]
    cases hc : x.cs with
    | nil => exact .inl rfl
    | cons v l =>
      obtain ⟨v', h1, _⟩ := hall x (List.mem_of_getElem? hx) 0 v (by rw [hc]; rfl)
      exact .inr (low h1)
  · intro b loc o e eo
    obtain ⟨x, hx, hlt, rfl, hg⟩ := hr b loc e
    rw [hg] at eo; cases eo
    refine ⟨rfl, fun i v ev => ?_⟩
    obtain ⟨v', h1, h2⟩ := hall x (List.mem_of_getElem? hx) i v ev
    unfold World.cell? at h1
    simp only at h1
    split at h1
    · rename_i C e' f hC
      exact ⟨C, e', f, v', hC, by simpa using h1, h2.mono hle⟩
    · cases h1
  · intro b b' loc loc' e e' _ hl _
    obtain ⟨x, hx, hlt, rfl, hg⟩ := hr b loc e
    obtain ⟨o, h1, h2, h3⟩ := hl
    have : t.get b = some o := h1
    rw [hg] at this; cases this
    cases h3
  · intro b loc e
    obtain ⟨x, hx, hlt, rfl, hg⟩ := hr b loc e
    exact hlt
  · intro b x hx
    have hlt := get_lt hx
    refine ⟨by simp only [hx, Option.map_some], ?_⟩
    show t.get b = _
    rw [ht, if_pos hlt, hx]; rfl

/-- An inner slice, as it is given: an empty one may have any address. -/
structure GivI {α : Type} (w : World) (v : Value) (f : α → List Value) (l : List α) (x : Imp) : Prop where
  ok : ∀ (i : Nat) u, x.cs[i]? = some u → w.cell? ⟨x.blk, x.off + i, none⟩ = some u ∧ flat1 u = true
  cs : x.cs = l.flatMap f
  v : ((v = .slice none 0 0 ∨ ∃ a', v = .slice (some a') 0 0) ∧ l = []) ∨ ∃ cap, v = .slice (some ⟨x.blk, x.off, none⟩) l.length cap ∧ l.length ≤ cap
theorem givI_of {H : Type} {enc : TypeId × Value → H} {P : Program} {w : World} {base : Nat} {held : Bool} {α : Type} {f : α → List Value} {Q : α → Prop} {k : Nat} {t e : TypeId} {fuel : Nat} {v : Value} {x : DataW H × List MemPlace}
    (ht : P.underlying t = some (.slice e)) (hR : ∀ (fuel : Nat) (cs : List Value) (x : DataW H × List MemPlace), DataW.trod enc P w base (fun _ => true) held fuel e cs = some x → ∃ y : α, cs = f y ∧ Q y) (hc : P.cellsOf e = k) (hk : 0 < k) (hfk : ∀ y, (f y).length = k) (hflat : ∀ y u, u ∈ f y → flat1 u = true)
    (h : DataW.trod enc P w base (fun _ => true) held fuel t [v] = some x) : ∃ (l : List α) (y : Imp), GivI w v f l y := by
  obtain ⟨l, h1, h2, ⟨h3, rfl⟩ | ⟨blk, off, cap, h3, h4, h5⟩⟩ := rows_read ht hR hc hk hfk h
  · exact ⟨[], ⟨0, 0, []⟩, ⟨fun i u e => by simp at e, rfl, .inl ⟨h3, rfl⟩⟩⟩
  · refine ⟨l, ⟨blk, off, l.flatMap f⟩, ⟨fun i u hu => ⟨h5 i u hu, ?_⟩, rfl, .inr ⟨cap, h3, h4⟩⟩⟩
    obtain ⟨y, hy, hu'⟩ := List.mem_flatMap.1 (List.mem_of_getElem? hu)
    exact hflat y u hu'
theorem GivI.rel {α : Type} {w : World} {v : Value} {f : α → List Value} {l : List α} {x : Imp} (g : GivI w v f l x) {r : Ren} {b : Nat} (hr : r b = some ⟨x.blk, x.off, none⟩) :
    ∃ a cap, VR r (.slice a l.length cap) v ∧ (∀ y, a = some ⟨y, 0, none⟩ → y = b) ∧ ∀ H : Hp, b < H.next → H.t.get b = some (.ro x.cs) → Sl H a l.length cap (l.flatMap f) := by
  rcases g.v with ⟨rfl | ⟨a', rfl⟩, rfl⟩ | ⟨cap, rfl, hl⟩
  · exact ⟨none, 0, .nilSlice, fun y e => by (cases e), fun H _ _ => .inl ⟨.inl rfl, rfl, rfl, rfl⟩⟩
  · exact ⟨some ⟨0, 0, some 0⟩, 0, .weird, fun y e => by (cases e), fun H _ _ => .inl ⟨.inr rfl, rfl, rfl, rfl⟩⟩
  · refine ⟨some ⟨b, 0, none⟩, cap, ?_, fun y e => by (cases e; rfl), fun H hb hc => .inr ⟨b, rfl, ⟨hb, by unfold cellsOf; rw [hc, g.cs]⟩, hl⟩⟩
    have := VR.slice (o := 0) (n := l.length) (c := cap) hr rfl hl
    simpa using this
structure BV where
  need : Int
  l1 : Int
  l2 : Int
  wv : Value
  ws : List (Int × Int)
  x : Imp
def BV.f (b : BV) : List Value := [iv b.need, iv b.l1, iv b.l2, b.wv]
def BV.Q (w : World) (b : BV) : Prop := GivI w b.wv (fun s : Int × Int => [iv s.1, iv s.2]) b.ws b.x
structure RV where
  rv : Value
  l : List Int
  x : Imp
def RV.f (r : RV) : List Value := [r.rv]
def RV.Q (w : World) (r : RV) : Prop := GivI w r.rv (fun n : Int => [iv n]) r.l r.x
theorem bogs_abs {w : World} {imps : List Imp} : ∀ (L : List BV) (pre post : List Imp), imps = pre ++ L.map BV.x ++ post → (∀ b ∈ L, b.Q w) → ∃ bs : List Bg, bs.length = L.length ∧ LR (renOf imps) (bgc bs) (L.flatMap BV.f) ∧
    ∀ (H : Hp) (f : Nat), imps.length ≤ f → (∀ (b : Nat) x, imps[b]? = some x → b < H.next ∧ H.t.get b = some (.ro x.cs)) → ∀ b ∈ bs, Sl H b.wa b.wn b.wcap (spc b.ws) ∧ b.ws.length = b.wn ∧ ∀ x, b.wa = some ⟨x, 0, none⟩ → x < f
  | [], _, _, _, _ => ⟨[], rfl, .nil, fun _ _ _ _ b hb => by simp at hb⟩
  | b :: L, pre, post, he, hq => by
    obtain ⟨bs, e1, e2, e3⟩ := bogs_abs (imps := imps) L (pre ++ [b.x]) post (by rw [he]; simp) (fun x hx => hq x (List.mem_cons_of_mem _ hx))
    have q := hq b (List.mem_cons_self ..)
    have i1 : imps[pre.length]? = some b.x := by rw [he]; simp
    obtain ⟨a1, c1, r1, y1, l1⟩ := GivI.rel q (r := renOf imps) (b := pre.length) (by unfold renOf; rw [i1]; rfl)
    refine ⟨⟨b.need, b.l1, b.l2, a1, b.ws.length, c1, b.ws⟩ :: bs, by simp [e1], ?_, fun H f hf hH x hx => ?_⟩
    · show LR (renOf imps) (iv b.need :: iv b.l1 :: iv b.l2 :: .slice a1 b.ws.length c1 :: bgc bs) (iv b.need :: iv b.l1 :: iv b.l2 :: b.wv :: L.flatMap BV.f)
      exact .cons (.int _ _) (.cons (.int _ _) (.cons (.int _ _) (.cons r1 e2)))
    · simp only [List.mem_cons] at hx
      rcases hx with rfl | hx
      · obtain ⟨b1, d1⟩ := hH _ _ i1
        exact ⟨l1 H b1 d1, rfl, fun x e => by have := y1 x e; have := get_lt i1; omega⟩
      · exact e3 H f hf hH x hx
theorem rates_abs {w : World} {imps : List Imp} : ∀ (L : List RV) (pre post : List Imp), imps = pre ++ L.map RV.x ++ post → (∀ b ∈ L, b.Q w) → ∃ bs : List Rw, bs.length = L.length ∧ LR (renOf imps) (rwc bs) (L.flatMap RV.f) ∧
    ∀ (H : Hp) (f : Nat), imps.length ≤ f → (∀ (b : Nat) x, imps[b]? = some x → b < H.next ∧ H.t.get b = some (.ro x.cs)) → ∀ b ∈ bs, Sl H b.ra b.n b.cap (ints b.l) ∧ b.l.length = b.n ∧ ∀ x, b.ra = some ⟨x, 0, none⟩ → x < f
  | [], _, _, _, _ => ⟨[], rfl, .nil, fun _ _ _ _ b hb => by simp at hb⟩
  | b :: L, pre, post, he, hq => by
    obtain ⟨bs, e1, e2, e3⟩ := rates_abs (imps := imps) L (pre ++ [b.x]) post (by rw [he]; simp) (fun x hx => hq x (List.mem_cons_of_mem _ hx))
    have q := hq b (List.mem_cons_self ..)
    have i1 : imps[pre.length]? = some b.x := by rw [he]; simp
    obtain ⟨a1, c1, r1, y1, l1⟩ := GivI.rel q (r := renOf imps) (b := pre.length) (by unfold renOf; rw [i1]; rfl)
    refine ⟨⟨a1, b.l.length, c1, b.l⟩ :: bs, by simp [e1], ?_, fun H f hf hH x hx => ?_⟩
    · show LR (renOf imps) (.slice a1 b.l.length c1 :: rwc bs) (b.rv :: L.flatMap RV.f)
      exact .cons r1 e2
    · simp only [List.mem_cons] at hx
      rcases hx with rfl | hx
      · obtain ⟨b1, d1⟩ := hH _ _ i1
        exact ⟨by rw [← flat_ints]; exact l1 H b1 d1, rfl, fun x e => by have := y1 x e; have := get_lt i1; omega⟩
      · exact e3 H f hf hH x hx
/-- A list of rows that point elsewhere, as it is given. -/
structure GivO {α : Type} (w : World) (v : Value) (f : α → List Value) (l : List α) (x : Imp) : Prop where
  cs : ∀ (i : Nat) u, (l.flatMap f)[i]? = some u → w.cell? ⟨x.blk, x.off + i, none⟩ = some u
  v : ((v = .slice none 0 0 ∨ ∃ a', v = .slice (some a') 0 0) ∧ l = []) ∨ ∃ cap, v = .slice (some ⟨x.blk, x.off, none⟩) l.length cap ∧ l.length ≤ cap
theorem givO_rel {α : Type} {w : World} {v : Value} {f : α → List Value} {l : List α} {x : Imp} (g : GivO w v f l x) {r : Ren} {H : Hp} {b n : Nat} {cs : List Value} (hr : r b = some ⟨x.blk, x.off, none⟩) (hb : b < H.next) (hg : H.t.get b = some (.ro cs)) (hn : n = l.length) (h0 : l = [] → cs = []) :
    ∃ a cap, VR r (.slice a n cap) v ∧ Sl H a n cap cs := by
  subst hn
  rcases g.v with ⟨rfl | ⟨a', rfl⟩, rfl⟩ | ⟨cap, rfl, hl⟩
  · exact ⟨none, 0, .nilSlice, .inl ⟨.inl rfl, rfl, rfl, h0 rfl⟩⟩
  · exact ⟨some ⟨0, 0, some 0⟩, 0, .weird, .inl ⟨.inr rfl, rfl, rfl, h0 rfl⟩⟩
  · refine ⟨some ⟨b, 0, none⟩, cap, ?_, .inr ⟨b, rfl, ⟨hb, by unfold cellsOf; rw [hg]⟩, hl⟩⟩
    have := VR.slice (o := 0) (n := l.length) (c := cap) hr rfl hl
    simpa using this
/-- A harvest, as it is given. -/
structure HG (w : World) (s1 s2 : Value) (L1 : List BV) (L2 : List RV) (x1 x2 : Imp) : Prop where
  g1 : GivO w s1 BV.f L1 x1
  g2 : GivO w s2 RV.f L2 x2
  q1 : ∀ b ∈ L1, b.Q w
  q2 : ∀ b ∈ L2, b.Q w
theorem imports_harvest {P : Program} (pre : List Imp) {w : World} {s1 s2 : Value} {L1 : List BV} {L2 : List RV} {x1 x2 : Imp} (hg : HG w s1 s2 L1 L2 x1 x2) (inlet reserve winds : Int) (h : ∀ x ∈ pre, ∀ (i : Nat) v, x.cs[i]? = some v → w.cell? ⟨x.blk, x.off + i, none⟩ = some v ∧ flat1 v = true) :
    ∃ (r : Ren) (H : Hp) (g : Fh), Rel P r w.heap.size H w ∧ (∀ b loc, r b = some loc → b < H.next) ∧ (∀ (b : Nat) x, pre[b]? = some x → b < H.next ∧ r b = some ⟨x.blk, x.off, none⟩ ∧ H.t.get b = some (.ro x.cs)) ∧ g.At H.next H ∧ g.inlet = inlet ∧ g.reserve = reserve ∧ g.winds = winds ∧
      VR r (.slice g.ba g.bn g.bcap) s1 ∧ VR r (.slice g.ra g.rn g.rcap) s2 := by
  obtain ⟨bs, b1, b2, b3⟩ := bogs_abs (w := w) (imps := pre ++ L1.map BV.x ++ L2.map RV.x) L1 pre (L2.map RV.x) rfl hg.q1
  obtain ⟨rs, r1, r2, r3⟩ := rates_abs (w := w) (imps := pre ++ L1.map BV.x ++ L2.map RV.x) L2 (pre ++ L1.map BV.x) [] (by simp) hg.q2
  obtain ⟨imps, himps⟩ : ∃ imps, imps = pre ++ L1.map BV.x ++ L2.map RV.x := ⟨_, rfl⟩
  rw [← himps] at b2 b3 r2 r3
  have himp : ∀ x ∈ imps, ∀ (i : Nat) v, x.cs[i]? = some v → w.cell? ⟨x.blk, x.off + i, none⟩ = some v ∧ flat1 v = true := by
    intro x hx
    rw [himps] at hx
    simp only [List.mem_append, List.mem_map] at hx
    rcases hx with (hx | ⟨y, hy, rfl⟩) | ⟨y, hy, rfl⟩
    · exact h x hx
    · exact (hg.q1 y hy).ok
    · exact (hg.q2 y hy).ok
  have side : ∀ {α : Type} {v : Value} {f : α → List Value} {l : List α} {x : Imp} {cs : List Value}, GivO w v f l x → LR (renOf imps) cs (l.flatMap f) → ∀ (i : Nat) u, cs[i]? = some u → ∃ v', w.cell? ⟨x.blk, x.off + i, none⟩ = some v' ∧ VR (renOf imps) u v' := by
    intro α v f l x cs gv hl i u hu
    have hlt := get_lt hu
    have hlt2 : i < (l.flatMap f).length := by rw [← hl.1]; exact hlt
    have hu2 := List.getElem?_eq_getElem hlt2
    exact ⟨_, gv.cs i _ hu2, hl.2 i u _ hu hu2⟩
  obtain ⟨r, H, h1, h2, h3, h4, h5⟩ := imports3 (P := P) imps [⟨x1.blk, x1.off, bgc bs⟩, ⟨x2.blk, x2.off, rwc rs⟩] w himp (by
    intro x hx i u hu
    simp only [List.mem_cons, List.not_mem_nil, or_false] at hx
    rcases hx with rfl | rfl
    · exact side hg.g1 b2 i u hu
    · exact side hg.g2 r2 i u hu)
  have hnx : H.next = imps.length + 2 := by rw [h2]; simp
  have hg5 : ∀ (b : Nat) x, imps[b]? = some x → r b = some ⟨x.blk, x.off, none⟩ ∧ H.t.get b = some (.ro x.cs) := fun b x hx => h5 b x (by rw [List.getElem?_append_left (get_lt hx)]; exact hx)
  have hH : ∀ (b : Nat) x, imps[b]? = some x → b < H.next ∧ H.t.get b = some (.ro x.cs) := fun b x hx => ⟨by have := get_lt hx; omega, (hg5 b x hx).2⟩
  obtain ⟨o1, p1⟩ := h5 imps.length ⟨x1.blk, x1.off, bgc bs⟩ (by simp)
  obtain ⟨o2, p2⟩ := h5 (imps.length + 1) ⟨x2.blk, x2.off, rwc rs⟩ (by simp)
  obtain ⟨a1, c1, v1, s1'⟩ := givO_rel hg.g1 o1 (by omega) p1 b1 (fun e => by have : bs = [] := List.eq_nil_of_length_eq_zero (by rw [b1, e]; rfl); rw [this]; rfl)
  obtain ⟨a2, c2, v2, s2'⟩ := givO_rel hg.g2 o2 (by omega) p2 r1 (fun e => by have : rs = [] := List.eq_nil_of_length_eq_zero (by rw [r1, e]; rfl); rw [this]; rfl)
  refine ⟨r, H, ⟨a1, bs.length, c1, bs, a2, rs.length, c2, rs, inlet, reserve, winds⟩, h1, h3, fun b x hx => ?_, ?_, rfl, rfl, rfl, v1, v2⟩
  · have hx2 : imps[b]? = some x := by rw [himps, List.append_assoc, List.getElem?_append_left (get_lt hx)]; exact hx
    exact ⟨(hH b x hx2).1, hg5 b x hx2⟩
  · exact ⟨Nat.le_refl _, s1', s2', rfl, rfl, fun x e => s1'.old x e, fun x e => s2'.old x e, b3 H H.next (by omega) hH, r3 H H.next (by omega) hH⟩
end Go.Ax

